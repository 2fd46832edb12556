/- The program's rows of pictures, as texts. No conditions but those typed. -/
import Derived.Test.YtjncnjcpcmpmcaaDoorBuild
import Derived.Test.YtjncnjcpcmpmcaaDoorRunI
import Derived.Test.YtjncnjcpcmpmcaaDoorHas2
import Derived.Test.YtjncnjcpcmpmcaaDoorBox
import Derived.Test.YtjncnjcpcmpmcaaDoorRowsT
namespace Go.Proofs.YtjncnjcpcmpmcaaDoor
open Go.RowKit Go.Sort

/-- one row's spots -/
def lineL (x y : Int) (n : Nat) : List Sp := (List.range n).map fun i : Nat => ((x + (i : Int), y) : Sp)
theorem lineL_at (x y : Int) {n i : Nat} (h : i < n) : (lineL x y n)[i]? = some (x + (i : Int), y) := by
  unfold lineL
  rw [List.getElem?_map, List.getElem?_range h]; rfl
theorem runCells_line (y f t : Int) : runCells ((y, f), t) = lineL f y (span f t) := by
  refine sorted_ext (sorted_runCells _) ?_ fun a => ?_
  · refine List.pairwise_map.2 (List.pairwise_lt_range.imp fun {i j} h => ?_)
    refine .inr ⟨rfl, ?_⟩
    show f + (i : Int) < f + (j : Int)
    omega
  · rw [mem_runCells]
    unfold lineL
    rw [List.mem_map]
    simp only [List.mem_range]
    constructor
    · rintro ⟨h1, h2, h3⟩
      refine ⟨(a.1 - f).toNat, by unfold span; omega, Prod.ext ?_ h3.symm⟩
      show f + ((a.1 - f).toNat : Int) = a.1
      omega
    · rintro ⟨i, h1, rfl⟩
      unfold span at h1
      exact ⟨show f ≤ f + (i : Int) by omega, show f + (i : Int) ≤ t by omega, rfl⟩
set_option maxRecDepth 100000 in
set_option maxHeartbeats 1600000 in
theorem rowText_any (ps : List Sp) (v : Value) (y f t : Int) (w : World) (h : Reads w w.heap.size v ps) (hs : Sorted ps) (hl : ps.length ≤ 1000000) (hr : RunIn ((y, f), t)) :
    Calls Tryd.prog 49 #[v, .agg #[.int .i64 y, .int .i64 f, .int .i64 t]] w (Gives (strV (txtRow ps f y (span f t))) w) := by
  have bA := (Below.refl w.heap.size w).alloc (Nat.le_refl _) (.cells #[.int .i64 y, .int .i64 f, .int .i64 t] 66)
  have bB := bA.alloc bA.size (.cells #[.pointer none, .slice none 0 0] 76)
  have i0 := isB_fresh (w.alloc (.cells #[.int .i64 y, .int .i64 f, .int .i64 t] 66))
  have hG : (w.alloc (.cells #[.int .i64 y, .int .i64 f, .int .i64 t] 66)).heap.size = w.heap.size + 1 := by simp
  rw [hG] at i0
  have hn : span f t ≤ 61 := by
    obtain ⟨h1, h2, h3, h4, h5, h6⟩ := hr
    simp only at h1 h2 h3 h4 h5 h6
    unfold span; omega
  have HL := Lib.hid (runCells_line y f t)
  obtain ⟨n, hn'⟩ : ∃ n, span f t = n := ⟨_, rfl⟩
  rw [hn'] at hn HL ⊢
  clear hn'
  have hlen : (lineL f y n).length = n := by unfold lineL; simp
  go_enter Tryd.func49, Tryd.ntmps49
  go_wp2_with fail
  refine (runSpots_any y f t _ hr).mono ?_
  rintro e w2 ⟨v2, rfl, o2, b2⟩
  rw [HL.out] at o2
  obtain ⟨A2, c2, rfl, hc2, hm2⟩ := o2.reads.slice
  unfold maxLen at hm2
  rw [hlen] at hc2 o2 ⊢
  have i2 := i0.below b2
  have bb := below_step bB b2
  have hG2 : w.heap.size + 1 ≤ w2.heap.size := by have := b2.size; simp only [World.size_alloc] at this; omega
  clear i0 bA bB b2
  go_wp2
  go_loopw [11] (fun i wr => ∃ j : Nat, j ≤ n ∧ i = .int .i64 (j : Int) ∧ IsB (w.heap.size + 1) (w.heap.size + 1) (txtRow ps f y j) wr ∧ Owns wr (w.heap.size + 2) (.slice A2 n c2) (lineL f y n) ∧ Below w.heap.size w wr ∧ w.heap.size + 1 ≤ wr.heap.size) (fun i _ => n - (intOf i).toNat)
  case atStart => exact ⟨0, Nat.zero_le _, rfl, i2, o2.base (by simp only [World.size_alloc]; omega), bb, hG2⟩
  case round =>
    clear i2 o2 bb hG2
    obtain ⟨j, hj, rfl, ib, ow, hb, hGr⟩ := hrel
    by_cases hlt : j < n
    · have hd : decide ((j : Int) < (n : Int)) = true := decide_eq_true (by omega)
      obtain ⟨A, c, h1, _, _, hA, hcell⟩ := ow.reads.is
      rw [hlen] at h1
      cases h1
      obtain ⟨b, off, rfl, hbl, hcell⟩ := hcell (by omega)
      obtain ⟨c0, c1⟩ := hcell j (f + (j : Int)) y (lineL_at f y hlt)
      have hx1 : f + (j : Int) ≤ 100 := by
        obtain ⟨h1, h2, h3, h4, h5, h6⟩ := hr
        simp only at h1 h2 h3 h4 h5 h6
        omega
      have HT := Lib.hid (txtRow_succ ps f y j)
      have htl : (txtRow ps f y j).length ≤ 61 := by rw [txtRow_length]; omega
      have b3 := hb.alloc hb.size (.cells #[.int .i64 (f + (j : Int)), .int .i64 y] 32)
      have ba := (Below.refl wr.heap.size wr).alloc (Nat.le_refl _) (.cells #[.int .i64 (f + (j : Int)), .int .i64 y] 32)
      have ib3 := ib.below ba
      have ow3 := ow.below ba
      have hG3 : w.heap.size + 1 ≤ (wr.alloc (.cells #[.int .i64 (f + (j : Int)), .int .i64 y] 32)).heap.size := by simp only [World.size_alloc]; omega
      generalize txtRow ps f y j = T at *
      clear hA hcell ib ow hb ba
      obtain ⟨ok, hok⟩ : ∃ ok, decide (((f + (j : Int), y) : Sp) ∈ ps) = ok := ⟨_, rfl⟩
      rw [hok] at HT
      have ci := gives_is hok (inPicture_any ps v (f + (j : Int)) y _ (h.kept b3) hs hl)
      clear hok
      cases ok with
      | true =>
        have HT := Lib.hid (show txtRow ps f y (j + 1) = T ++ [35] from HT.out)
        go_wp2_with fail
        refine ci.mono ?_
        rintro e w4 ⟨rfl, b4⟩
        have ib4 := ib3.below b4
        have ow4 := ow3.below b4
        have bb := below_step b3 b4
        have hG4 := Nat.le_trans hG3 b4.size
        clear ib3 ow3 b3 b4 hG3 ci
        go_wp2_with fail
        refine (write_any _ _ T [35] _ ib4 (by omega) (by simp) hG4).mono ?_
        rintro e w5 ⟨rfl, ib5, b5, k5⟩
        have ow5 := ow4.others ib4 k5
        have bb := bb.trans (b5.mono (Nat.le_succ _))
        have hG5 := Nat.le_trans hG4 b5.size
        go_wp2
        go_roundw
        case rel => exact ⟨j + 1, by omega, by go_num, by rw [HT.out]; exact ib5, ow5, bb, hG5⟩
        case measure => simp [intOf]; omega
      | false =>
        have HT := Lib.hid (show txtRow ps f y (j + 1) = T ++ [46] from HT.out)
        go_wp2_with fail
        refine ci.mono ?_
        rintro e w4 ⟨rfl, b4⟩
        have ib4 := ib3.below b4
        have ow4 := ow3.below b4
        have bb := below_step b3 b4
        have hG4 := Nat.le_trans hG3 b4.size
        clear ib3 ow3 b3 b4 hG3 ci
        go_wp2_with fail
        refine (write_any _ _ T [46] _ ib4 (by omega) (by simp) hG4).mono ?_
        rintro e w5 ⟨rfl, ib5, b5, k5⟩
        have ow5 := ow4.others ib4 k5
        have bb := bb.trans (b5.mono (Nat.le_succ _))
        have hG5 := Nat.le_trans hG4 b5.size
        go_wp2
        go_roundw
        case rel => exact ⟨j + 1, by omega, by go_num, by rw [HT.out]; exact ib5, ow5, bb, hG5⟩
        case measure => simp [intOf]; omega
    · have hd : decide ((j : Int) < (n : Int)) = false := decide_eq_false (by omega)
      obtain rfl : j = n := by omega
      go_wp2_with fail
      refine (bstr_any _ _ _ _ ib hGr).mono ?_
      rintro e w6 ⟨rfl, b6⟩
      go_wp2
      go_ret
      exact ⟨rfl, hb.trans (b6.mono (Nat.le_succ _))⟩
theorem boxI_lit {p : List Sp} {v : Value} {w : World} {b : Bool} {q : Sp × Sp} (h : Reads w w.heap.size v p) (hb : boxOk p = b) (hq : boxR p = q) : Calls Tryd.prog 36 #[v] w (GivesBox q b w) := by
  subst hb hq; exact implBox_any p v w h
set_option maxRecDepth 100000 in
set_option maxHeartbeats 1600000 in
theorem implRowsT_any (ps : List Sp) (v : Value) (w : World) (h : Reads w w.heap.size v ps) : Calls Tryd.prog 20 #[v] w (GivesStrs (rowsT ps) w) := by
  obtain ⟨A, c, rfl, hc, hm⟩ := h.slice
  rcases hk : boxOk ps with _ | _
  · have e : rowsT ps = [] := rowsT_no (by unfold boxOk at hk; simpa using hk)
    rw [e]
    have cc := boxI_lit h hk (box_no hk)
    go_enter Tryd.func20, Tryd.ntmps20
    go_wp2_with fail
    refine cc.mono ?_
    rintro e w1 ⟨rfl, b1⟩
    have hs := b1.size
    go_wp2
    all_goals
      go_ret
      have b2 := (b1.alloc hs (.cells #[.int .i64 0, .int .i64 0] 32)).alloc (by simp; omega) (.cells #[.int .i64 0, .int .i64 0] 32)
      exact ⟨_, rfl, VOwns.nil _ _ _, b2⟩
  · have hp : picB ps = true := by unfold boxOk at hk; simp at hk; exact hk.1
    have h0 : ps ≠ [] := by unfold boxOk at hk; simp at hk; exact hk.2
    have eB : boxR ps = boxL ps := by unfold boxR; rw [hk]; rfl
    obtain ⟨k1, k2⟩ := box_in hp h0
    have s1 := span_eq (a := (boxL ps).1.1) (b := (boxL ps).2.1) (by omega)
    have s2 := span_eq (a := (boxL ps).1.2) (b := (boxL ps).2.2) (by omega)
    rw [rowsT_yes hp h0]
    have cc := boxI_lit h hk eB
    have hl := (picB_pic hp).1
    have hs := (picB_pic hp).2.2
    generalize boxL ps = B at *
    obtain ⟨⟨lx, ly⟩, ⟨hx, hy⟩⟩ := B
    simp only at k1 k2 s1 s2 ⊢
    have CL := Lib.hid (fun (y : Int) (hy1 : ly ≤ y) (hy2 : y ≤ hy) W (hW : Reads W W.heap.size (.slice A ps.length c) ps) => rowText_any ps _ y lx hx W hW hs (by omega) (show RunIn ((y, lx), hx) from ⟨by simp only []; omega, by simp only []; omega, by simp only []; omega, by simp only []; omega, by simp only []; omega, by simp only []; omega⟩))
    generalize span lx hx = n at *
    obtain ⟨m, hm'⟩ : ∃ m, span ly hy = m := ⟨_, rfl⟩
    rw [hm'] at s2 ⊢
    have HM := Lib.hid s2
    have hm61 : m ≤ 61 := by omega
    clear s1 s2 eB hk hm'
    go_enter Tryd.func20, Tryd.ntmps20
    go_wp2_with fail
    refine cc.mono ?_
    rintro e w1 ⟨rfl, b1⟩
    have hs1 := b1.size
    simp only
    have bW := (b1.alloc hs1 (.cells #[.int .i64 lx, .int .i64 ly] 32)).alloc (by simp; omega) (.cells #[.int .i64 hx, .int .i64 hy] 32)
    have q1 := first_block w1 (.cells #[.int .i64 lx, .int .i64 ly] 32) (.cells #[.int .i64 hx, .int .i64 hy] 32)
    have q2 := second_block w1 (.cells #[.int .i64 lx, .int .i64 ly] 32) (.cells #[.int .i64 hx, .int .i64 hy] 32)
    obtain ⟨c0, c1⟩ := cells_of_row q1
    obtain ⟨c2, c3⟩ := cells_of_row q2
    have hB : ((w1.alloc (.cells #[.int .i64 lx, .int .i64 ly] 32)).alloc (.cells #[.int .i64 hx, .int .i64 hy] 32)).heap.size = w1.heap.size + 2 := by simp
    clear q1 q2 cc
    go_wp2
    generalize ((w1.alloc (.cells #[.int .i64 lx, .int .i64 ly] 32)).alloc (.cells #[.int .i64 hx, .int .i64 hy] 32)) = W at *
    go_loopw [6, 7] (fun o y wr => ∃ j : Nat, j ≤ m ∧ y = .int .i64 (hy - (j : Int)) ∧ VOwns 9 wr (w1.heap.size + 2) o (strZ (txtRows ps lx hy n j)) ∧ Below (w1.heap.size + 2) W wr) (fun _ y _ => (intOf y - ly + 1).toNat)
    case atStart => exact ⟨0, Nat.zero_le _, int_is (by simp), VOwns.nil _ _ _, Below.refl _ _⟩
    case round =>
      obtain ⟨j, hj, rfl, own, hbw⟩ := hrel
      have hbs := hbw.size
      rw [hB] at hbs
      have d0 := (hbw.cell (p := ⟨w1.heap.size, 0, none⟩) (show w1.heap.size < w1.heap.size + 2 by omega)).trans c0
      have d1 := (hbw.cell (p := ⟨w1.heap.size, 1, none⟩) (show w1.heap.size < w1.heap.size + 2 by omega)).trans c1
      have d2 := (hbw.cell (p := ⟨w1.heap.size + 1, 0, none⟩) (show w1.heap.size + 1 < w1.heap.size + 2 by omega)).trans c2
      have d3 := (hbw.cell (p := ⟨w1.heap.size + 1, 1, none⟩) (show w1.heap.size + 1 < w1.heap.size + 2 by omega)).trans c3
      have bb := bW.trans (hbw.mono (show w.heap.size ≤ w1.heap.size + 2 by omega))
      obtain ⟨y, hy'⟩ : ∃ y, hy - (j : Int) = y := ⟨_, rfl⟩
      have HY := Lib.hid hy'
      rw [hy']
      clear hy' c0 c1 c2 c3 bW
      by_cases hlt : j < m
      · have hy1 : ly ≤ y := by have := HY.out; have := HM.out; omega
        have hy2 : y ≤ 30 := by have := HY.out; omega
        have hd : decide (ly ≤ y) = true := decide_eq_true hy1
        have HR := Lib.hid (show txtRows ps lx hy n (j + 1) = txtRows ps lx hy n j ++ [txtRow ps lx y n] by rw [txtRows_succ, HY.out])
        have ln : (txtRows ps lx hy n j).length ≤ 61 := by rw [txtRows_length]; omega
        have CX := Lib.hid (CL.out y hy1 (by have := HY.out; omega))
        generalize txtRows ps lx hy n j = L at *
        generalize txtRow ps lx y n = T at *
        go_wp2_with fail
        refine (CX.out _ (h.kept (by first | exact bb.drew | exact bb))).mono ?_
        rintro e w4 ⟨rfl, b4⟩
        have bb4 := below_step (by first | exact bb.drew | exact bb) b4
        have own4 := own.below b4
        have hs4 := b4.size
        have ow1 := own4.below ((Below.refl _ w4).alloc (Nat.le_refl _) (.cells #[strV T] 9))
        have d0 := (b4.cell (p := ⟨w1.heap.size, 0, none⟩) (show w1.heap.size < wr.heap.size by omega)).trans d0
        have d1 := (b4.cell (p := ⟨w1.heap.size, 1, none⟩) (show w1.heap.size < wr.heap.size by omega)).trans d1
        have bx := (hbw.trans (b4.mono hbs)).alloc (by omega) (.cells #[strV T] 9)
        go_wp2_with (at_builtin; refine wpList_append_Str (g := w4.heap.size) ow1 (x := strV T) (one_new _ _ _) rfl (by rw [strZ_len]; omega) (by simp only [World.size_alloc]; omega) rfl (.tmp 24) (.tmp 33) rfl rfl rfl ?_)
        intro v5 w5 o5 g5 hv5
        rw [← strZ_snoc, ← HR.out] at o5
        have bw5 := ow1.below_app bx (by simp only [World.size_alloc]; omega) g5
        go_wp2
        go_roundw
        case rel => exact ⟨j + 1, by omega, int_is (by have := HY.out; push_cast; omega), o5, bw5⟩
        case measure => simp [intOf]; omega
      · have hy1 : y < ly := by have := HY.out; have := HM.out; omega
        have hd : decide (ly ≤ y) = false := decide_eq_false (by omega)
        obtain rfl : j = m := by omega
        go_wp2
        go_ret
        exact ⟨_, rfl, own.lower (by omega), bb⟩
end Go.Proofs.YtjncnjcpcmpmcaaDoor
