/- The model's rows of pictures, as texts. No conditions but those typed. -/
import Derived.Test.YtjncnjcpcmpmcaaDoorTextS
import Derived.Test.YtjncnjcpcmpmcaaDoorHas
import Derived.Test.YtjncnjcpcmpmcaaDoorBoxS
import Derived.Test.YtjncnjcpcmpmcaaDoorOnes
namespace Go.Proofs.YtjncnjcpcmpmcaaDoor
open Go.RowKit Go.Sort

theorem int_is {a b : Int} (h : a = b) : Value.int .i64 a = .int .i64 b := by rw [h]
def strZ (r : List Bs) : List Value := r.map strV
theorem strZ_len (r : List Bs) : (strZ r).length = r.length := List.length_map _
theorem strZ_snoc (r : List Bs) (l : Bs) : strZ (r ++ [l]) = strZ r ++ [strV l] := by unfold strZ; rw [List.map_append]; rfl
def GivesStrs (r : List Bs) (w : World) (e : Ending) (w' : World) : Prop := ∃ v', e = .returned v' ∧ VOwns 9 w' w.heap.size v' (strZ r) ∧ Below w.heap.size w w'
set_option maxRecDepth 100000 in
set_option maxHeartbeats 1600000 in
theorem l11Rows_any (ps : List Sp) (v : Value) (lx ly hx hy : Int) (n m : Nat) (w : World) (h : Reads w w.heap.size v ps) (hs : Sorted ps) (hl : ps.length ≤ 1000) (hn : hx = lx + (n : Int) - 1) (hm : hy = ly + (m : Int) - 1) (hb1 : -30 ≤ lx ∧ hx ≤ 30) (hb2 : -30 ≤ ly ∧ hy ≤ 30) (hn1 : 1 ≤ n) (hm1 : 1 ≤ m) :
    Calls Tryd.prog 67 #[v, .agg #[.int .i64 lx, .int .i64 ly], .agg #[.int .i64 hx, .int .i64 hy]] w (GivesStrs (txtRows ps lx hy n m) w) := by
  have q1 := first_block w (.cells #[.int .i64 lx, .int .i64 ly] 32) (.cells #[.int .i64 hx, .int .i64 hy] 32)
  have q2 := second_block w (.cells #[.int .i64 lx, .int .i64 ly] 32) (.cells #[.int .i64 hx, .int .i64 hy] 32)
  have bW : Below w.heap.size w ((w.alloc (.cells #[.int .i64 lx, .int .i64 ly] 32)).alloc (.cells #[.int .i64 hx, .int .i64 hy] 32)) := ((Below.refl _ _).alloc (Nat.le_refl _) _).alloc (by simp) _
  have hB : ((w.alloc (.cells #[.int .i64 lx, .int .i64 ly] 32)).alloc (.cells #[.int .i64 hx, .int .i64 hy] 32)).heap.size = w.heap.size + 2 := by simp
  have o0 := VOwns.empty 9 ((w.alloc (.cells #[.int .i64 lx, .int .i64 ly] 32)).alloc (.cells #[.int .i64 hx, .int .i64 hy] 32)) _ (Nat.le_refl _)
  have b0 : Below _ ((w.alloc (.cells #[.int .i64 lx, .int .i64 ly] 32)).alloc (.cells #[.int .i64 hx, .int .i64 hy] 32)) _ := (Below.refl _ _).alloc (Nat.le_refl _) (.cells #[] 9)
  obtain ⟨c0, c1⟩ := cells_of_row q1
  obtain ⟨c2, c3⟩ := cells_of_row q2
  have HN := Lib.hid hn
  have HM := Lib.hid hm
  have hn2 : n ≤ 61 := by omega
  have hm2 : m ≤ 61 := by omega
  have e1 : w.heap.size + 1 < w.heap.size + 2 := by omega
  have e0 : w.heap.size < w.heap.size + 2 := by omega
  clear hn hm q1 q2
  rw [hB] at b0 o0
  go_enter Tryd.func67, Tryd.ntmps67
  go_wp2
  generalize ((w.alloc (.cells #[.int .i64 lx, .int .i64 ly] 32)).alloc (.cells #[.int .i64 hx, .int .i64 hy] 32)) = W at *
  go_loopw [7, 8] (fun o y wr => ∃ j : Nat, j ≤ m ∧ y = .int .i64 (hy - (j : Int)) ∧ VOwns 9 wr (w.heap.size + 2) o (strZ (txtRows ps lx hy n j)) ∧ Below (w.heap.size + 2) W wr) (fun _ y _ => (intOf y - ly + 1).toNat)
  case atStart => exact ⟨0, Nat.zero_le _, int_is (by simp), o0, b0⟩
  case round =>
    clear o0 b0
    obtain ⟨j, hj, rfl, own, hbw⟩ := hrel
    generalize wr = wo at *
    have hbs := hbw.size
    rw [hB] at hbs
    have d0 := (hbw.cell (p := ⟨w.heap.size, 0, none⟩) e0).trans c0
    have d1 := (hbw.cell (p := ⟨w.heap.size, 1, none⟩) e0).trans c1
    have d2 := (hbw.cell (p := ⟨w.heap.size + 1, 0, none⟩) e1).trans c2
    have d3 := (hbw.cell (p := ⟨w.heap.size + 1, 1, none⟩) e1).trans c3
    have hbw1 := bW.trans (hbw.mono (Nat.le_of_lt e0))
    obtain ⟨y, hy'⟩ : ∃ y, hy - (j : Int) = y := ⟨_, rfl⟩
    have HY := Lib.hid hy'
    rw [hy']
    clear hy'
    by_cases hlt : j < m
    · have hy1 : ly ≤ y := by have := HY.out; have := HM.out; omega
      have hy2 : y ≤ 30 := by have := HY.out; omega
      have HR := Lib.hid (show txtRows ps lx hy n (j + 1) = txtRows ps lx hy n j ++ [txtRow ps lx y n] by rw [txtRows_succ, HY.out])
      have ln : (txtRows ps lx hy n j).length ≤ 61 := by rw [txtRows_length]; omega
      generalize txtRows ps lx hy n j = L at *
      go_wp2
      go_loopw [9, 10] (fun t x wq => ∃ i : Nat, i ≤ n ∧ x = .int .i64 (lx + (i : Int)) ∧ t = .string (bs (txtRow ps lx y i)) ∧ Below wo.heap.size wo wq) (fun _ x _ => (hx - intOf x + 1).toNat)
      case atStart => exact ⟨0, Nat.zero_le _, int_is (by simp), rfl, Below.refl _ _⟩
      case round =>
        obtain ⟨i, hi, rfl, rfl, hb⟩ := hrel
        have e2 := (hb.cell (p := ⟨w.heap.size + 1, 0, none⟩) (Nat.lt_of_lt_of_le e1 hbs)).trans d2
        by_cases hli : i < n
        · have hx1 : lx + (i : Int) ≤ hx := by have := HN.out; omega
          have hd : decide (lx + (i : Int) ≤ hx) = true := decide_eq_true hx1
          have hin : (i : Int) ≤ 61 := by omega
          have HT := Lib.hid (txtRow_succ ps lx y i)
          have hlt' : (txtRow ps lx y i).length ≤ 61 := by rw [txtRow_length]; omega
          generalize txtRow ps lx y i = T at *
          have ha1 : ∀ W, (Op.stringOp .add (bs T) { data := #[35] }).run Tryd.prog W = .ok (.string (bs (T ++ [35]))) W := fun W => str_add T [35] W (by simp; omega)
          have ha2 : ∀ W, (Op.stringOp .add (bs T) { data := #[46] }).run Tryd.prog W = .ok (.string (bs (T ++ [46]))) W := fun W => str_add T [46] W (by simp; omega)
          by_cases hm' : ((lx + (i : Int), y) : Sp) ∈ ps
          · have HT := Lib.hid (HT.out.trans (by rw [decide_eq_true hm']; rfl : _ = T ++ [35]))
            have cc := Lib.hid (fun wq (hq : Below wo.heap.size wo wq) => gives_is (show decide (((lx + (i : Int), y) : Sp) ∈ ps) = true from decide_eq_true hm') (l1Has_any ps v (lx + (i : Int)) y wq ((h.kept hbw1).kept hq) hs (by omega)))
            go_wp2_with fail
            refine (cc.out _ hb).mono ?_
            rintro e w2 ⟨rfl, b2⟩
            have hb := below_step hb b2
            go_wp2
            go_roundw
            case rel => exact ⟨i + 1, by omega, int_is (by push_cast; omega), by rw [HT.out], hb⟩
            case measure => simp [intOf]; omega
          · have HT := Lib.hid (HT.out.trans (by rw [decide_eq_false hm']; rfl : _ = T ++ [46]))
            have cc := Lib.hid (fun wq (hq : Below wo.heap.size wo wq) => gives_is (show decide (((lx + (i : Int), y) : Sp) ∈ ps) = false from decide_eq_false hm') (l1Has_any ps v (lx + (i : Int)) y wq ((h.kept hbw1).kept hq) hs (by omega)))
            go_wp2_with fail
            refine (cc.out _ hb).mono ?_
            rintro e w2 ⟨rfl, b2⟩
            have hb := below_step hb b2
            go_wp2
            go_roundw
            case rel => exact ⟨i + 1, by omega, int_is (by push_cast; omega), by rw [HT.out], hb⟩
            case measure => simp [intOf]; omega
        · have hx1 : hx < lx + (i : Int) := by have := HN.out; omega
          have hd : decide (lx + (i : Int) ≤ hx) = false := decide_eq_false (by omega)
          obtain rfl : i = n := by omega
          have bws := hb.size
          have ow1 := (own.below hb).below ((Below.refl _ wr).alloc (Nat.le_refl _) (.cells #[strV (txtRow ps lx y i)] 9))
          have bb := hbw.trans (hb.mono hbs)
          generalize txtRow ps lx y i = T at *
          go_wp2_with (at_builtin; refine wpList_append_Str (g := wr.heap.size) ow1 (x := strV T) (one_new _ _ _) rfl (by rw [strZ_len]; omega) (by simp only [World.size_alloc]; omega) rfl (.tmp 37) (.tmp 39) rfl rfl rfl ?_)
          intro v4 w4 o4 g4 hv4
          rw [← strZ_snoc, ← HR.out] at o4
          have bw4 := ow1.below_app (bb.alloc (by omega) _) (by simp only [World.size_alloc]; omega) g4
          go_wp2
          go_roundw
          case rel => exact ⟨j + 1, by omega, int_is (by have := HY.out; push_cast; omega), o4, bw4⟩
          case measure => simp [intOf]; omega
    · have hy1 : y < ly := by have := HY.out; have := HM.out; omega
      obtain rfl : j = m := by omega
      go_wp2
      go_ret
      exact ⟨_, rfl, own.lower (by omega), hbw1⟩
theorem boxS_lit {p : List Sp} {v : Value} {w : World} {b : Bool} {q : Sp × Sp} (h : Reads w w.heap.size v p) (hb : boxOk p = b) (hq : boxR p = q) : Calls Tryd.prog 40 #[v] w (GivesBox q b w) := by
  subst hb hq; exact specBox_any p v w h
set_option maxRecDepth 100000 in
theorem specRows_any (ps : List Sp) (v : Value) (w : World) (h : Reads w w.heap.size v ps) : Calls Tryd.prog 42 #[v] w (GivesStrs (rowsT ps) w) := by
  rcases hk : boxOk ps with _ | _
  · have e : rowsT ps = [] := rowsT_no (by unfold boxOk at hk; simpa using hk)
    rw [e]
    have cc := boxS_lit h hk (box_no hk)
    go_enter Tryd.func42, Tryd.ntmps42
    go_wp2_with fail
    refine cc.mono ?_
    rintro e w1 ⟨rfl, b1⟩
    have hs := b1.size
    go_wp2
    all_goals
      go_ret
      have b2 := (b1.alloc hs (.cells #[.int .i64 0, .int .i64 0] 32)).alloc (by simp; omega) (.cells #[.int .i64 0, .int .i64 0] 32)
      have hv := VOwns.empty 9 _ _ b2.size
      simp only [World.size_alloc] at hv
      exact ⟨_, rfl, hv, b2.alloc b2.size _⟩
  · have hp : picB ps = true := by unfold boxOk at hk; simp at hk; exact hk.1
    have h0 : ps ≠ [] := by unfold boxOk at hk; simp at hk; exact hk.2
    have eB : boxR ps = boxL ps := by unfold boxR; rw [hk]; rfl
    obtain ⟨k1, k2⟩ := box_in hp h0
    have s1 := span_eq (a := (boxL ps).1.1) (b := (boxL ps).2.1) (by omega)
    have s2 := span_eq (a := (boxL ps).1.2) (b := (boxL ps).2.2) (by omega)
    rw [rowsT_yes hp h0]
    have cc := boxS_lit h hk eB
    have hl := (picB_pic hp).1
    have hs := (picB_pic hp).2.2
    generalize boxL ps = B at *
    obtain ⟨⟨lx, ly⟩, ⟨hx, hy⟩⟩ := B
    simp only at k1 k2 s1 s2 ⊢
    have CL := Lib.hid (fun W (hW : Reads W W.heap.size v ps) => l11Rows_any ps v lx ly hx hy (span lx hx) (span ly hy) W hW hs (by omega) (by omega) (by omega) (by omega) (by omega) (by omega) (by omega))
    clear s1 s2 eB hk
    go_enter Tryd.func42, Tryd.ntmps42
    go_wp2_with fail
    refine cc.mono ?_
    rintro e w1 ⟨rfl, b1⟩
    have hs1 := b1.size
    simp only
    have b2 := (b1.alloc hs1 (.cells #[.int .i64 lx, .int .i64 ly] 32)).alloc (by simp; omega) (.cells #[.int .i64 hx, .int .i64 hy] 32)
    go_wp2_with fail
    refine (CL.out _ (h.kept b2)).mono ?_
    rintro e w3 ⟨v3, rfl, o3, b3⟩
    go_wp2
    go_ret
    exact ⟨_, rfl, o3.lower b2.size, below_step b2 b3⟩
end Go.Proofs.YtjncnjcpcmpmcaaDoor
