/- The laws' own copies of desks, and their size: szSpotSS, szDesk, toSpotSS, toDesk. No conditions but those typed. -/
import Derived.Test.YtgdifenicjgfjaaDeskL
import Derived.Test.YtgdifenicjgfjaaCopy
namespace Go.Proofs.Ytgdifenicjgfjaa
open Go.RowKit Go.Sort

/-! ### size -/
/-- too much: the size of the first j lists -/
def SumAt (ls : List (List Sp)) (j : Nat) (left : Int) : Prop := (sumUpTo ls j : Int) + (ls.length : Int) ≤ left
set_option maxRecDepth 100000 in
set_option maxHeartbeats 800000 in
theorem szSS_any (ls : List (List Sp)) (v : Value) (left : Int) (w : World) (h : PReads w w.heap.size v ls) (h0 : 0 ≤ left) (h1 : left ≤ 1048576) :
    Calls Try.prog 37 #[v, .int .i64 left] w (Gives (.int .i64 (if left < (ls.length : Int) + ((ls.map List.length).sum : Int) then -1 else left - ((ls.length : Int) + ((ls.map List.length).sum : Int)))) w) := by
  obtain ⟨A, c, vs, rfl, hc, hm, hvl, hcell, hin⟩ := h.is
  unfold maxLen at hm
  generalize hR0 : (if left < (ls.length : Int) + ((ls.map List.length).sum : Int) then (-1 : Int) else left - ((ls.length : Int) + ((ls.map List.length).sum : Int))) = R
  have HR0 := Lib.hid hR0
  clear hR0
  by_cases hl0 : left < (ls.length : Int)
  · have e : R = -1 := by rw [← HR0.out, if_pos (by omega)]
    subst e
    clear HR0
    go_enter Try.func37, Try.ntmps37
    go_wp2
    go_ret
    exact ⟨rfl, Below.refl _ _⟩
  have HA := Lib.hid (sumUpTo_all ls)
  have hle : (ls.length : Int) ≤ left := by omega
  have hnn : ls.length ≤ 9223372036854775807 := by omega
  have hd : decide (left - (ls.length : Int) < 0) = false := decide_eq_false (by omega)
  go_enter Try.func37, Try.ntmps37
  go_wp2
  go_loopw [1, 5] (fun l i wr => ∃ (j : Nat), j ≤ ls.length ∧ i = .int .i64 j ∧ l = .int .i64 (left - ls.length - (sumUpTo ls j : Int)) ∧ (ls.length : Int) + (sumUpTo ls j : Int) ≤ left ∧ Below w.heap.size w wr) (fun _ i _ => ls.length - (intOf i).toNat)
  case atStart => exact ⟨0, Nat.zero_le _, rfl, by simp [sumUpTo], by simp [sumUpTo]; omega, Below.refl _ _⟩
  case round =>
    obtain ⟨j, hj, rfl, rfl, hsj, hbw⟩ := hrel
    by_cases hlt : j < ls.length
    · obtain ⟨p, hp⟩ : ∃ a, ls[j]? = some a := ⟨_, List.getElem?_eq_getElem hlt⟩
      obtain ⟨b, off, rfl, hb, hcv⟩ := hcell (by omega)
      obtain ⟨u, hu, hru⟩ := hin j _ hp
      have d0 := (hbw.cell (p := ⟨b, off + j, none⟩) hb).trans (hcv j _ hu)
      obtain ⟨Au, cu, rfl, hcu, hmu⟩ := hru.slice
      unfold maxLen at hmu
      have hm3 : (0 : Int) ≤ (j : Int) := Int.natCast_nonneg _
      have hm4 : (j : Int) < (ls.length : Int) := by omega
      have hsu := sumUpTo_succ hp
      have hsl := sumUpTo_le ls (j + 1)
      have HS := Lib.hid hsu
      have hA := HA.out
      by_cases hbig : left - ls.length - (sumUpTo ls j : Int) < (p.length : Int)
      · have HR := Lib.hid (show R = -1 by rw [← HR0.out]; exact if_pos (by omega))
        clear hp hu hsu hsl hA
        go_wp2_with fail
        refine (szSpotS_yes p.length cu Au (left - ls.length - (sumUpTo ls j : Int)) wr (by omega) (by omega) (by omega) hbig).mono ?_
        rintro e w1 ⟨rfl, b1⟩
        go_wp2
        go_ret
        exact ⟨ret_int HR.out.symm, below_step hbw b1⟩
      · have hsz : (ls.length : Int) + (sumUpTo ls (j + 1) : Int) ≤ left := by rw [hsu]; push_cast; omega
        have HX := Lib.hid (show left - ls.length - (sumUpTo ls j : Int) - (p.length : Int) = left - ls.length - (sumUpTo ls (j + 1) : Int) by rw [hsu]; push_cast; omega)
        clear hp hu hsu hsl hA
        go_wp2_with fail
        refine (szSpotS_no p.length cu Au (left - ls.length - (sumUpTo ls j : Int)) wr (by omega) (by omega) (by omega) (by omega)).mono ?_
        rintro e w1 ⟨rfl, b1⟩
        have hnn : 0 ≤ left - ls.length - (sumUpTo ls j : Int) - (p.length : Int) := by omega
        rw [HX.out] at hnn ⊢
        have b2 := below_step hbw b1
        go_wp2
        go_roundw
        case rel => exact ⟨j + 1, by omega, by go_num, rfl, hsz, b2⟩
        case measure => simp [intOf]; omega
    · obtain rfl : j = ls.length := by omega
      have HR := Lib.hid (show R = left - ls.length - (sumUpTo ls ls.length : Int) by
        rw [← HR0.out]
        rw [HA.out] at hsj ⊢
        rw [if_neg (by omega)]; omega)
      go_wp2
      go_ret
      exact ⟨ret_int HR.out.symm, hbw⟩
/-- how much a desk weighs -/
def dsz (d : Dk) : Nat := d.1.length + (d.2.length + (d.2.map List.length).sum)
theorem sz_sum {d : Dk} {m : Nat} (h : dsz d ≤ m) : dsum d ≤ m ∧ d.1.length ≤ m ∧ d.2.length ≤ m := by unfold dsz at h; unfold dsum; omega
theorem szSS_yes {ls : List (List Sp)} {v : Value} {left : Int} {w : World} (h : PReads w w.heap.size v ls) (h0 : 0 ≤ left) (h1 : left ≤ 1048576) (hk : left < (ls.length : Int) + ((ls.map List.length).sum : Int)) : Calls Try.prog 37 #[v, .int .i64 left] w (Gives (.int .i64 (-1)) w) := by
  have := szSS_any ls v left w h h0 h1
  rwa [if_pos hk] at this
theorem szSS_no {ls : List (List Sp)} {v : Value} {left r : Int} {w : World} (h : PReads w w.heap.size v ls) (h0 : 0 ≤ left) (h1 : left ≤ 1048576) (hk : left - ((ls.length : Int) + ((ls.map List.length).sum : Int)) = r) (hr : 0 ≤ r) : Calls Try.prog 37 #[v, .int .i64 left] w (Gives (.int .i64 r) w) := by
  have := szSS_any ls v left w h h0 h1
  rw [if_neg (by omega), hk] at this
  exact this
set_option maxHeartbeats 800000 in
theorem szDesk_yes {d : Dk} {v : Value} {left : Int} {w : World} (h : DeskR w w.heap.size v d) (h0 : 0 ≤ left) (h1 : left ≤ 1048576) (hk : left < (dsz d : Int)) : Calls Try.prog 18 #[v, .int .i64 left] w (Gives (.int .i64 (-1)) w) := by
  obtain ⟨n, p, rfl, rn, rp⟩ := h
  obtain ⟨An, cn, rfl, hcn, hmn⟩ := rn.slice
  obtain ⟨Ap, cp, rfl, hcp, hmp⟩ := rp.slice
  unfold maxLen at hmn hmp
  have b0 := box_below w #[.slice An d.1.length cn, .slice Ap d.2.length cp] 42
  obtain ⟨W, hW⟩ : ∃ W, W = w.alloc (.cells #[.slice An d.1.length cn, .slice Ap d.2.length cp] 42) := ⟨_, rfl⟩
  have q0 : W.cell? ⟨w.heap.size, 0, none⟩ = some (.slice An d.1.length cn) := by rw [hW]; simp [go_sem]
  have q1 : W.cell? ⟨w.heap.size, 1, none⟩ = some (.slice Ap d.2.length cp) := by rw [hW]; simp [go_sem]
  have s0 : w.heap.size < W.heap.size := by rw [hW]; simp
  rw [← hW] at b0
  have rp := rp.kept b0
  have hz : (dsz d : Int) = (d.1.length : Int) + ((d.2.length : Int) + ((d.2.map List.length).sum : Int)) := by unfold dsz; push_cast; rfl
  by_cases hx : left < (d.1.length : Int)
  · go_enter Try.func18, Try.ntmps18
    go_wp2_with (first | (rw [← hW]; clear hW) | fail)
    refine (szSpotS_yes d.1.length cn An left _ (by omega) (by omega) (by omega) hx).mono ?_
    rintro e w1 ⟨rfl, b1⟩
    go_wp2
    go_ret
    exact ⟨rfl, below_step b0 b1⟩
  · go_enter Try.func18, Try.ntmps18
    go_wp2_with (first | (rw [← hW]; clear hW) | fail)
    refine (szSpotS_no d.1.length cn An left _ (by omega) (by omega) (by omega) (by omega)).mono ?_
    rintro e w1 ⟨rfl, b1⟩
    have q1 := (b1.cell (p := ⟨w.heap.size, 1, none⟩) s0).trans q1
    have hnn : 0 ≤ left - (d.1.length : Int) := by omega
    go_wp2_with fail
    refine (szSS_yes (rp.kept b1) hnn (by omega) (by omega)).mono ?_
    rintro e w2 ⟨rfl, b2⟩
    go_wp2
    go_ret
    exact ⟨rfl, below_step (below_step b0 b1) b2⟩
set_option maxHeartbeats 800000 in
theorem szDesk_no {d : Dk} {v : Value} {left r : Int} {w : World} (h : DeskR w w.heap.size v d) (h0 : 0 ≤ left) (h1 : left ≤ 1048576) (hk : left - (dsz d : Int) = r) (hr : 0 ≤ r) : Calls Try.prog 18 #[v, .int .i64 left] w (Gives (.int .i64 r) w) := by
  obtain ⟨n, p, rfl, rn, rp⟩ := h
  obtain ⟨An, cn, rfl, hcn, hmn⟩ := rn.slice
  obtain ⟨Ap, cp, rfl, hcp, hmp⟩ := rp.slice
  unfold maxLen at hmn hmp
  have b0 := box_below w #[.slice An d.1.length cn, .slice Ap d.2.length cp] 42
  obtain ⟨W, hW⟩ : ∃ W, W = w.alloc (.cells #[.slice An d.1.length cn, .slice Ap d.2.length cp] 42) := ⟨_, rfl⟩
  have q0 : W.cell? ⟨w.heap.size, 0, none⟩ = some (.slice An d.1.length cn) := by rw [hW]; simp [go_sem]
  have q1 : W.cell? ⟨w.heap.size, 1, none⟩ = some (.slice Ap d.2.length cp) := by rw [hW]; simp [go_sem]
  have s0 : w.heap.size < W.heap.size := by rw [hW]; simp
  rw [← hW] at b0
  have rp := rp.kept b0
  have hz : (dsz d : Int) = (d.1.length : Int) + ((d.2.length : Int) + ((d.2.map List.length).sum : Int)) := by unfold dsz; push_cast; rfl
  have hx : (d.1.length : Int) ≤ left := by omega
  go_enter Try.func18, Try.ntmps18
  go_wp2_with (first | (rw [← hW]; clear hW) | fail)
  refine (szSpotS_no d.1.length cn An left _ (by omega) (by omega) (by omega) hx).mono ?_
  rintro e w1 ⟨rfl, b1⟩
  have q1 := (b1.cell (p := ⟨w.heap.size, 1, none⟩) s0).trans q1
  have hnn : 0 ≤ left - (d.1.length : Int) := by omega
  go_wp2_with fail
  refine (szSS_no (r := r) (rp.kept b1) hnn (by omega) (by omega) hr).mono ?_
  rintro e w2 ⟨rfl, b2⟩
  go_wp2
  go_ret
  exact ⟨rfl, below_step (below_step b0 b1) b2⟩

/-! ### copies -/
theorem take_set_succ {α : Type} {l : List α} {k : Nat} {x : α} (h : k < l.length) : (l.set k x).take (k + 1) = l.take k ++ [x] := by
  apply List.ext_getElem?
  intro j
  rcases Nat.lt_trichotomy j k with hj | hj | hj
  · rw [List.getElem?_take_of_lt (by omega), List.getElem?_set_ne (by omega), List.getElem?_append_left (by rw [List.length_take]; omega), List.getElem?_take_of_lt hj]
  · subst hj
    rw [List.getElem?_take_of_lt (by omega), List.getElem?_set_self h, List.getElem?_append_right (by rw [List.length_take]; omega), List.length_take, Nat.min_eq_left (by omega), Nat.sub_self]; rfl
  · rw [List.getElem?_eq_none (by rw [List.length_take, List.length_set]; omega), List.getElem?_eq_none (by rw [List.length_append, List.length_take, List.length_singleton]; omega)]
theorem take_succ_at {α : Type} {l : List α} {k : Nat} {x : α} (h : l[k]? = some x) : l.take (k + 1) = l.take k ++ [x] := by
  rw [List.take_add_one, h]; rfl
def GivesSS (ls : List (List Sp)) (w : World) (e : Ending) (w' : World) : Prop := ∃ v' vs, e = .returned v' ∧ VZ w' w.heap.size w'.heap.size v' vs ∧ InZ w' w.heap.size w'.heap.size vs ls ∧ Below w.heap.size w w'
set_option maxRecDepth 100000 in
set_option maxHeartbeats 1600000 in
theorem toSS_any (ls : List (List Sp)) (v : Value) (w : World) (h : PReads w w.heap.size v ls) (hl : (ls.map List.length).sum ≤ 1048576) (hn : ls.length ≤ 1048576) :
    Calls Try.prog 38 #[v] w (GivesSS ls w) := by
  obtain ⟨A, c, vs, rfl, hc, hm, hvl, hcell, hin⟩ := h.is
  unfold maxLen at hm
  have HA := Lib.hid (sumUpTo_all ls)
  go_enter Try.func38, Try.ntmps38
  go_wp2_with (at_make; refine wpList_make_Part ls.length (by omega) rfl _ _ rfl _ _ rfl rfl rfl rfl ?_; intro w1 ho1 hg1)
  have hb1 : Below w.heap.size w w1 := (Below.refl _ _).grown hg1 (Nat.le_refl _) (by simp)
  have hw1 : w.heap.size + 1 ≤ w1.heap.size := (ho1.lt w.heap.size rfl).2
  clear hg1
  have hO := Lib.hid ho1
  clear ho1
  go_loopw [4] (fun i wr => ∃ (k : Nat) (us : List Value), k ≤ ls.length ∧ i = .int .i64 k ∧ us.length = ls.length ∧ VOwns 23 wr w.heap.size (.slice (some ⟨w.heap.size, 0, none⟩) ls.length ls.length) us ∧ InZ wr (w.heap.size + 1) wr.heap.size (us.take k) (ls.take k) ∧ w.heap.size + 1 ≤ wr.heap.size ∧ Below w.heap.size w wr) (fun i _ => ls.length - (intOf i).toNat)
  case atStart => exact ⟨0, _, Nat.zero_le _, rfl, List.length_replicate, hO.out, InZ.nil _ _ _, hw1, hb1⟩
  case round =>
    obtain ⟨k, us, hk, rfl, hul, hvo, hvi, hws, hbw⟩ := hrel
    by_cases hlt : k < ls.length
    · obtain ⟨p, hp⟩ : ∃ a, ls[k]? = some a := ⟨_, List.getElem?_eq_getElem hlt⟩
      obtain ⟨b, off, rfl, hb, hcv⟩ := hcell (by omega)
      obtain ⟨u, hu, hru⟩ := hin k _ hp
      have d0 := (hbw.cell (p := ⟨b, off + k, none⟩) hb).trans (hcv k _ hu)
      have hru := hru.keptIn hbw
      have hm3 : (0 : Int) ≤ (k : Int) := Int.natCast_nonneg _
      have hm4 : (k : Int) < (ls.length : Int) := by omega
      have hsu := sumUpTo_succ hp
      have hsl := sumUpTo_le ls (k + 1)
      have hpl : p.length ≤ 1048576 := by have := HA.out; omega
      have HP := Lib.hid hp
      have HU := Lib.hid hul
      obtain ⟨Au, cu, rfl, _, _⟩ := hru.slice
      clear hp hu hsu hsl hul
      go_wp2_with fail
      refine (toSpotS_any p _ wr hru hpl).mono ?_
      rintro e w2 ⟨v2, rfl, o2, b2⟩
      obtain ⟨A2, c2, rfl, _, _⟩ := o2.reads.slice
      have hs2 := b2.size
      have hvo := hvo.below b2
      have hf := hvo.free k
      have hcl : ∃ x, w2.cell? ⟨w.heap.size, k, none⟩ = some x := ⟨_, (hvo.cell (k := k) (by rw [HU.out]; exact hlt)).trans (List.getElem?_eq_getElem (by rw [HU.out]; exact hlt))⟩
      obtain ⟨x0, q0⟩ := hcl
      have hvi := hvi.keptBy (w' := w2) (fun g _ h2 _ => b2.block g h2)
      have o3 := (OZ.of (hi := w2.heap.size) o2 (Nat.le_refl _))
      have hI := hvi.snoc o3 hws hs2
      rw [← take_succ_at HP.out, ← take_set_succ (l := us) (by rw [HU.out]; exact hlt)] at hI
      have hsz : (w2.setCell ⟨w.heap.size, k, none⟩ (.slice A2 p.length c2)).heap.size = w2.heap.size := by simp [World.setCell]
      have hI2 := hI.keptBy (w' := w2.setCell ⟨w.heap.size, k, none⟩ (.slice A2 p.length c2)) (fun g h1 _ _ => heap_setCell_other _ _ _ _ (by simp only []; omega))
      rw [← hsz] at hI2
      have hv2 := hvo.set k (.slice A2 p.length c2)
      have hb2 := (below_step hbw b2).setCell (p := ⟨w.heap.size, k, none⟩) (Nat.le_refl _) (.slice A2 p.length c2)
      have HUL := Lib.hid (show (us.set k (.slice A2 p.length c2)).length = ls.length by rw [List.length_set]; exact HU.out)
      have hws2 : w.heap.size + 1 ≤ (w2.setCell ⟨w.heap.size, k, none⟩ (.slice A2 p.length c2)).heap.size := by rw [hsz]; omega
      clear hvi o3 hI hvo o2
      go_wp2
      go_roundw
      case rel => exact ⟨k + 1, _, by omega, by go_num, HUL.out, hv2, hI2, hws2, hb2⟩
      case measure => simp [intOf]; omega
    · obtain rfl : k = ls.length := by omega
      rw [List.take_of_length_le (by omega), List.take_of_length_le (by omega)] at hvi
      rw [← hul] at hvo
      have hV := VZ.of hvo (Nat.le_refl _)
      rw [hul] at hV
      have hI := hvi.wider (Nat.le_succ w.heap.size) (Nat.le_refl _)
      clear hvo hvi hul
      go_wp2
      go_ret
      exact ⟨_, us, rfl, hV, hI, hbw⟩
theorem set3_other {W : World} {a b c : Addr} {x y z : Value} {g : Nat} (ha : g ≠ a.block) (hb : g ≠ b.block) (hc : g ≠ c.block) : (((W.setCell a x).setCell b y).setCell c z).heap[g]? = W.heap[g]? :=
  (heap_setCell_other _ _ _ _ hc).trans ((heap_setCell_other _ _ _ _ hb).trans (heap_setCell_other _ _ _ _ ha))
theorem size_set3 (W : World) (a b c : Addr) (x y z : Value) : (((W.setCell a x).setCell b y).setCell c z).heap.size = W.heap.size := by simp [World.setCell]
set_option maxRecDepth 100000 in
set_option maxHeartbeats 1600000 in
theorem toDesk_any (d : Dk) (v : Value) (w : World) (h : DeskR w w.heap.size v d) (hl : dsz d ≤ 1048576) : Calls Try.prog 19 #[v] w (GivesDesk d w) := by
  obtain ⟨n, p, rfl, rn, rp⟩ := h
  obtain ⟨An, cn, rfl, _, _⟩ := rn.slice
  obtain ⟨Ap, cp, rfl, _, _⟩ := rp.slice
  have hl' := hl
  unfold dsz at hl'
  obtain ⟨W, hW⟩ : ∃ W, W = ((w.alloc (.cells #[.slice An d.1.length cn, .slice Ap d.2.length cp] 42)).alloc (.cells #[.slice none 0 0, .slice none 0 0] 26)).alloc (.cells #[.slice none 0 0, .slice none 0 0] 26) := ⟨_, rfl⟩
  have b0 : Below w.heap.size w W := by rw [hW]; exact ((box_below w _ _).alloc (by simp) _).alloc (by simp; omega) _
  have q0 : W.cell? ⟨w.heap.size, 0, none⟩ = some (.slice An d.1.length cn) := by rw [hW]; simp [go_sem, World.cell?_alloc_past]
  have q1 : W.cell? ⟨w.heap.size, 1, none⟩ = some (.slice Ap d.2.length cp) := by rw [hW]; simp [go_sem, World.cell?_alloc_past]
  have s0 : W.heap.size = w.heap.size + 3 := by rw [hW]; simp
  have r1 : W.heap[w.heap.size + 1]? = some (.cells #[.slice none 0 0, .slice none 0 0] 26 (0, 0)) := by
    rw [hW]
    have h1 := heap_alloc_new (w.alloc (.cells #[.slice An d.1.length cn, .slice Ap d.2.length cp] 42)) (.cells #[.slice none 0 0, .slice none 0 0] 26)
    rw [World.size_alloc] at h1
    exact (((Below.refl (w.heap.size + 2) _).alloc (by simp) _).block (w.heap.size + 1) (by omega)).trans h1
  have r2 : W.heap[w.heap.size + 2]? = some (.cells #[.slice none 0 0, .slice none 0 0] 26 (0, 0)) := by
    rw [hW]
    have h1 := heap_alloc_new ((w.alloc (.cells #[.slice An d.1.length cn, .slice Ap d.2.length cp] 42)).alloc (.cells #[.slice none 0 0, .slice none 0 0] 26)) (.cells #[.slice none 0 0, .slice none 0 0] 26)
    rw [World.size_alloc, World.size_alloc] at h1
    exact h1
  have rt := rn.kept b0
  go_enter Try.func19, Try.ntmps19
  go_wp2_with (first | (rw [← hW]; clear hW) | fail)
  refine (toSpotS_any d.1 _ W rt (by omega)).mono ?_
  rintro e w1 ⟨v1, rfl, o1, b1⟩
  have q1 := (b1.cell (p := ⟨w.heap.size, 1, none⟩) (by simp only []; omega)).trans q1
  have r1 := (b1.block (w.heap.size + 1) (by omega)).trans r1
  have r2 := (b1.block (w.heap.size + 2) (by omega)).trans r2
  have hz1 := b1.size
  obtain ⟨A1, c1, rfl, _, _⟩ := o1.reads.slice
  obtain ⟨c20, c21⟩ := cells_of_row r2
  have f20 := frozen_of_row w1 _ 0 _ _ r2
  have z1 : w.heap.size + 1 + 1 < w1.heap.size := by omega
  have n1 : w.heap.size ≠ w.heap.size + 1 + 1 := by omega
  obtain ⟨W2, hW2⟩ : ∃ W2, W2 = w1.setCell ⟨w.heap.size + 1 + 1, 0, none⟩ (.slice A1 d.1.length c1) := ⟨_, rfl⟩
  have bb := below_step b0 b1
  have bb2 : Below w.heap.size w W2 := by rw [hW2]; exact bb.setCell (p := ⟨w.heap.size + 1 + 1, 0, none⟩) (by simp only []; omega) _
  have o1 : Owns W2 W.heap.size (.slice A1 d.1.length c1) d.1 := by rw [hW2]; exact o1.setFar2 (o1.other2 (by simp only []; omega)) _
  have r1 : W2.heap[w.heap.size + 1]? = some (.cells #[.slice none 0 0, .slice none 0 0] 26 (0, 0)) := by rw [hW2]; exact (heap_setCell_other _ _ _ _ (by simp only []; omega)).trans r1
  have r2 : W2.heap[w.heap.size + 2]? = some (.cells #[.slice A1 d.1.length c1, .slice none 0 0] 26 (0, 0)) := by rw [hW2]; exact (heap_setCell_same w1 _ 0 _ _ _ r2).trans rfl
  have z2 : W2.heap.size = w1.heap.size := by rw [hW2]; simp [World.setCell]
  have ru := rp.kept bb2
  have o1 := OZ.of (hi := W2.heap.size) o1 (Nat.le_refl _)
  go_wp2_with fail
  rw [← hW2]
  clear hW2
  refine (toSS_any d.2 _ W2 ru (by omega) (by omega)).mono ?_
  rintro e w3 ⟨v3, us, rfl, vz, iz, b3⟩
  have hz3 := b3.size
  have o1 := o1.keptBy (w' := w3) (fun g _ h2 _ => b3.block g h2)
  have r1 := (b3.block (w.heap.size + 1) (by omega)).trans r1
  have r2 := (b3.block (w.heap.size + 2) (by omega)).trans r2
  obtain ⟨A3, c3, rfl, _, _⟩ := vz.shape
  obtain ⟨d20, d21⟩ := cells_of_row r2
  obtain ⟨d10, d11⟩ := cells_of_row r1
  have f20 := frozen_of_row w3 _ 0 _ _ r2
  have f21 := frozen_of_row w3 _ 1 _ _ r2
  have f10 := frozen_of_row w3 _ 0 _ _ r1
  have f11 := frozen_of_row w3 _ 1 _ _ r1
  have z3 : w.heap.size + 1 + 1 < w3.heap.size := by omega
  have z4 : w.heap.size + 1 < w3.heap.size := by omega
  have bb3 := bb2.trans (b3.mono (by have := bb2.size; omega))
  clear c20 c21 q0 q1 rt ru
  have bb4 := ((bb3.setCell (p := ⟨w.heap.size + 2, 1, none⟩) (by simp only []; omega) (.slice A3 us.length c3)).setCell (p := ⟨w.heap.size + 1, 0, none⟩) (by simp only []; omega) (.slice A1 d.1.length c1)).setCell (p := ⟨w.heap.size + 1, 1, none⟩) (by simp only []; omega) (.slice A3 us.length c3)
  have hO : DeskO (((w3.setCell ⟨w.heap.size + 2, 1, none⟩ (.slice A3 us.length c3)).setCell ⟨w.heap.size + 1, 0, none⟩ (.slice A1 d.1.length c1)).setCell ⟨w.heap.size + 1, 1, none⟩ (.slice A3 us.length c3)) w.heap.size (((w3.setCell ⟨w.heap.size + 2, 1, none⟩ (.slice A3 us.length c3)).setCell ⟨w.heap.size + 1, 0, none⟩ (.slice A1 d.1.length c1)).setCell ⟨w.heap.size + 1, 1, none⟩ (.slice A3 us.length c3)).heap.size (.agg #[.slice A1 d.1.length c1, .slice A3 us.length c3]) d := by
    rw [size_set3]
    have hW2s : W.heap.size ≤ W2.heap.size := by omega
    have I := (iz.first o1 hW2s hz3).wider (lo' := w.heap.size) (by omega) (Nat.le_refl _)
    refine ⟨_, _, us, rfl, (vz.keptBy fun g h1 _ _ => set3_other (by simp only []; omega) (by simp only []; omega) (by simp only []; omega)).wider (by omega) (Nat.le_refl _), ?_, by rw [size_set3]; exact Nat.le_refl _⟩
    have I2 := (iz.first o1 hW2s hz3).keptBy (w' := ((w3.setCell ⟨w.heap.size + 2, 1, none⟩ (.slice A3 us.length c3)).setCell ⟨w.heap.size + 1, 0, none⟩ (.slice A1 d.1.length c1)).setCell ⟨w.heap.size + 1, 1, none⟩ (.slice A3 us.length c3)) fun g h1 _ _ => set3_other (by simp only []; omega) (by simp only []; omega) (by simp only []; omega)
    exact I2.wider (by omega) (Nat.le_refl _)
  clear vz iz o1
  go_wp2
  refine bodyPost_ret (v := .agg #[.slice A1 d.1.length c1, .slice A3 us.length c3]) (by simp [results, Try.results19, go_sem, *]) rfl ⟨_, rfl, hO, bb4⟩
end Go.Proofs.Ytgdifenicjgfjaa
