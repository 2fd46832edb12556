/- How many pieces the program counts: top, join, countJoined, CountPieces. No conditions but those typed. -/
import Derived.Test.YtbbeinhjkfjipaaVisI
import Derived.Test.YtbbeinhjkfjipaaPlain
import Derived.Test.YtbbeinhjkfjipaaPieceS
import Derived.Deep.LoopGhost
namespace Go.Proofs.Ytbbeinhjkfjipaa
open Go.RowKit Go.Sort

/-- the list of parents in its block -/
structure Par (w : World) (U : Nat) (us : List Nat) : Prop where
  row : w.heap[U]? = some (.cells (intsV us).toArray 101 (0, 0))
  len : us.length = 60
theorem Par.lt {w : World} {U : Nat} {us : List Nat} (h : Par w U us) : U < w.heap.size := (Array.getElem?_eq_some_iff.1 h.row).1
theorem intsV_at {l : List Nat} {k j : Nat} (h : l[k]? = some j) : (intsV l)[k]? = some (.int .i64 (j : Int)) := by unfold intsV; rw [List.getElem?_map, h]; rfl
theorem Par.cell {w : World} {U : Nat} {us : List Nat} (h : Par w U us) {k j : Nat} (hk : us[k]? = some j) : w.cell? ⟨U, k, none⟩ = some (.int .i64 (j : Int)) := by
  rw [cell_of_row w U k _ _ _ h.row, List.getElem?_toArray, intsV_at hk]
theorem Par.free {w : World} {U : Nat} {us : List Nat} (h : Par w U us) (k : Nat) : w.frozen? ⟨U, k, none⟩ = false := frozen_of_row w U k _ _ h.row
theorem intsV_set (l : List Nat) (k j : Nat) : (intsV l).set k (.int .i64 (j : Int)) = intsV (l.set k j) := by unfold intsV; rw [List.map_set]
theorem Par.set {w : World} {U : Nat} {us : List Nat} (h : Par w U us) (k j : Nat) : Par (w.setCell ⟨U, k, none⟩ (.int .i64 (j : Int))) U (us.set k j) :=
  ⟨by rw [heap_setCell_same w U k _ _ _ h.row, List.setIfInBounds_toArray, intsV_set], by rw [List.length_set]; exact h.len⟩
theorem Par.below {w w' : World} {U : Nat} {us : List Nat} (h : Par w U us) (hb : Below w.heap.size w w') : Par w' U us := ⟨(hb.block U h.lt).trans h.row, h.len⟩
def TopPost (us : List Nat) (n i : Nat) (w : World) (e : Ending) (w' : World) : Prop := ∃ r : Nat, e = .returned (.int .i64 (r : Int)) ∧ r < n ∧ Top us i r ∧ Below w.heap.size w w'
set_option maxRecDepth 100000 in
theorem top_any (us : List Nat) (n U i : Nat) (w : World) (hP : Par w U us) (hE : Ends us n) (hn : n ≤ 60) (hi : i < n) :
    Calls Try.prog 107 #[.pointer (some ⟨U, 0, none⟩), .int .i64 i] w (TopPost us n i w) := by
  obtain ⟨d, hd⟩ := hE
  have HD := Lib.hid hd
  clear hd
  have h0 : ∀ r, Top us i r → Top us i r := fun _ h => h
  go_enter Try.func107, Try.ntmps107
  go_wp2
  go_loopg [1] (d i) (fun gk x wr => ∃ k : Nat, gk = d k ∧ x = .int .i64 k ∧ k < n ∧ (∀ r, Top us k r → Top us i r) ∧ Below w.heap.size w wr)
  case atStart => exact ⟨i, rfl, rfl, hi, h0, Below.refl _ _⟩
  case round =>
    clear h0
    obtain ⟨k, hgk, rfl, hk, ht, hbw⟩ := hrel
    obtain ⟨j, hj, hjn, hlt⟩ := HD.out k hk
    have c0 := (hP.below hbw).cell hj
    have HT := Lib.hid ht
    have HJ := Lib.hid (And.intro hj hlt)
    have HG := Lib.hid hgk
    have hk0 : (0 : Int) ≤ (k : Int) := Int.natCast_nonneg _
    have hk1 : (k : Int) < 60 := by omega
    have hk2 : k < 60 := by omega
    clear hj hlt ht hgk
    by_cases e : j = k
    · subst e
      have hne : (((j : Int) != (j : Int))) = false := by simp
      go_wp2
      go_ret
      exact ⟨j, rfl, hk, HT.out j (.root HJ.out.1), hbw⟩
    · have hne : (((j : Int) != (k : Int))) = true := by simp; omega
      have hdl : d j < gk := by have := HJ.out.2 e; have := HG.out; omega
      go_wp2
      go_roundg (d j)
      case measure => exact hdl
      case rel => exact ⟨j, rfl, rfl, hjn, fun r hr => HT.out r (.step HJ.out.1 hr), hbw⟩
def JoinPost (us : List Nat) (n U i j : Nat) (w : World) (e : Ending) (w' : World) : Prop := ∃ f s : Nat, e = .returned (.bool (decide (f ≠ s))) ∧ f < n ∧ s < n ∧ Top us i f ∧ Top us j s ∧ Par w' U (us.set s f) ∧ w.grownBy w' (some U)
set_option maxRecDepth 100000 in
theorem join_any (us : List Nat) (n U i j : Nat) (w : World) (hP : Par w U us) (hE : Ends us n) (hn : n ≤ 60) (hi : i < n) (hj : j < n) :
    Calls Try.prog 87 #[.pointer (some ⟨U, 0, none⟩), .int .i64 i, .int .i64 j] w (JoinPost us n U i j w) := by
  have HE := Lib.hid hE
  clear hE
  go_enter Try.func87, Try.ntmps87
  go_wp2_with fail
  refine (top_any us n U i w hP HE.out hn hi).mono ?_
  rintro e w1 ⟨f, rfl, hf, ht1, b1⟩
  have HT1 := Lib.hid ht1
  clear ht1
  have hP1 := hP.below b1
  go_wp2_with fail
  refine (top_any us n U j w1 hP1 HE.out hn hj).mono ?_
  rintro e w2 ⟨s, rfl, hs, ht2, b2⟩
  have HT2 := Lib.hid ht2
  clear ht2
  have hP2 := hP1.below b2
  have fz := hP2.free s
  obtain ⟨z, hz⟩ : ∃ z, us[s]? = some z := ⟨_, List.getElem?_eq_getElem (by rw [hP.len]; omega)⟩
  have c0 := hP2.cell hz
  have hs0 : (0 : Int) ≤ (s : Int) := Int.natCast_nonneg _
  have hs1 : (s : Int) < 60 := by omega
  have hs2 : s < 60 := by omega
  have hP3 := hP2.set s f
  have bb := below_step b1 b2
  have g3 := grown_trans (grown_below (World.grownBy.refl w (some U)) bb) (setGrown w2 U s (.int .i64 (f : Int)))
  clear hP hP1 hP2 hz
  by_cases e : f = s
  · subst e
    have hne : (((f : Int) != (f : Int))) = false := by simp
    go_wp2
    go_ret
    exact ⟨f, f, by simp, hf, hs, HT1.out, HT2.out, hP3, g3⟩
  · have hne : (((f : Int) != (s : Int))) = true := by simp; omega
    go_wp2
    go_ret
    exact ⟨f, s, by simp [e], hf, hs, HT1.out, HT2.out, hP3, g3⟩
theorem zeros60 : (intsV (List.replicate 60 0)).toArray = #[.int .i64 0, .int .i64 0, .int .i64 0, .int .i64 0, .int .i64 0, .int .i64 0, .int .i64 0, .int .i64 0, .int .i64 0, .int .i64 0, .int .i64 0, .int .i64 0, .int .i64 0, .int .i64 0, .int .i64 0, .int .i64 0, .int .i64 0, .int .i64 0, .int .i64 0, .int .i64 0, .int .i64 0, .int .i64 0, .int .i64 0, .int .i64 0, .int .i64 0, .int .i64 0, .int .i64 0, .int .i64 0, .int .i64 0, .int .i64 0, .int .i64 0, .int .i64 0, .int .i64 0, .int .i64 0, .int .i64 0, .int .i64 0, .int .i64 0, .int .i64 0, .int .i64 0, .int .i64 0, .int .i64 0, .int .i64 0, .int .i64 0, .int .i64 0, .int .i64 0, .int .i64 0, .int .i64 0, .int .i64 0, .int .i64 0, .int .i64 0, .int .i64 0, .int .i64 0, .int .i64 0, .int .i64 0, .int .i64 0, .int .i64 0, .int .i64 0, .int .i64 0, .int .i64 0, .int .i64 0] := by rfl
theorem set_same {l : List Nat} {k : Nat} (h : l[k]? = some k) : l.set k k = l := by
  apply List.ext_getElem?
  intro j
  by_cases e : k = j
  · subst e
    rw [List.getElem?_set_self (List.getElem?_eq_some_iff.1 h).1, h]
  · rw [List.getElem?_set_ne e]
set_option maxRecDepth 100000 in
set_option maxHeartbeats 3200000 in
theorem countJoined_any (e : Bool) (ps : List Sp) (v s : Value) (w : World) (h : Reads w w.heap.size v ps) (hst : Reads w w.heap.size s (ringE e)) (hs : Sorted ps) (hl : ps.length ≤ 60) (hn : ∀ a ∈ ps, NearS a) :
    Calls Try.prog 55 #[v, s] w (Gives (.int .i64 ((piecesL e ps).length : Int)) w) := by
  obtain ⟨A, c, rfl, hc, hm, hA, hr⟩ := h.is
  obtain ⟨A2, c2, rfl, hc2, hm2, _, hr2⟩ := hst.is
  unfold maxLen at hm hm2
  have hrl := ring_length e
  obtain ⟨W, hW⟩ : ∃ W, W = w.alloc (.cells #[.int .i64 0, .int .i64 0, .int .i64 0, .int .i64 0, .int .i64 0, .int .i64 0, .int .i64 0, .int .i64 0, .int .i64 0, .int .i64 0, .int .i64 0, .int .i64 0, .int .i64 0, .int .i64 0, .int .i64 0, .int .i64 0, .int .i64 0, .int .i64 0, .int .i64 0, .int .i64 0, .int .i64 0, .int .i64 0, .int .i64 0, .int .i64 0, .int .i64 0, .int .i64 0, .int .i64 0, .int .i64 0, .int .i64 0, .int .i64 0, .int .i64 0, .int .i64 0, .int .i64 0, .int .i64 0, .int .i64 0, .int .i64 0, .int .i64 0, .int .i64 0, .int .i64 0, .int .i64 0, .int .i64 0, .int .i64 0, .int .i64 0, .int .i64 0, .int .i64 0, .int .i64 0, .int .i64 0, .int .i64 0, .int .i64 0, .int .i64 0, .int .i64 0, .int .i64 0, .int .i64 0, .int .i64 0, .int .i64 0, .int .i64 0, .int .i64 0, .int .i64 0, .int .i64 0, .int .i64 0] 101) := ⟨_, rfl⟩
  have b0 : Below w.heap.size w W := by rw [hW]; exact box_below _ _ _
  have hP0 : Par W w.heap.size (List.replicate 60 0) := ⟨by rw [hW, zeros60]; exact heap_alloc_new w _, List.length_replicate⟩
  have hv := h.kept b0
  have hx := hst.kept b0
  obtain ⟨R, hR⟩ : ∃ R, (piecesL e ps).length = R := ⟨_, rfl⟩
  have HR := Lib.hid hR
  rw [hR]
  clear hR
  go_enter Try.func55, Try.ntmps55
  go_wp2
  rw [← hW]
  clear hW
  go_loopw [16] (fun i wr => ∃ (k : Nat) (us : List Nat), k ≤ ps.length ∧ i = .int .i64 k ∧ Par wr w.heap.size us ∧ (∀ j, j < k → us[j]? = some j) ∧ Below w.heap.size w wr) (fun i _ => ps.length - (intOf i).toNat)
  case atStart => exact ⟨0, _, Nat.zero_le _, rfl, hP0, fun j hj => by omega, b0⟩
  case round =>
    clear hP0 b0 hv hx
    obtain ⟨k, us, hk, rfl, hP, hus, hbw⟩ := hrel
    by_cases hlk : k < ps.length
    · have fz := hP.free k
      have hk60 : k < 60 := by omega
      obtain ⟨z, hz⟩ : ∃ z, us[k]? = some z := ⟨_, List.getElem?_eq_getElem (by rw [hP.len]; omega)⟩
      have c0 := hP.cell hz
      have hk0 : (0 : Int) ≤ (k : Int) := Int.natCast_nonneg _
      have hk1 : (k : Int) < 60 := by omega
      have hP3 := hP.set k k
      have hbw3 := hbw.setCell (p := ⟨w.heap.size, k, none⟩) (Nat.le_refl _) (.int .i64 (k : Int))
      have hus3 : ∀ j, j < k + 1 → (us.set k k)[j]? = some j := fun j hj => by
        by_cases ej : k = j
        · subst ej; rw [List.getElem?_set_self (List.getElem?_eq_some_iff.1 hz).1]
        · rw [List.getElem?_set_ne ej]; exact hus j (by omega)
      have HU := Lib.hid hus3
      clear hus hz hus3
      go_wp2
      go_roundw
      case rel => exact ⟨k + 1, us.set k k, by omega, by go_num, hP3, HU.out, hbw3⟩
      case measure => simp [intOf]; omega
    · obtain rfl : k = ps.length := by omega
      have hF := Forest.begin e hus
      have HF := Lib.hid hF
      clear hF hus
      go_wp2
      go_loopw [7, 27] (fun cn i wr' => ∃ (k n : Nat) (us : List Nat), k ≤ ps.length ∧ i = .int .i64 k ∧ cn = .int .i64 n ∧ n ≤ 60 ∧ Par wr' w.heap.size us ∧ Forest e ps us n ∧ Joined e ps us (ringE e) k 0 ∧ Below w.heap.size w wr') (fun _ i _ => ps.length - (intOf i).toNat)
      case atStart => exact ⟨0, ps.length, us, Nat.zero_le _, rfl, rfl, hl, hP, HF.out, Joined.begin, hbw⟩
      case round =>
        clear hP hbw HF
        obtain ⟨k, n, us, hk, rfl, rfl, hn60, hP, hF, hJ, hbw⟩ := hrel
        by_cases hlk : k < ps.length
        · obtain ⟨⟨x, y⟩, hxy⟩ : ∃ a, ps[k]? = some a := ⟨_, List.getElem?_eq_getElem hlk⟩
          obtain ⟨b, off, rfl, hb, hcell⟩ := hr (by omega)
          obtain ⟨c0, c1⟩ := hcell k x y hxy
          have d0 := (hbw.cell (p := ⟨b, off + k * 2, none⟩) hb).trans c0
          have d1 := (hbw.cell (p := ⟨b, off + k * 2 + 1, none⟩) hb).trans c1
          have bal := box_below wr #[.int .i64 x, .int .i64 y] 54
          have hP1 := hP.below bal
          have hb1 := below_step hbw bal
          have row1 : (wr.alloc (.cells #[.int .i64 x, .int .i64 y] 54)).heap[wr.heap.size]? = some (.cells #[.int .i64 x, .int .i64 y] 54 (0, 0)) := heap_alloc_new wr _
          have hm3 : (0 : Int) ≤ (k : Int) := Int.natCast_nonneg _
          have hm4 : (k : Int) < (ps.length : Int) := by omega
          have hQU : w.heap.size < wr.heap.size := hP.lt
          have hnear := near_of_S (hn _ (List.mem_of_getElem? hxy))
          have HX := Lib.hid hxy
          have HF := Lib.hid hF
          have HJ := Lib.hid hJ
          clear hxy hF hJ c0 c1 hP hbw
          go_wp2
          generalize wr.heap.size = Q at row1 hQU ⊢
          go_loopw [7, 34] (fun cn i wr' => ∃ (t n : Nat) (us : List Nat), t ≤ (ringE e).length ∧ i = .int .i64 t ∧ cn = .int .i64 n ∧ n ≤ 60 ∧ Par wr' w.heap.size us ∧ Forest e ps us n ∧ Joined e ps us (ringE e) k t ∧ Below w.heap.size w wr' ∧ wr'.heap[Q]? = some (.cells #[.int .i64 x, .int .i64 y] 54 (0, 0))) (fun _ i _ => (ringE e).length - (intOf i).toNat)
          case atStart => exact ⟨0, n, us, Nat.zero_le _, rfl, rfl, hn60, hP1, HF.out, HJ.out, hb1, row1⟩
          case round =>
            clear hP1 hb1 row1 HF HJ d0 d1 bal
            obtain ⟨t, n, us, ht, rfl, rfl, hn60, hP, hF, hJ, hbw, row⟩ := hrel
            by_cases hlt : t < (ringE e).length
            · obtain ⟨⟨dx, dy⟩, hd⟩ : ∃ a, (ringE e)[t]? = some a := ⟨_, List.getElem?_eq_getElem hlt⟩
              obtain ⟨b2, off2, rfl, hb2, hcell2⟩ := hr2 (by omega)
              obtain ⟨c0, c1⟩ := hcell2 t dx dy hd
              have d0 := (hbw.cell (p := ⟨b2, off2 + t * 2, none⟩) hb2).trans c0
              have d1 := (hbw.cell (p := ⟨b2, off2 + t * 2 + 1, none⟩) hb2).trans c1
              have hdn := ring_small e _ (List.mem_of_getElem? hd)
              have bal := box_below wr #[.int .i64 dx, .int .i64 dy] 54
              have hQ := (Array.getElem?_eq_some_iff.1 row).1
              have row1 := (bal.block Q hQ).trans row
              have a0 := cell_of_row _ _ 0 _ _ _ row1
              have a1 := cell_of_row _ _ 1 _ _ _ row1
              simp only [List.getElem?_toArray, List.getElem?_cons_zero, List.getElem?_cons_succ] at a0 a1
              have hm3 : (0 : Int) ≤ (t : Int) := Int.natCast_nonneg _
              have hm4 : (t : Int) < ((ringE e).length : Int) := by omega
              have hP1 := hP.below bal
              have hb1 := below_step hbw bal
              have HJ := Lib.hid (And.intro hJ (And.intro hF hd))
              clear c0 c1 hd hJ hF hP hbw
              go_wp2_with fail
              refine (added_in x y dx dy _ hnear hdn).mono ?_
              rintro e' w5 ⟨rfl, b5⟩
              have hQ1 : Q < (wr.alloc (.cells #[.int .i64 dx, .int .i64 dy] 54)).heap.size := Nat.lt_of_lt_of_le hQ bal.size
              have row5 := (b5.block Q hQ1).trans row1
              have hQ5 := Nat.lt_of_lt_of_le hQ1 b5.size
              have hP5 := hP1.below b5
              have hb5 := below_step hb1 b5
              clear row1 a0 a1 hP1 hb1 b5
              go_wp2_with fail
              refine (indexIn_any ps _ (x + dx) (y + dy) w5 (h.kept hb5) hs (by omega)).mono ?_
              rintro e' w6 ⟨⟨i, rfl, hi⟩, b6⟩
              have row6 := (b6.block Q hQ5).trans row5
              have hQ6 := Nat.lt_of_lt_of_le hQ5 b6.size
              have hP6 := hP5.below b6
              have hb6 := below_step hb5 b6
              clear row5 hP5 hb5 b6
              by_cases hin : (x + dx, y + dy) ∈ ps
              · obtain ⟨j, rfl, hj⟩ := hi hin
                rw [decide_eq_true hin]
                have hjl := (List.getElem?_eq_some_iff.1 hj).1
                have HI := Lib.hid hj
                have hE := Lib.hid HJ.out.2.1.ends
                clear hin hj hi
                go_wp2_with fail
                refine (join_any us ps.length w.heap.size k j w6 hP6 hE.out hl hlk hjl).mono ?_
                rintro e' w7 ⟨f, s, rfl, hf, hsl, ht1, ht2, hP7, g7⟩
                have row7 := (g7.block Q hQ6 (fun e1 => by injection e1 with e1; omega)).trans row6
                have hb7 := hb6.grown g7 hb6.size (fun k hk => by cases hk; exact Nat.le_refl _)
                have hnb : nearB e (x, y) (x + dx, y + dy) = true := (ring_near e (x, y) (x + dx, y + dy)).1 (List.mem_map.2 ⟨(dx, dy), List.mem_of_getElem? HJ.out.2.2, rfl⟩)
                by_cases efs : f = s
                · subst efs
                  have hsame := set_same ht1.is_root
                  rw [hsame] at hP7
                  have HJ2 := Lib.hid (HJ.out.1.step (us' := us) HX.out HJ.out.2.2 (fun _ _ h => h) (fun j' hj' => by obtain rfl := idx_unique hs hj' HI.out; exact ⟨f, ht1, ht2⟩))
                  clear hsame ht1 ht2 hnb
                  rw [show decide (f ≠ f) = false by simp]
                  go_wp2
                  go_roundw
                  case rel => exact ⟨t + 1, n, us, by omega, by go_num, rfl, hn60, hP7, HJ.out.2.1, HJ2.out, hb7, row7⟩
                  case measure => simp [intOf]; omega
                · have HF2 := Lib.hid (HJ.out.2.1.join HX.out HI.out hnb ht1 ht2 efs hf hsl)
                  have HJ2 := Lib.hid (HJ.out.1.step (us' := us.set s f) HX.out HJ.out.2.2 (fun _ _ h => h.join ht2.is_root ht1.is_root efs) (fun j' hj' => by obtain rfl := idx_unique hs hj' HI.out; exact same_joined ht2.is_root ht1.is_root efs ht1 ht2))
                  have hpos := HJ.out.2.1.pos ht1 hf
                  obtain ⟨m, rfl⟩ : ∃ m, n = m + 1 := ⟨n - 1, by omega⟩
                  rw [show decide (f ≠ s) = true by simp [efs]]
                  clear ht1 ht2 hnb hpos
                  go_wp2
                  go_roundw
                  case rel => exact ⟨t + 1, m, us.set s f, by omega, by go_num, by go_num, by omega, hP7, HF2.out, HJ2.out, hb7, row7⟩
                  case measure => simp [intOf]; omega
              · rw [decide_eq_false hin]
                have HJ2 := Lib.hid (HJ.out.1.step (us' := us) HX.out HJ.out.2.2 (fun _ _ h => h) (fun j' hj' => absurd (List.mem_of_getElem? hj') hin))
                clear hin hi
                go_wp2
                go_roundw
                case rel => exact ⟨t + 1, n, us, by omega, by go_num, rfl, hn60, hP6, HJ.out.2.1, HJ2.out, hb6, row6⟩
                case measure => simp [intOf]; omega
            · obtain rfl : t = (ringE e).length := by omega
              have HJ2 := Lib.hid (hJ.next (fun a b hab => (ring_near e a b).2 hab))
              have HF2 := Lib.hid hF
              clear hJ hF
              go_wp2
              go_roundw
              case rel => exact ⟨k + 1, n, us, by omega, by go_num, rfl, hn60, hP, HF2.out, HJ2.out, hbw⟩
              case measure => simp [intOf]; omega
        · obtain rfl : k = ps.length := by omega
          have HC := Lib.hid (hF.count hs hJ.all)
          clear hF hJ
          go_wp2
          go_ret
          exact ⟨by rw [HC.out, HR.out]; rfl, hbw⟩
theorem implCount7_any (e : Bool) (ps : List Sp) (v : Value) (w : World) (h : Reads w w.heap.size v ps) :
    Calls Try.prog 24 #[v, .bool e] w (Gives (.int .i64 (countR e ps)) w) := by
  obtain ⟨A, c, rfl, hc, hm⟩ := h.slice
  rcases hp : picB ps with _ | _
  · rw [countR_no hp]
    go_enter Try.func24, Try.ntmps24
    go_wp2_with fail
    refine (gives_is hp (implPicture_any ps _ _ h)).mono ?_
    rintro e' w1 ⟨rfl, b1⟩
    go_wp2
    go_ret
    exact ⟨rfl, b1⟩
  · rw [countR_yes hp]
    have HN := Lib.hid (nearS_pic hp)
    have hpl := (picB_pic hp).1
    have hps := (picB_pic hp).2.2
    go_enter Try.func24, Try.ntmps24
    go_wp2_with fail
    refine (gives_is hp (implPicture_any ps _ _ h)).mono ?_
    rintro e' w1 ⟨rfl, b1⟩
    clear hp
    go_wp2_with fail
    refine (neighbours_any e _).mono ?_
    rintro e' w2 ⟨v2, rfl, o2, b2⟩
    have bb := below_step b1 b2
    go_wp2_with fail
    refine (countJoined_any e ps _ _ w2 (h.kept bb) o2.reads hps hpl HN.out).mono ?_
    rintro e' w3 ⟨rfl, b3⟩
    go_wp2
    go_ret
    exact ⟨rfl, below_step bb b3⟩
end Go.Proofs.Ytbbeinhjkfjipaa
