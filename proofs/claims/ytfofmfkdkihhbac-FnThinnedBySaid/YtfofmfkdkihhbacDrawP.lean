/- The model's draw of patterns: two short lists of near spots in new memory. No conditions but those typed. -/
import Derived.Test.YtfofmfkdkihhbacSpots
import Derived.Test.YtfofmfkdkihhbacDraws1
import Derived.Test.YtfofmfkdkihhbacBox
import Derived.Test.YtfofmfkdkihhbacPicWalk
import Derived.Deep.RegionHeld3
import Derived.Deep.RegionWith
import Derived.IntWalk
namespace Go.Proofs.Ytfofmfkdkihhbac
open Go.RowKit Go.Sort

/-- a block of another type is none of a list's -/
theorem Owns.apart {w : World} {base G : Nat} {v : Value} {ps : List Sp} {cs : Array Value} {T : TypeId} {m : Nat × Nat} (h : Owns w base v ps) (hG : w.heap[G]? = some (.cells cs T m)) (hT : T ≠ 35) : v.ownBlock = none ∨ v.ownBlock ≠ some G := by
  rcases h.2 with ⟨rfl, _⟩ | ⟨g, cap, cur, rfl, _, hg, _⟩
  · exact .inl rfl
  · refine .inr fun e => ?_
    cases e
    rw [hg] at hG
    injection hG with hG
    injection hG with h1 h2 h3
    exact hT h2.symm
theorem Owns.setFar {w : World} {base : Nat} {v : Value} {ps : List Sp} (h : Owns w base v ps) {a : Addr} (ha : v.ownBlock = none ∨ v.ownBlock ≠ some a.block) (x : Value) : Owns (w.setCell a x) base v ps := by
  refine ⟨h.1, ?_⟩
  rcases h.2 with h0 | ⟨g, cap, cur, rfl, h1, hg, h2⟩
  · exact .inl h0
  · refine .inr ⟨g, cap, cur, rfl, h1, (heap_setCell_other _ _ _ _ (fun e => ?_)).trans hg, h2⟩
    rcases ha with ha | ha
    · cases ha
    · exact ha (by rw [← e]; rfl)
theorem Owns.put_le {w : World} {base : Nat} {v : Value} {ps : List Sp} {a : Sp} (_ : Owns w base v (put ps a)) : (put ps a).length ≤ ps.length + 1 := length_put_le ps a

/-- the state between two statements: the pattern in its box, the reader, and that old memory is as it was but for the reader -/
structure PInv (w wr : World) (g n c : Nat) (A : Option Addr) (vt vu : Value) (t u : List Sp) (p : Nat) : Prop where
  box : wr.heap[w.heap.size + 2]? = some (.cells #[vt, vu] 25 (0, 0))
  res : wr.heap[w.heap.size]? = some (.cells #[.slice none 0 0, .slice none 0 0] 25 (0, 0))
  ot : Owns wr w.heap.size vt t
  ou : Owns wr w.heap.size vu u
  rd : Rd wr g A n c p
  grown : w.grownBy wr (some g)
  st : Small t
  su : Small u

section
variable {w wr w' : World} {g n c p : Nat} {A : Option Addr} {vt vu : Value} {t u : List Sp}
theorem PInv.drew (I : PInv w wr g n c A vt vu t u p) : PInv w wr.drew g n c A vt vu t u p :=
  ⟨I.box, I.res, I.ot.below (Below.refl _ _).drew, I.ou.below (Below.refl _ _).drew, I.rd.below (Below.refl _ _).drew, grown_below I.grown (Below.refl _ _).drew, I.st, I.su⟩
theorem PInv.pick (I : PInv w wr g n c A vt vu t u p) (hg : g < w.heap.size) {q : Nat} (hr : Rd w' g A n c q) (h : wr.grownBy w' (some g)) : PInv w w' g n c A vt vu t u q := by
  have hb := (Array.getElem?_eq_some_iff.1 I.box).1
  have hs := (Array.getElem?_eq_some_iff.1 I.res).1
  refine ⟨(h.block _ hb (fun e => by cases e; omega)).trans I.box, (h.block _ hs (fun e => by cases e; omega)).trans I.res, I.ot.grown h ?_, I.ou.grown h ?_, hr, grown_trans I.grown h, I.st, I.su⟩
  · cases hv : vt.ownBlock with
    | none => exact .inl rfl
    | some k => exact .inr (fun e => by have := (I.ot.lt k hv).1; cases e; omega)
  · cases hv : vu.ownBlock with
    | none => exact .inl rfl
    | some k => exact .inr (fun e => by have := (I.ou.lt k hv).1; cases e; omega)
theorem PInv.below (I : PInv w wr g n c A vt vu t u p) (hb : Below wr.heap.size wr w') : PInv w w' g n c A vt vu t u p :=
  ⟨(hb.block _ (Array.getElem?_eq_some_iff.1 I.box).1).trans I.box, (hb.block _ (Array.getElem?_eq_some_iff.1 I.res).1).trans I.res, I.ot.below hb, I.ou.below hb, I.rd.below hb, grown_below I.grown hb, I.st, I.su⟩
theorem PInv.set0 (I : PInv w wr g n c A vt vu t u p) (hg : g < w.heap.size) {v' : Value} {t' : List Sp} (ho : Owns wr w.heap.size v' t') (hs : Small t') : PInv w (wr.setCell ⟨w.heap.size + 2, 0, none⟩ v') g n c A v' vu t' u p := by
  have hb := I.box
  refine ⟨(heap_setCell_same wr _ 0 _ _ _ hb).trans rfl, (heap_setCell_other _ _ _ _ (by simp only []; omega)).trans I.res, ho.setFar (ho.apart hb (by decide)) _, I.ou.setFar (I.ou.apart hb (by decide)) _, ?_, ?_, hs, I.su⟩
  · exact ⟨(heap_setCell_other _ _ _ _ (by simp only []; omega)).trans I.rd.blk, I.rd.bytes.below ((Below.refl g wr).setCell (p := ⟨w.heap.size + 2, 0, none⟩) (by simp only []; omega) _), I.rd.len⟩
  · exact ⟨I.grown.os, I.grown.tape, I.grown.output, by rw [show (wr.setCell ⟨w.heap.size + 2, 0, none⟩ v').heap.size = wr.heap.size by simp [World.setCell]]; exact I.grown.size, fun k hk hne => (heap_setCell_other _ _ _ _ (by simp only []; omega)).trans (I.grown.block k hk hne)⟩
theorem PInv.set1 (I : PInv w wr g n c A vt vu t u p) (hg : g < w.heap.size) {v' : Value} {u' : List Sp} (ho : Owns wr w.heap.size v' u') (hs : Small u') : PInv w (wr.setCell ⟨w.heap.size + 2, 1, none⟩ v') g n c A vt v' t u' p := by
  have hb := I.box
  refine ⟨(heap_setCell_same wr _ 1 _ _ _ hb).trans rfl, (heap_setCell_other _ _ _ _ (by simp only []; omega)).trans I.res, I.ot.setFar (I.ot.apart hb (by decide)) _, ho.setFar (ho.apart hb (by decide)) _, ?_, ?_, I.st, hs⟩
  · exact ⟨(heap_setCell_other _ _ _ _ (by simp only []; omega)).trans I.rd.blk, I.rd.bytes.below ((Below.refl g wr).setCell (p := ⟨w.heap.size + 2, 1, none⟩) (by simp only []; omega) _), I.rd.len⟩
  · exact ⟨I.grown.os, I.grown.tape, I.grown.output, by rw [show (wr.setCell ⟨w.heap.size + 2, 1, none⟩ v').heap.size = wr.heap.size by simp [World.setCell]]; exact I.grown.size, fun k hk hne => (heap_setCell_other _ _ _ _ (by simp only []; omega)).trans (I.grown.block k hk hne)⟩
theorem PInv.cells (I : PInv w wr g n c A vt vu t u p) : wr.cell? ⟨w.heap.size + 2, 0, none⟩ = some vt ∧ wr.cell? ⟨w.heap.size + 2, 1, none⟩ = some vu ∧ (wr.frozen? ⟨w.heap.size + 2, 0, none⟩ = false ∧ wr.frozen? ⟨w.heap.size + 2, 1, none⟩ = false) ∧ w.heap.size + 2 < wr.heap.size := by
  have c0 := cell_of_row wr _ 0 _ _ _ I.box
  have c1 := cell_of_row wr _ 1 _ _ _ I.box
  simp only [List.getElem?_toArray, List.getElem?_cons_zero, List.getElem?_cons_succ] at c0 c1
  exact ⟨c0, c1, ⟨frozen_of_row wr _ 0 _ _ I.box, frozen_of_row wr _ 1 _ _ I.box⟩, (Array.getElem?_eq_some_iff.1 I.box).1⟩
theorem PInv.rcells (I : PInv w wr g n c A vt vu t u p) : wr.cell? ⟨w.heap.size, 0, none⟩ = some (.slice none 0 0) ∧ wr.cell? ⟨w.heap.size, 1, none⟩ = some (.slice none 0 0) ∧ (wr.frozen? ⟨w.heap.size, 0, none⟩ = false ∧ wr.frozen? ⟨w.heap.size, 1, none⟩ = false) ∧ w.heap.size < wr.heap.size := by
  have c0 := cell_of_row wr _ 0 _ _ _ I.res
  have c1 := cell_of_row wr _ 1 _ _ _ I.res
  simp only [List.getElem?_toArray, List.getElem?_cons_zero, List.getElem?_cons_succ] at c0 c1
  exact ⟨c0, c1, ⟨frozen_of_row wr _ 0 _ _ I.res, frozen_of_row wr _ 1 _ _ I.res⟩, (Array.getElem?_eq_some_iff.1 I.res).1⟩
theorem PInv.fin (I : PInv w wr g n c A vt vu t u p) (x y : Value) : Owns ((wr.setCell ⟨w.heap.size, 0, none⟩ x).setCell ⟨w.heap.size, 1, none⟩ y) w.heap.size vt t ∧ Owns ((wr.setCell ⟨w.heap.size, 0, none⟩ x).setCell ⟨w.heap.size, 1, none⟩ y) w.heap.size vu u ∧ w.grownBy ((wr.setCell ⟨w.heap.size, 0, none⟩ x).setCell ⟨w.heap.size, 1, none⟩ y) (some g) := by
  have ht := I.ot.apart I.res (by decide)
  have hu := I.ou.apart I.res (by decide)
  refine ⟨(I.ot.setFar (a := ⟨w.heap.size, 0, none⟩) ht x).setFar (a := ⟨w.heap.size, 1, none⟩) ht y, (I.ou.setFar (a := ⟨w.heap.size, 0, none⟩) hu x).setFar (a := ⟨w.heap.size, 1, none⟩) hu y, I.grown.os, I.grown.tape, I.grown.output, ?_, fun k hk hne => ?_⟩
  · rw [show ((wr.setCell ⟨w.heap.size, 0, none⟩ x).setCell ⟨w.heap.size, 1, none⟩ y).heap.size = wr.heap.size by simp [World.setCell]]; exact I.grown.size
  · exact (set2_other (Nat.ne_of_lt hk)).trans (I.grown.block k hk hne)
end
theorem size_set (w : World) (a : Addr) (x : Value) : (w.setCell a x).heap.size = w.heap.size := by simp [World.setCell]
theorem sets_alloc {w : World} {o : Obj} {a b i j k : Nat} {x y z : Value} (ha : a < w.heap.size) (hb : b < w.heap.size) :
    ((((w.alloc o).setCell ⟨a, i, none⟩ x).setCell ⟨b, j, none⟩ y).setCell ⟨b, k, none⟩ z) = ((((w.setCell ⟨a, i, none⟩ x).setCell ⟨b, j, none⟩ y).setCell ⟨b, k, none⟩ z).alloc o) := by
  rw [World.setCell_alloc_past _ _ _ _ ha, World.setCell_alloc_past _ _ _ _ (by rw [size_set]; exact hb), World.setCell_alloc_past _ _ _ _ (by rw [size_set, size_set]; exact hb)]
def PatPost (w : World) (g : Nat) (e : Ending) (w' : World) : Prop := ∃ vt vu t u, e = .returned (.agg #[vt, vu]) ∧ Owns w' w.heap.size vt t ∧ Owns w' w.heap.size vu u ∧ Small t ∧ Small u ∧ t.length ≤ 10 ∧ u.length ≤ 10 ∧ w.grownBy w' (some g)
theorem PInv.start (g n c p : Nat) (A : Option Addr) (w : World) (hr : Rd w g A n c p) :
    PInv w (((w.alloc (.cells #[.slice none 0 0, .slice none 0 0] 25)).alloc (.cells #[.int .i64 0, .int .i64 0] 35)).alloc (.cells #[.slice (some ⟨w.heap.size + 1, 0, none⟩) 1 1, .slice none 0 0] 25)) g n c A (.slice (some ⟨w.heap.size + 1, 0, none⟩) 1 1) (.slice none 0 0) [(0, 0)] [] p := by
  have b1 : Below w.heap.size w (w.alloc (.cells #[.slice none 0 0, .slice none 0 0] 25)) := (Below.refl _ _).alloc (Nat.le_refl _) _
  have l2 := litB (w.alloc (.cells #[.slice none 0 0, .slice none 0 0] 25)) [(0, 0)] #[.int .i64 0, .int .i64 0] rfl (by simp)
  rw [World.size_alloc] at l2
  have h3 := heap_alloc_new ((w.alloc (.cells #[.slice none 0 0, .slice none 0 0] 25)).alloc (.cells #[.int .i64 0, .int .i64 0] 35)) (.cells #[.slice (some ⟨w.heap.size + 1, 0, none⟩) 1 1, .slice none 0 0] 25)
  rw [World.size_alloc, World.size_alloc] at h3
  have h1 := heap_alloc_new w (.cells #[.slice none 0 0, .slice none 0 0] 25)
  have bb2 : Below (w.alloc (.cells #[.slice none 0 0, .slice none 0 0] 25)).heap.size (w.alloc (.cells #[.slice none 0 0, .slice none 0 0] 25)) (((w.alloc (.cells #[.slice none 0 0, .slice none 0 0] 25)).alloc (.cells #[.int .i64 0, .int .i64 0] 35)).alloc (.cells #[.slice (some ⟨w.heap.size + 1, 0, none⟩) 1 1, .slice none 0 0] 25)) := ((Below.refl _ _).alloc (Nat.le_refl _) _).alloc (by simp) _
  have bb3 : Below w.heap.size w (((w.alloc (.cells #[.slice none 0 0, .slice none 0 0] 25)).alloc (.cells #[.int .i64 0, .int .i64 0] 35)).alloc (.cells #[.slice (some ⟨w.heap.size + 1, 0, none⟩) 1 1, .slice none 0 0] 25)) := below_step b1 bb2
  refine ⟨h3, (bb2.block _ (by simp)).trans h1, (l2.below ((Below.refl _ _).alloc (Nat.le_refl _) _)).base (Nat.le_succ _), Owns.nil _ _, hr.below bb3, ⟨bb3.os, bb3.tape, bb3.output, bb3.size, fun k hk _ => bb3.block k hk⟩, small_one (by omega) (by omega) (by omega) (by omega), small_nil⟩
set_option maxRecDepth 100000 in
set_option maxHeartbeats 3200000 in
theorem pattern_any (g n c p : Nat) (A : Option Addr) (N : Int) (w : World) (hr : Rd w g A n c p) (h1 : 0 ≤ N) (h2 : N ≤ 1000) (hp : p ≤ 90000) :
    Calls Try.prog 42 #[.pointer (some ⟨g, 0, none⟩), .int .i64 N] w (PatPost w g) := by
  have hg := hr.lt
  have I0 := PInv.start g n c p A w hr
  obtain ⟨W, hW⟩ : ∃ W, W = ((w.alloc (.cells #[.slice none 0 0, .slice none 0 0] 25)).alloc (.cells #[.int .i64 0, .int .i64 0] 35)).alloc (.cells #[.slice (some ⟨w.heap.size + 1, 0, none⟩) 1 1, .slice none 0 0] 25) := ⟨_, rfl⟩
  rw [← hW] at I0
  clear hr
  go_enter Try.func42, Try.ntmps42
  go_wp2_with (first | (rw [← hW]; clear hW) | fail)
  refine (pick_any g n c p A 3 _ I0.rd (by omega) (by omega) (by omega)).mono ?_
  rintro e w1 ⟨z1, rfl, z1a, z1b, r1, g1⟩
  have I1 := I0.pick hg r1 g1
  clear I0 r1 g1
  obtain ⟨m1, rfl⟩ := Int.eq_ofNat_of_zero_le z1a
  go_wp2_with fail
  go_loopw [6] (fun k wr => ∃ (j : Nat) (vt : Value) (t : List Sp) (q : Nat), k = .int .i64 j ∧ j ≤ 3 ∧ PInv w wr g n c A vt (.slice none 0 0) t [] q ∧ Sorted t ∧ t.length + j ≤ 4 ∧ q + 2 * j ≤ p + 7) (fun k _ => (intOf k).toNat)
  case atStart => exact ⟨m1, _, _, _, rfl, by omega, I1, List.pairwise_singleton _ _, by simp; omega, by omega⟩
  case round =>
    clear I1
    obtain ⟨j, vt, t, q, rfl, hj, J, hst, hlt, hq⟩ := hrel
    obtain ⟨At, ct, rfl, hct, hmt⟩ := J.ot.reads.slice
    unfold maxLen at hmt
    have hwz := J.grown.size
    by_cases hj0 : 0 < j
    · have hd : decide (0 < j) = true := decide_eq_true hj0
      have J := J.drew
      obtain ⟨m0, m1, ⟨mf0, mf1⟩, ms⟩ := J.cells
      go_wp2_with fail
      go_region_with (first
        | (go_at_call 69; refine (pick_any g n c _ A 3 _ J.rd (by omega) (by omega) (by omega)).mono ?_; rintro e w5 ⟨z, rfl, za, zb, r5, g5⟩; have J := J.pick hg r5 g5; obtain ⟨m0, m1, ⟨mf0, mf1⟩, ms⟩ := J.cells; clear r5 g5; have hwz1 : IntKind.i64.wrap (z - 1) = z - 1 := IntWalk.i64_in _ (by omega))
        | (go_at_call 70; refine (l1Put_any t _ _ _ w.heap.size _ J.ot (by have := J.grown.size; omega) (by omega)).mono ?_; rintro e w6 ⟨v6, rfl, o6, b6⟩; obtain ⟨A6, c6, rfl, _, _⟩ := o6.reads.slice; have J := J.below b6; obtain ⟨m0, m1, ⟨mf0, mf1⟩, ms⟩ := J.cells))
      all_goals
        have hl6 := o6.put_le
        have J9 := J.set0 hg o6 (small_put J.st (small_one (by omega) (by omega) (by omega) (by omega)))
        clear J m0 m1 mf0 mf1
        go_wp2
        go_roundw
        case rel => exact ⟨j - 1, _, _, _, by go_num, by omega, J9, sorted_put hst, by omega, by omega⟩
        case measure => simp [intOf]; omega
    · have hd : decide (0 < j) = false := decide_eq_false hj0
      go_wp2_with fail
      refine (pick_any g n c _ A 4 _ J.rd (by omega) (by omega) (by omega)).mono ?_
      rintro e w5 ⟨z5, rfl, z5a, z5b, r5, g5⟩
      have J := J.pick hg r5 g5
      clear r5 g5
      obtain ⟨m5, rfl⟩ := Int.eq_ofNat_of_zero_le z5a
      go_wp2_with fail
      go_loopw [7] (fun k wr => ∃ (j : Nat) (vu : Value) (u : List Sp) (q : Nat), k = .int .i64 j ∧ j ≤ 4 ∧ PInv w wr g n c A (.slice At t.length ct) vu t u q ∧ u.length + j ≤ 4 ∧ q + 2 * j ≤ p + 20) (fun k _ => (intOf k).toNat)
      case atStart => exact ⟨m5, _, _, _, rfl, by omega, J, by simp; omega, by omega⟩
      case round =>
        clear J hq
        obtain ⟨j, vu, u, q, rfl, hj, J, hlu, hq⟩ := hrel
        obtain ⟨Au, cu, rfl, hcu, hmu⟩ := J.ou.reads.slice
        unfold maxLen at hmu
        have hwz := J.grown.size
        by_cases hj1 : 0 < j
        · have hd1 : decide (0 < j) = true := decide_eq_true hj1
          go_wp2_with fail
          refine (pick_any g n c _ A 3 _ J.rd (by omega) (by omega) (by omega)).mono ?_
          rintro e w6 ⟨z6, rfl, z6a, z6b, r6, g6⟩
          have J := J.pick hg r6 g6
          clear r6 g6
          go_wp2_with fail
          refine (pick_any g n c _ A 3 _ J.rd (by omega) (by omega) (by omega)).mono ?_
          rintro e w7 ⟨z7, rfl, z7a, z7b, r7, g7⟩
          have J := J.pick hg r7 g7
          clear r7 g7
          have b8 := box_below w7 #[.int .i64 (z6 - 1), .int .i64 (z7 - 1)] 35
          obtain ⟨W8, hW8⟩ : ∃ W8, W8 = w7.alloc (.cells #[.int .i64 (z6 - 1), .int .i64 (z7 - 1)] 35) := ⟨_, rfl⟩
          have c0 : W8.cell? ⟨w7.heap.size, 0, none⟩ = some (.int .i64 (z6 - 1)) := by rw [hW8]; simp [go_sem]
          have c1 : W8.cell? ⟨w7.heap.size, 1, none⟩ = some (.int .i64 (z7 - 1)) := by rw [hW8]; simp [go_sem]
          have s8 : w7.heap.size < W8.heap.size := by rw [hW8]; simp
          rw [← hW8] at b8
          have J := J.below b8
          obtain ⟨m0, m1, ⟨mf0, mf1⟩, ms⟩ := J.cells
          rcases hin : decide ((z6 - 1, z7 - 1) ∈ t) with _ | _
          · have HI := Lib.hid hin
            clear hin
            go_wp2_with (first | (rw [← hW8]; clear hW8) | fail)
            refine (gives_is HI.out (l1Has_any t _ _ _ _ J.ot.reads hst (by omega))).mono ?_
            rintro e w9 ⟨rfl, b9⟩
            have c0 := (b9.cell (p := ⟨w7.heap.size, 0, none⟩) s8).trans c0
            have c1 := (b9.cell (p := ⟨w7.heap.size, 1, none⟩) s8).trans c1
            have J := J.below b9
            obtain ⟨m0, m1, ⟨mf0, mf1⟩, ms⟩ := J.cells
            go_wp2_with fail
            refine (l1Put_any u _ _ _ w.heap.size _ J.ou (by have := J.grown.size; omega) (by omega)).mono ?_
            rintro e w10 ⟨v10, rfl, o10, b10⟩
            have hl10 := o10.put_le
            obtain ⟨A10, c10, rfl, _, _⟩ := o10.reads.slice
            have J := J.below b10
            obtain ⟨m0, m1, ⟨mf0, mf1⟩, ms⟩ := J.cells
            have J9 := J.set1 hg o10 (small_put J.su (small_one (by omega) (by omega) (by omega) (by omega)))
            go_wp2
            go_roundw
            case rel => exact ⟨j - 1, _, _, _, by go_num, by omega, J9, by omega, by omega⟩
            case measure => simp [intOf]; omega
          · have HI := Lib.hid hin
            clear hin
            go_wp2_with (first | (rw [← hW8]; clear hW8) | fail)
            refine (gives_is HI.out (l1Has_any t _ _ _ _ J.ot.reads hst (by omega))).mono ?_
            rintro e w9 ⟨rfl, b9⟩
            have J := J.below b9
            go_wp2
            go_roundw
            case rel => exact ⟨j - 1, _, _, _, by go_num, by omega, J, by omega, by omega⟩
            case measure => simp [intOf]; omega
        · have hd1 : decide (0 < j) = false := decide_eq_false hj1
          go_wp2_with fail
          refine (odd_any g n c q A N _ J.rd (by omega) (by omega) (by omega)).mono ?_
          rintro e w6 ⟨zo, q9, rfl, hq9, r9, g9⟩
          have J := J.pick hg r9 g9
          clear r9 g9
          obtain ⟨m0, m1, ⟨mf0, mf1⟩, ms⟩ := J.cells
          obtain ⟨k0, k1, ⟨kf0, kf1⟩, ks⟩ := J.rcells
          cases zo with
          | false =>
            obtain ⟨f1, f2, f3⟩ := J.fin (.slice At t.length ct) (.slice Au u.length cu)
            go_wp2
            refine bodyPost_ret (v := .agg #[.slice At t.length ct, .slice Au u.length cu]) (by simp [results, Try.results42, go_sem, *]) rfl ⟨_, _, t, u, rfl, f1, f2, J.st, J.su, by omega, by omega, f3⟩
          | true =>
            go_wp2_with fail
            refine (pick_any g n c q9 A 3 _ J.rd (by omega) (by omega) (by omega)).mono ?_
            rintro e w7 ⟨z7, rfl, z7a, z7b, r7, g7⟩
            have J := J.pick hg r7 g7
            clear r7 g7 m0 m1 mf0 mf1 k0 k1 kf0 kf1
            obtain ⟨m0, m1, ⟨mf0, mf1⟩, ms⟩ := J.cells
            obtain ⟨k0, k1, ⟨kf0, kf1⟩, ks⟩ := J.rcells
            by_cases hz0 : z7 = 0
            · subst hz0
              obtain ⟨f1, f2, f3⟩ := J.fin (.slice none 0 0) (.slice none 0 0)
              go_wp2
              refine bodyPost_ret (v := .agg #[.slice none 0 0, .slice none 0 0]) (by simp [results, Try.results42, go_sem, *]) rfl ⟨_, _, [], [], rfl, Owns.nil _ _, Owns.nil _ _, small_nil, small_nil, by simp, by simp, f3⟩
            by_cases hz1 : z7 = 1
            · subst hz1
              have l := litB w7 [(0, 0)] #[.int .i64 0, .int .i64 0] rfl (by simp)
              have J2 := (J.below (box_below w7 #[.int .i64 0, .int .i64 0] 35)).set1 hg (l.base (by omega)) (small_one (by omega) (by omega) (by omega) (by omega))
              obtain ⟨f1, f2, f3⟩ := J2.fin (.slice At t.length ct) (.slice (some ⟨w7.heap.size, 0, none⟩) 1 1)
              rw [sets_alloc ms ks] at f1 f2 f3
              clear l
              go_wp2
              refine bodyPost_ret (v := .agg #[.slice At t.length ct, .slice (some ⟨w7.heap.size, 0, none⟩) 1 1]) (by simp [results, Try.results42, go_sem, *]) rfl ⟨_, _, t, [(0, 0)], rfl, f1, f2, J2.st, J2.su, by omega, by simp, f3⟩
            · have hz0b : (z7 == 0) = false := beq_eq_false_iff_ne.2 hz0
              have hz1b : (z7 == 1) = false := beq_eq_false_iff_ne.2 hz1
              have l := litB w7 [(4, 0)] #[.int .i64 4, .int .i64 0] rfl (by simp)
              have J2 := (J.below (box_below w7 #[.int .i64 4, .int .i64 0] 35)).set0 hg (l.base (by omega)) (small_one (by omega) (by omega) (by omega) (by omega))
              obtain ⟨f1, f2, f3⟩ := J2.fin (.slice (some ⟨w7.heap.size, 0, none⟩) 1 1) (.slice Au u.length cu)
              rw [sets_alloc ms ks] at f1 f2 f3
              clear l
              go_wp2
              refine bodyPost_ret (v := .agg #[.slice (some ⟨w7.heap.size, 0, none⟩) 1 1, .slice Au u.length cu]) (by simp [results, Try.results42, go_sem, *]) rfl ⟨_, _, [(4, 0)], u, rfl, f1, f2, J2.st, J2.su, by simp, by omega, f3⟩
end Go.Proofs.Ytfofmfkdkihhbac
