/- What the draws of patterns hand back, in new memory: DrawPatternOk, DrawFoundIn, DrawThinnedBy. No conditions but those typed. -/
import Derived.Test.YtfofmfkdkihhbacDrawP
namespace Go.Proofs.Ytfofmfkdkihhbac
open Go.RowKit Go.Sort

/-- a drawn pattern, in new memory -/
structure DrawnP (w w' : World) (vt vu : Value) (t u : List Sp) : Prop where
  ot : Owns w' w.heap.size vt t
  ou : Owns w' w.heap.size vu u
  st : Small t
  su : Small u
  lt : t.length ≤ 10
  lu : u.length ≤ 10
  below : Below w.heap.size w w'
def PatDraw (w : World) (e : Ending) (w' : World) : Prop := ∃ vt vu t u, e = .returned (.agg #[vt, vu]) ∧ DrawnP w w' vt vu t u
def TwoDraw (w : World) (m : Nat) (e : Ending) (w' : World) : Prop := ∃ v ps vt vu t u, e = .returned (.tuple #[v, .agg #[vt, vu]]) ∧ Owns w' w.heap.size v ps ∧ Small ps ∧ ps.length ≤ m ∧ DrawnP w w' vt vu t u
theorem Owns.other {w : World} {base k : Nat} {v : Value} {ps : List Sp} (h : Owns w base v ps) (hk : k < base) : v.ownBlock = none ∨ v.ownBlock ≠ some k := by
  cases hv : v.ownBlock with
  | none => exact .inl rfl
  | some j => exact .inr (fun e => by have := (h.lt j hv).1; cases e; omega)
theorem Owns.res {w : World} {base k : Nat} {v : Value} {ps : List Sp} (h : Owns w base v ps) (hk : k < base) (x y : Value) : Owns ((w.setCell ⟨k, 0, none⟩ x).setCell ⟨k, 1, none⟩ y) k v ps :=
  ((h.setFar (a := ⟨k, 0, none⟩) (h.other hk) x).setFar (a := ⟨k, 1, none⟩) (h.other hk) y).base (Nat.le_of_lt hk)
set_option maxHeartbeats 400000 in
theorem drawFoundIn_any (A : Option Addr) (n c : Nat) (w : World) (hb : Bytes w w.heap.size A n) (hn : n ≤ c) (hc : c ≤ 9223372036854775807) :
    Calls Try.prog 11 #[.slice A n c] w (TwoDraw w 13) := by
  have b0 : Below w.heap.size w (w.alloc (.cells #[.slice none 0 0, .slice none 0 0] 25)) := (Below.refl _ _).alloc (Nat.le_refl _) _
  obtain ⟨W, hW⟩ : ∃ W, W = w.alloc (.cells #[.slice none 0 0, .slice none 0 0] 25) := ⟨_, rfl⟩
  have k0 : W.heap[w.heap.size]? = some (.cells #[.slice none 0 0, .slice none 0 0] 25 (0, 0)) := by rw [hW]; exact heap_alloc_new w _
  have s0 : w.heap.size < W.heap.size := by rw [hW]; simp
  rw [← hW] at b0
  have hb1 := (hb.below b0).more b0.size
  go_enter Try.func11, Try.ntmps11
  go_wp2_with (first | (rw [← hW]; clear hW) | fail)
  refine (open_any A n c W hb1 hn hc).mono ?_
  rintro e w1 ⟨n', rfl, r1, b1⟩
  have k0 := (b1.block _ s0).trans k0
  go_wp2_with fail
  refine (spots_any W.heap.size n' c 0 A 12 14 _ r1 (by omega) (by omega) (by omega) (by omega) (by omega)).mono ?_
  rintro e w2 ⟨v, ps, q, rfl, I, hl, hq⟩
  have k0 := (I.grown.block _ (Nat.lt_of_lt_of_le s0 b1.size) (fun e => by injection e with e; omega)).trans k0
  have hs1 := b1.size
  have hs2 := I.grown.size
  go_wp2_with fail
  refine (pattern_any W.heap.size n' c q A 14 _ I.rd (by omega) (by omega) (by omega)).mono ?_
  rintro e w3 ⟨vt, vu, t, u, rfl, o1, o2, s1, s2, l1, l2, g2⟩
  have k0 := (g2.block _ (by omega) (fun e => by injection e with e; omega)).trans k0
  have o3 := I.own.grown g2 (I.own.other (by have := r1.lt; omega))
  have bb := below_step b0 (Below.of_grown (Below.of_grown b1 I.grown (Nat.le_refl _)) g2 (Nat.le_refl _))
  obtain ⟨A1, c1', rfl, _, _⟩ := o1.reads.slice
  obtain ⟨A2, c2', rfl, _, _⟩ := o2.reads.slice
  obtain ⟨A3, c3', rfl, _, _⟩ := o3.reads.slice
  have p1 := o1.res (k := w.heap.size) (by omega) (.slice A1 t.length c1') (.slice A2 u.length c2')
  have p2 := o2.res (k := w.heap.size) (by omega) (.slice A1 t.length c1') (.slice A2 u.length c2')
  have p3 := o3.res (k := w.heap.size) (by omega) (.slice A1 t.length c1') (.slice A2 u.length c2')
  have hsm := I.small
  obtain ⟨c0, c1⟩ := cells_of_row k0
  have f0 := frozen_of_row w3 _ 0 _ _ k0
  have f1 := frozen_of_row w3 _ 1 _ _ k0
  have s0 := (Array.getElem?_eq_some_iff.1 k0).1
  clear k0
  go_wp2
  refine bodyPost_ret (v := .tuple #[.slice A3 ps.length c3', .agg #[.slice A1 t.length c1', .slice A2 u.length c2']]) (by simp [results, Try.results11, go_sem, *]) rfl ⟨_, ps, _, _, t, u, rfl, p3, hsm, by simpa using hl, p1, p2, s1, s2, l1, l2, ?_⟩
  exact (bb.setCell (p := ⟨w.heap.size, 0, none⟩) (Nat.le_refl _) _).setCell (p := ⟨w.heap.size, 1, none⟩) (Nat.le_refl _) _
theorem drawThinnedBy_any (A : Option Addr) (n c : Nat) (w : World) (hb : Bytes w w.heap.size A n) (hn : n ≤ c) (hc : c ≤ 9223372036854775807) :
    Calls Try.prog 28 #[.slice A n c] w (TwoDraw w 13) := by
  have b0 : Below w.heap.size w (w.alloc (.cells #[.slice none 0 0, .slice none 0 0] 25)) := (Below.refl _ _).alloc (Nat.le_refl _) _
  obtain ⟨W, hW⟩ : ∃ W, W = w.alloc (.cells #[.slice none 0 0, .slice none 0 0] 25) := ⟨_, rfl⟩
  have k0 : W.heap[w.heap.size]? = some (.cells #[.slice none 0 0, .slice none 0 0] 25 (0, 0)) := by rw [hW]; exact heap_alloc_new w _
  have s0 : w.heap.size < W.heap.size := by rw [hW]; simp
  rw [← hW] at b0
  have hb1 := (hb.below b0).more b0.size
  go_enter Try.func28, Try.ntmps28
  go_wp2_with (first | (rw [← hW]; clear hW) | fail)
  refine (drawFoundIn_any A n c W hb1 hn hc).mono ?_
  rintro e w1 ⟨v, ps, vt, vu, t, u, rfl, o3, hsm, hl, D⟩
  have k0 := (D.below.block _ s0).trans k0
  have bb := below_step b0 D.below
  have o1 := D.ot
  have o2 := D.ou
  obtain ⟨A1, c1', rfl, _, _⟩ := o1.reads.slice
  obtain ⟨A2, c2', rfl, _, _⟩ := o2.reads.slice
  obtain ⟨A3, c3', rfl, _, _⟩ := o3.reads.slice
  have p1 := o1.res (k := w.heap.size) (by omega) (.slice A1 t.length c1') (.slice A2 u.length c2')
  have p2 := o2.res (k := w.heap.size) (by omega) (.slice A1 t.length c1') (.slice A2 u.length c2')
  have p3 := o3.res (k := w.heap.size) (by omega) (.slice A1 t.length c1') (.slice A2 u.length c2')
  obtain ⟨c0, c1⟩ := cells_of_row k0
  have f0 := frozen_of_row w1 _ 0 _ _ k0
  have f1 := frozen_of_row w1 _ 1 _ _ k0
  have s0 := (Array.getElem?_eq_some_iff.1 k0).1
  clear k0
  go_wp2
  refine bodyPost_ret (v := .tuple #[.slice A3 ps.length c3', .agg #[.slice A1 t.length c1', .slice A2 u.length c2']]) (by simp [results, Try.results28, go_sem, *]) rfl ⟨_, ps, _, _, t, u, rfl, p3, hsm, hl, p1, p2, D.st, D.su, D.lt, D.lu, ?_⟩
  exact (bb.setCell (p := ⟨w.heap.size, 0, none⟩) (Nat.le_refl _) _).setCell (p := ⟨w.heap.size, 1, none⟩) (Nat.le_refl _) _
end Go.Proofs.Ytfofmfkdkihhbac
