/- Texts of one kind, merged: Two, Box, BoxH. No conditions but those that stand in each theorem. -/
import Derived.Test.YtpdnakiilhohdaaDoorBase
import Derived.Test.YtpdnakiilhohdaaDoorPlain
import Derived.Test.YtpdnakiilhohdaaDoorHas
import Derived.RegionTactic
namespace Go.Proofs.YtpdnakiilhohdaaDoor
/-! ### Two -/
section
open Go.RowKit Go.Sort

theorem first_block (w : World) (o1 o2 : Obj) : ((w.alloc o1).alloc o2).drew.heap[w.heap.size]? = some o1 :=
  (show ((w.alloc o1).alloc o2).heap[w.heap.size]? = some o1 from (((Below.refl (w.heap.size + 1) (w.alloc o1)).alloc (by simp) o2).block w.heap.size (Nat.lt_succ_self _)).trans (heap_alloc_new w o1))
theorem second_block (w : World) (o1 o2 : Obj) : ((w.alloc o1).alloc o2).drew.heap[w.heap.size + 1]? = some o2 := by
  have := heap_alloc_new (w.alloc o1) o2
  rw [World.size_alloc] at this
  exact this

theorem set2_same {w : World} {g : Nat} {x y a b : Value} {T : TypeId} (h : w.heap[g]? = some (.cells #[x, y] T (0, 0))) : ((w.setCell ⟨g, 0, none⟩ a).setCell ⟨g, 1, none⟩ b).heap[g]? = some (.cells #[a, b] T (0, 0)) :=
  (heap_setCell_same _ _ 1 _ _ _ (heap_setCell_same _ _ 0 _ _ _ h)).trans rfl
theorem set2_other {w : World} {g k : Nat} {a b : Value} (h : k ≠ g) : ((w.setCell ⟨g, 0, none⟩ a).setCell ⟨g, 1, none⟩ b).heap[k]? = w.heap[k]? :=
  (heap_setCell_other _ _ _ _ h).trans (heap_setCell_other _ _ _ _ h)
theorem below_set2 {B : Nat} {w0 w : World} {g : Nat} {a b : Value} (h : Below B w0 w) (hg : B ≤ g) : Below B w0 ((w.setCell ⟨g, 0, none⟩ a).setCell ⟨g, 1, none⟩ b) :=
  (h.setCell (p := ⟨g, 0, none⟩) hg a).setCell (p := ⟨g, 1, none⟩) hg b

theorem two_boxes (w : World) (a b c d : Value) : ∃ W, W = (w.alloc (.cells #[a, b] 58)).alloc (.cells #[c, d] 58) ∧ Below w.heap.size w W ∧ w.heap.size + 2 = W.heap.size ∧
    W.heap[w.heap.size]? = some (.cells #[a, b] 58 (0, 0)) ∧ W.heap[w.heap.size + 1]? = some (.cells #[c, d] 58 (0, 0)) :=
  ⟨_, rfl, ((Below.refl _ _).alloc (Nat.le_refl _) _).alloc (by simp) _, by simp, first_block _ _ _, second_block _ _ _⟩
theorem cells_of_row {w : World} {g : Nat} {a b : Value} {T : TypeId} (h : w.heap[g]? = some (.cells #[a, b] T (0, 0))) : w.cell? ⟨g, 0, none⟩ = some a ∧ w.cell? ⟨g, 1, none⟩ = some b := by
  have c0 := cell_of_row w _ 0 _ _ _ h
  have c1 := cell_of_row w _ 1 _ _ _ h
  simp only [List.getElem?_toArray, List.getElem?_cons_zero, List.getElem?_cons_succ] at c0 c1
  exact ⟨c0, c1⟩
end
/-! ### Box -/
section
open Go.RowKit Go.Sort

def boxOk (p : List Sp) : Bool := picB p && decide (p ≠ [])
def boxR (p : List Sp) : Sp × Sp := if boxOk p then boxL p else ((0, 0), (0, 0))
def GivesBox (b : Sp × Sp) (ok : Bool) (w : World) (e : Ending) (w' : World) : Prop :=
  e = .returned (.tuple #[.agg #[.int .i64 b.1.1, .int .i64 b.1.2], .agg #[.int .i64 b.2.1, .int .i64 b.2.2], .bool ok]) ∧ Below w.heap.size w w'
theorem box_no {p : List Sp} (h : boxOk p = false) : boxR p = ((0, 0), (0, 0)) := by unfold boxR; rw [h]; rfl

/-- what the loop knows behind k spots -/
structure BInv (ps : List Sp) (k : Nat) (lx gx : Int) : Prop where
  all : ∀ j a, j < k → ps[j]? = some a → lx ≤ a.1 ∧ a.1 ≤ gx
  lo : ∃ a ∈ ps, a.1 = lx
  hi : ∃ a ∈ ps, a.1 = gx
theorem BInv.step {ps : List Sp} {k : Nat} {lx gx x y : Int} (h : BInv ps k lx gx) (hx : ps[k]? = some (x, y)) : BInv ps (k + 1) (if x < lx then x else lx) (if gx < x then x else gx) := by
  have e1' : (if x < lx then x else lx) = min lx x := by rw [Int.min_def]; split <;> split <;> omega
  have e2' : (if gx < x then x else gx) = max gx x := by rw [Int.max_def]; split <;> split <;> omega
  rw [e1', e2']
  obtain ⟨a, ha, e1⟩ := h.lo
  obtain ⟨b, hb, e2⟩ := h.hi
  have hm := List.mem_of_getElem? hx
  refine ⟨fun j c hj hc => ?_, ?_, ?_⟩
  · by_cases e : j = k
    · subst e; rw [hx] at hc; cases hc; simp only; omega
    · have := h.all j c (by omega) hc; omega
  · rcases Int.le_total lx x with l | l
    · exact ⟨a, ha, by omega⟩
    · exact ⟨_, hm, by simp only; omega⟩
  · rcases Int.le_total gx x with l | l
    · exact ⟨_, hm, by simp only; omega⟩
    · exact ⟨b, hb, by omega⟩
theorem BInv.start {ps : List Sp} {m : Nat} {x0 y0 x1 y1 : Int} (h0 : ps[0]? = some (x0, y0)) (h1 : ps[m]? = some (x1, y1)) : BInv ps 0 x0 x1 :=
  ⟨fun j _ hj => by omega, ⟨_, List.mem_of_getElem? h0, rfl⟩, ⟨_, List.mem_of_getElem? h1, rfl⟩⟩
theorem BInv.done {ps : List Sp} {m : Nat} {lx gx x0 y0 x1 y1 : Int} (h : BInv ps (m + 1) lx gx) (hl : ps.length = m + 1) (hs : Sorted ps) (h0 : ps[0]? = some (x0, y0)) (h1 : ps[m]? = some (x1, y1)) : boxL ps = ((lx, y0), (gx, y1)) := by
  have hne : ps ≠ [] := fun e => by rw [e] at hl; cases hl
  have hb : IsBox ps (lx, y0) (gx, y1) := by
    refine ⟨fun a ha => ?_, h.lo, ⟨_, List.mem_of_getElem? h0, rfl⟩, h.hi, ⟨_, List.mem_of_getElem? h1, rfl⟩⟩
    obtain ⟨j, hj⟩ := List.mem_iff_getElem?.1 ha
    have hjl := (List.getElem?_eq_some_iff.1 hj).1
    have hx := h.all j a (by omega) hj
    have hy0 : y0 ≤ a.2 := by
      by_cases e : j = 0
      · subst e; rw [h0] at hj; cases hj; exact Int.le_refl _
      · have := steps_of_sorted hs (show 0 < j by omega) h0 hj; unfold Lt at this; simp only at this; omega
    have hy1 : a.2 ≤ y1 := by
      by_cases e : j = m
      · subst e; rw [h1] at hj; cases hj; exact Int.le_refl _
      · have := steps_of_sorted hs (show j < m by omega) hj h1; unfold Lt at this; simp only at this; omega
    exact ⟨hx.1, hy0, hx.2, hy1⟩
  obtain ⟨e1, e2⟩ := (isBox_boxL hne).one hb
  rw [← e1, ← e2]

end
/-! ### BoxH -/
section
open Go.RowKit Go.Sort

theorem IsBox.step {ps : List Sp} {k : Nat} {lx ly gx gy x y : Int} (h : IsBox (ps.take k) (lx, ly) (gx, gy)) (hx : ps[k]? = some (x, y)) :
    IsBox (ps.take (k + 1)) ((if x < lx then x else lx), (if y < ly then y else ly)) ((if gx < x then x else gx), (if gy < y then y else gy)) := by
  have h' := h.more (x, y)
  have e : ps.take (k + 1) = ps.take k ++ [(x, y)] := by rw [List.take_add_one, hx]; rfl
  have e1 : ((if x < lx then x else lx), (if y < ly then y else ly)) = lowS (lx, ly) (x, y) := by
    unfold lowS; simp only [Int.min_def]; apply sp_ext <;> simp only [] <;> split <;> split <;> omega
  have e2 : ((if gx < x then x else gx), (if gy < y then y else gy)) = highS (gx, gy) (x, y) := by
    unfold highS; simp only [Int.max_def]; apply sp_ext <;> simp only [] <;> split <;> split <;> omega
  rw [e, e1, e2]
  exact h'
end
end Go.Proofs.YtpdnakiilhohdaaDoor
