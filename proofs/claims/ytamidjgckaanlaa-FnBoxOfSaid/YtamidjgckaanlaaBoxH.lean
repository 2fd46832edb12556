/- Plain facts for the model's BoxOf, and stores into blocks of two cells. No conditions but those typed. -/
import Derived.Test.YtamidjgckaanlaaBox
namespace Go.Proofs.Ytamidjgckaanlaa
open Go.RowKit Go.Sort

theorem IsBox.step {ps : List Sp} {k : Nat} {lx ly gx gy x y : Int} (h : IsBox (ps.take k) (lx, ly) (gx, gy)) (hx : ps[k]? = some (x, y)) :
    IsBox (ps.take (k + 1)) ((if x < lx then x else lx), (if y < ly then y else ly)) ((if gx < x then x else gx), (if gy < y then y else gy)) := by
  have h' := h.more (x, y)
  have e : ps.take (k + 1) = ps.take k ++ [(x, y)] := by rw [List.take_add_one, hx]; rfl
  have e1 : ((if x < lx then x else lx), (if y < ly then y else ly)) = lowS (lx, ly) (x, y) := by
    unfold lowS; simp only [Int.min_def]; apply sp_ext <;> simp only [] <;> split <;> split <;> omega
  have e2 : ((if gx < x then x else gx), (if gy < y then y else gy)) = highS (gx, gy) (x, y) := by
    unfold highS; simp only [Int.max_def]; apply sp_ext <;> simp only [] <;> split <;> split <;> omega
  rw [e, e1, e2]
  exact h'

theorem set2_same {w : World} {g : Nat} {x y a b : Value} {T : TypeId} (h : w.heap[g]? = some (.cells #[x, y] T (0, 0))) : ((w.setCell ⟨g, 0, none⟩ a).setCell ⟨g, 1, none⟩ b).heap[g]? = some (.cells #[a, b] T (0, 0)) :=
  (heap_setCell_same _ _ 1 _ _ _ (heap_setCell_same _ _ 0 _ _ _ h)).trans rfl
theorem set2_other {w : World} {g k : Nat} {a b : Value} (h : k ≠ g) : ((w.setCell ⟨g, 0, none⟩ a).setCell ⟨g, 1, none⟩ b).heap[k]? = w.heap[k]? :=
  (heap_setCell_other _ _ _ _ h).trans (heap_setCell_other _ _ _ _ h)
theorem below_set2 {B : Nat} {w0 w : World} {g : Nat} {a b : Value} (h : Below B w0 w) (hg : B ≤ g) : Below B w0 ((w.setCell ⟨g, 0, none⟩ a).setCell ⟨g, 1, none⟩ b) :=
  (h.setCell (p := ⟨g, 0, none⟩) hg a).setCell (p := ⟨g, 1, none⟩) hg b

theorem two_boxes (w : World) (a b c d : Value) : ∃ W, W = (w.alloc (.cells #[a, b] 25)).alloc (.cells #[c, d] 25) ∧ Below w.heap.size w W ∧ w.heap.size + 2 = W.heap.size ∧
    W.heap[w.heap.size]? = some (.cells #[a, b] 25 (0, 0)) ∧ W.heap[w.heap.size + 1]? = some (.cells #[c, d] 25 (0, 0)) :=
  ⟨_, rfl, ((Below.refl _ _).alloc (Nat.le_refl _) _).alloc (by simp) _, by simp, first_block _ _ _, second_block _ _ _⟩
theorem cells_of_row {w : World} {g : Nat} {a b : Value} {T : TypeId} (h : w.heap[g]? = some (.cells #[a, b] T (0, 0))) : w.cell? ⟨g, 0, none⟩ = some a ∧ w.cell? ⟨g, 1, none⟩ = some b := by
  have c0 := cell_of_row w _ 0 _ _ _ h
  have c1 := cell_of_row w _ 1 _ _ _ h
  simp only [List.getElem?_toArray, List.getElem?_cons_zero, List.getElem?_cons_succ] at c0 c1
  exact ⟨c0, c1⟩
end Go.Proofs.Ytamidjgckaanlaa
