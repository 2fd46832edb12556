/- Two structs of two cells in new memory, and stores into them. No conditions but those typed. -/
import Derived.Test.YtebgcmnajkophaaBase
namespace Go.Proofs.Ytebgcmnajkophaa
open Go.RowKit Go.Sort

theorem first_block (w : World) (o1 o2 : Obj) : ((w.alloc o1).alloc o2).drew.heap[w.heap.size]? = some o1 :=
  (show ((w.alloc o1).alloc o2).heap[w.heap.size]? = some o1 from (((Below.refl (w.heap.size + 1) (w.alloc o1)).alloc (by simp) o2).block w.heap.size (Nat.lt_succ_self _)).trans (heap_alloc_new w o1))
theorem second_block (w : World) (o1 o2 : Obj) : ((w.alloc o1).alloc o2).drew.heap[w.heap.size + 1]? = some o2 := by
  have := heap_alloc_new (w.alloc o1) o2
  rw [World.size_alloc] at this
  exact this

theorem set2_same {w : World} {g : Nat} {x y a b : Value} {T : TypeId} (h : w.heap[g]? = some (.cells #[x, y] T (0, 0))) : ((w.setCell ⟨g, 0, none⟩ a).setCell ⟨g, 1, none⟩ b).heap[g]? = some (.cells #[a, b] T (0, 0)) :=
  (heap_setCell_same _ _ 1 _ _ _ (heap_setCell_same _ _ 0 _ _ _ h)).trans rfl
theorem set2_other {w : World} {g k : Nat} {a b : Value} (h : k ≠ g) : ((w.setCell ⟨g, 0, none⟩ a).setCell ⟨g, 1, none⟩ b).heap[k]? = w.heap[k]? :=
  (heap_setCell_other _ _ _ _ h).trans (heap_setCell_other _ _ _ _ h)
theorem below_set2 {B : Nat} {w0 w : World} {g : Nat} {a b : Value} (h : Below B w0 w) (hg : B ≤ g) : Below B w0 ((w.setCell ⟨g, 0, none⟩ a).setCell ⟨g, 1, none⟩ b) :=
  (h.setCell (p := ⟨g, 0, none⟩) hg a).setCell (p := ⟨g, 1, none⟩) hg b

theorem two_boxes (w : World) (a b c d : Value) : ∃ W, W = (w.alloc (.cells #[a, b] 33)).alloc (.cells #[c, d] 33) ∧ Below w.heap.size w W ∧ w.heap.size + 2 = W.heap.size ∧
    W.heap[w.heap.size]? = some (.cells #[a, b] 33 (0, 0)) ∧ W.heap[w.heap.size + 1]? = some (.cells #[c, d] 33 (0, 0)) :=
  ⟨_, rfl, ((Below.refl _ _).alloc (Nat.le_refl _) _).alloc (by simp) _, by simp, first_block _ _ _, second_block _ _ _⟩
theorem cells_of_row {w : World} {g : Nat} {a b : Value} {T : TypeId} (h : w.heap[g]? = some (.cells #[a, b] T (0, 0))) : w.cell? ⟨g, 0, none⟩ = some a ∧ w.cell? ⟨g, 1, none⟩ = some b := by
  have c0 := cell_of_row w _ 0 _ _ _ h
  have c1 := cell_of_row w _ 1 _ _ _ h
  simp only [List.getElem?_toArray, List.getElem?_cons_zero, List.getElem?_cons_succ] at c0 c1
  exact ⟨c0, c1⟩
end Go.Proofs.Ytebgcmnajkophaa
