/- The model's texts of pictures. No conditions but those typed. -/
import Derived.Test.YtpdnakiilhohdaaDoorRowsT
namespace Go.Proofs.YtpdnakiilhohdaaDoor
open Go.RowKit Go.Sort

theorem joinB_length {c : UInt8} : ∀ {r : List Bs}, (∀ l ∈ r, l.length ≤ 61) → (joinB c r).length ≤ 62 * r.length
  | [], _ => Nat.zero_le _
  | [l], h => by
    have := h l (by simp)
    show l.length ≤ _
    simp; omega
  | l :: m :: r, h => by
    have h1 := h l (by simp)
    have h2 := joinB_length (c := c) (r := m :: r) fun k hk => h k (List.mem_cons_of_mem _ hk)
    rw [joinB_cons c l (by simp), List.length_append, List.length_cons]
    simp only [List.length_cons] at h1 h2 ⊢
    omega
theorem numB_length {n : Int} (h : -100 < n ∧ n < 100) : (numB n).length ≤ 3 := by
  unfold numB
  split
  · have := natB_length 1 n.natAbs (by omega)
    rw [List.length_cons]; omega
  · have := natB_length 1 n.toNat (by omega)
    omega
theorem rowsT_bound {p : List Sp} (h : picB p = true) (h0 : p ≠ []) : (rowsT p).length ≤ 61 ∧ ∀ l ∈ rowsT p, l.length ≤ 61 := by
  obtain ⟨b1, b2⟩ := box_in h h0
  have r := rows_are h h0
  refine ⟨by have := r.many; omega, fun l hl => ?_⟩
  obtain ⟨k, hk⟩ := List.getElem?_of_mem hl
  have := r.long k l hk
  omega
theorem strZ_at {r : List Bs} {k : Nat} {l : Bs} (h : r[k]? = some l) : (strZ r)[k]? = some (strV l) := by unfold strZ; rw [List.getElem?_map, h]; rfl
theorem joinB_take {c : UInt8} {r : List Bs} {k : Nat} {l : Bs} (h : r[k]? = some l) (hk : 0 < k) : joinB c (r.take (k + 1)) = joinB c (r.take k) ++ c :: l := by
  rw [List.take_add_one, h]
  exact joinB_snoc c l (by
    intro e
    have := congrArg List.length e
    have hl := (List.getElem?_eq_some_iff.1 h).1
    rw [List.length_take] at this
    simp only [List.length_nil] at this
    omega)
theorem joinB_one {c : UInt8} {r : List Bs} {l : Bs} (h : r[0]? = some l) : joinB c (r.take (0 + 1)) = l := by
  rw [List.take_add_one, h]; rfl
/-- what is told of a text so far, as the walk adds to it -/
theorem add_lit {P : Program} (l : Bs) (b : UInt8) (h : l.length ≤ 1000000) : ∀ W : World, (Op.stringOp .add (bs l) { data := #[b] }).run P W = .ok (.string (bs (l ++ [b]))) W := fun W => str_add l [b] W (by simp; omega)
theorem add_two {P : Program} (l m : Bs) (h : l.length ≤ 1000000) (k : m.length ≤ 1000000) : ∀ W : World, (Op.stringOp .add (bs l) (bs m)).run P W = .ok (.string (bs (l ++ m))) W := fun W => str_add l m W (by omega)
end Go.Proofs.YtpdnakiilhohdaaDoor
