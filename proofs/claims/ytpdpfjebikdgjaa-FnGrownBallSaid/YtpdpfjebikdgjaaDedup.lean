/-
  Plain facts on lists in order with repeats: each spot once. No program is named. No conditions but those that stand in each theorem.
-/
import Derived.Test.YtpdpfjebikdgjaaSums
namespace Go.Proofs.Ytpdpfjebikdgjaa

/-- of the first j spots those that are not the spot before -/
def dd (l : List Sp) : Nat → List Sp
  | 0 => []
  | j + 1 => dd l j ++ (if 0 < j ∧ l.getD (j - 1) (0, 0) = l.getD j (0, 0) then [] else [l.getD j (0, 0)])
/-- no spot is before an earlier one -/
def WS (l : List Sp) : Prop := ∀ i j, i < j → j < l.length → ¬ Lt (l.getD j (0, 0)) (l.getD i (0, 0))

theorem dd_dup {l : List Sp} {j : Nat} (h0 : 0 < j) (h : l.getD (j - 1) (0, 0) = l.getD j (0, 0)) : dd l (j + 1) = dd l j := by
  unfold dd; rw [if_pos ⟨h0, h⟩, List.append_nil]; cases j <;> rfl
theorem dd_new {l : List Sp} {j : Nat} (h : j = 0 ∨ l.getD (j - 1) (0, 0) ≠ l.getD j (0, 0)) : dd l (j + 1) = dd l j ++ [l.getD j (0, 0)] := by
  have hn : ¬ (0 < j ∧ l.getD (j - 1) (0, 0) = l.getD j (0, 0)) := by
    rintro ⟨h0, h1⟩
    rcases h with h | h
    · omega
    · exact h h1
  rw [dd, if_neg hn]
theorem mem_dd {l : List Sp} {x : Sp} : ∀ {j : Nat}, x ∈ dd l j ↔ ∃ i, i < j ∧ l.getD i (0, 0) = x
  | 0 => by simp [dd]
  | j + 1 => by
    by_cases h : 0 < j ∧ l.getD (j - 1) (0, 0) = l.getD j (0, 0)
    · rw [dd_dup h.1 h.2, mem_dd]
      constructor
      · rintro ⟨i, hi, e⟩; exact ⟨i, by omega, e⟩
      · rintro ⟨i, hi, e⟩
        by_cases e' : i = j
        · subst e'; exact ⟨i - 1, by omega, h.2.trans e⟩
        · exact ⟨i, by omega, e⟩
    · rw [dd_new (by by_cases h0 : j = 0; exact .inl h0; exact .inr fun e => h ⟨by omega, e⟩), List.mem_append, mem_dd, List.mem_singleton]
      constructor
      · rintro (⟨i, hi, e⟩ | e)
        · exact ⟨i, by omega, e⟩
        · exact ⟨j, by omega, e.symm⟩
      · rintro ⟨i, hi, e⟩
        by_cases e' : i = j
        · subst e'; exact .inr e.symm
        · exact .inl ⟨i, by omega, e⟩
theorem length_dd_le (l : List Sp) : ∀ j, (dd l j).length ≤ j
  | 0 => Nat.le_refl _
  | j + 1 => by
    have := length_dd_le l j
    unfold dd
    split <;> simp <;> omega
theorem sorted_dd {l : List Sp} (hw : WS l) : ∀ {j : Nat}, j ≤ l.length → Sorted (dd l j)
  | 0, _ => List.Pairwise.nil
  | j + 1, hj => by
    have ih := sorted_dd hw (j := j) (by omega)
    by_cases h : 0 < j ∧ l.getD (j - 1) (0, 0) = l.getD j (0, 0)
    · rw [dd_dup h.1 h.2]; exact ih
    · have h' : j = 0 ∨ l.getD (j - 1) (0, 0) ≠ l.getD j (0, 0) := by
        by_cases h0 : j = 0
        · exact .inl h0
        · exact .inr fun e => h ⟨by omega, e⟩
      rw [dd_new h']
      refine List.pairwise_append.2 ⟨ih, List.pairwise_singleton _ _, fun x hx y hy => ?_⟩
      rw [List.mem_singleton] at hy
      subst hy
      obtain ⟨i, hi, rfl⟩ := mem_dd.1 hx
      rcases h' with h0 | hne
      · omega
      · have hl : Lt (l.getD (j - 1) (0, 0)) (l.getD j (0, 0)) := by
          rcases lt_total (l.getD (j - 1) (0, 0)) (l.getD j (0, 0)) with k | k | k
          · exact k
          · exact absurd k hne
          · exact absurd k (hw _ _ (by omega) (by omega))
        by_cases e : i = j - 1
        · rw [e]; exact hl
        · rcases lt_total (l.getD i (0, 0)) (l.getD (j - 1) (0, 0)) with k | k | k
          · exact lt_trans k hl
          · rw [k]; exact hl
          · exact absurd k (hw _ _ (by omega) (by omega))
theorem mem_getD {l : List Sp} {x : Sp} : x ∈ l ↔ ∃ i, i < l.length ∧ l.getD i (0, 0) = x := by
  constructor
  · intro h
    obtain ⟨i, hi⟩ := List.mem_iff_getElem?.1 h
    exact ⟨i, (List.getElem?_eq_some_iff.1 hi).1, by rw [List.getD_eq_getElem?_getD, hi]; rfl⟩
  · rintro ⟨i, hi, rfl⟩
    exact getD_mem hi
/-- put in order, each of them once -/
theorem dd_sum {l p q : List Sp} (hw : WS l) (h : ∀ x, x ∈ l ↔ x ∈ sumRaw p q) : dd l l.length = sumL p q :=
  sorted_ext (sorted_dd hw (Nat.le_refl _)) (sorted_sumL p q) fun x => by
    rw [mem_dd, ← mem_getD, h, mem_sumRaw, mem_sumL]
theorem dd_all {l : List Sp} : ∀ {k : Nat}, k ≤ l.length → (∀ j, 0 < j → j < k → l.getD (j - 1) (0, 0) ≠ l.getD j (0, 0)) → dd l k = l.take k
  | 0, _, _ => by simp [dd]
  | k + 1, hk, h => by
    rw [dd_new (by by_cases h0 : k = 0; exact .inl h0; exact .inr (h k (by omega) (by omega))), dd_all (by omega) fun j h0 hj => h j h0 (by omega), List.take_add_one, getD_some (by omega)]
    rfl
end Go.Proofs.Ytpdpfjebikdgjaa
