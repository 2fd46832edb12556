/- Plain facts for the laws of chapter 1: what is common is within both, unions have both, half turns. No program is named but through the lists. -/
import Derived.Test.YtfofmfkdkihhbabUnion
import Derived.Test.YtfofmfkdkihhbabMove
namespace Go.Proofs.Ytfofmfkdkihhbab

theorem pic_of_sub {p q : List Sp} (hp : Pic p) (hs : Sorted q) (hl : q.length ≤ p.length) (hm : ∀ x ∈ q, x ∈ p) : Pic q :=
  ⟨Nat.le_trans hl hp.1, fun a ha => hp.2.1 a (hm a ha), hs⟩
theorem pic_common {p q : List Sp} (hp : Pic p) : Pic (common p q) :=
  pic_of_sub hp (sorted_common hp.2.2) (length_common_le _ _) fun _ hx => (mem_common.1 hx).1
theorem common_self {p q : List Sp} (h : ∀ x ∈ p, x ∈ q) : common p q = p := by
  unfold common
  rw [List.filter_eq_self]
  intro a ha; exact decide_eq_true (h a ha)
theorem within_of {p q : List Sp} (hp : Pic p) (hq : Pic q) (h : ∀ x ∈ p, x ∈ q) : withinB p q = true := by
  unfold withinB bothB picB
  rw [decide_eq_true hp, decide_eq_true hq, common_self h]; simp
theorem common_sub_of_len {p q : List Sp} (h : (common p q).length = p.length) : ∀ x ∈ p, x ∈ q := by
  have e : common p q = p := List.Sublist.eq_of_length (List.filter_sublist) h
  intro x hx
  rw [← e] at hx
  exact (mem_common.1 hx).2
theorem within_mem {p q : List Sp} (h : withinB p q = true) : Pic p ∧ Pic q ∧ ∀ x ∈ p, x ∈ q := by
  unfold withinB bothB at h
  simp only [Bool.and_eq_true, decide_eq_true_eq] at h
  exact ⟨picB_pic h.1.1, picB_pic h.1.2, common_sub_of_len h.2⟩

theorem merge_lengths : ∀ {n : Nat} {p q : List Sp}, p.length + q.length ≤ n → (mergeF true n p q).length + (mergeF false n p q).length = p.length + q.length
  | 0, p, q, h => by
    have h1 : p = [] := List.eq_nil_of_length_eq_zero (by omega)
    have h2 : q = [] := List.eq_nil_of_length_eq_zero (by omega)
    subst h1 h2; rfl
  | n + 1, [], [], _ => rfl
  | n + 1, [], b :: q, h => by
    have := merge_lengths (n := n) (p := []) (q := q) (by simp at h ⊢; omega)
    simp [mergeF] at this ⊢; omega
  | n + 1, a :: p, [], h => by
    have := merge_lengths (n := n) (p := p) (q := []) (by simp at h ⊢; omega)
    simp [mergeF] at this ⊢; omega
  | n + 1, a :: p, b :: q, h => by
    simp only [List.length_cons] at h
    simp only [mergeF, if_true, Bool.false_eq_true, if_false]
    split
    · have := merge_lengths (n := n) (p := p) (q := b :: q) (by simp; omega)
      simp at this ⊢; omega
    · split
      · have := merge_lengths (n := n) (p := a :: p) (q := q) (by simp; omega)
        simp at this ⊢; omega
      · have := merge_lengths (n := n) (p := p) (q := q) (by omega)
        simp at this ⊢; omega
theorem union_count {p q : List Sp} (hp : Sorted p) (hq : Sorted q) : (puts p q).length + (common p q).length = p.length + q.length := by
  rw [← merge_union hp hq, ← merge_common hp hq]; exact merge_lengths (Nat.le_refl _)
theorem puts_comm {p q : List Sp} (hp : Sorted p) (hq : Sorted q) : puts p q = puts q p :=
  sorted_ext (sorted_puts hp) (sorted_puts hq) fun x => by rw [mem_puts, mem_puts]; exact Or.comm
theorem bothB_comm (p q : List Sp) : bothB p q = bothB q p := by unfold bothB; exact Bool.and_comm _ _
theorem unionOk_comm (p q : List Sp) : unionOk p q = unionOk q p := by
  unfold unionOk
  rw [bothB_comm]
  rcases h : bothB q p with _ | _
  · rfl
  · unfold bothB at h
    simp only [Bool.and_eq_true] at h
    rw [puts_comm (picB_pic h.2).2.2 (picB_pic h.1).2.2]
theorem unionL_comm (p q : List Sp) : unionL p q = unionL q p := by
  unfold unionL
  rw [unionOk_comm]
  rcases h : unionOk q p with _ | _
  · rfl
  · unfold unionOk bothB at h
    simp only [Bool.and_eq_true] at h
    rw [if_pos rfl, if_pos rfl, puts_comm (picB_pic h.1.2).2.2 (picB_pic h.1.1).2.2]
theorem union_facts {p q : List Sp} (h : unionOk p q = true) : Pic p ∧ Pic q ∧ unionL p q = puts p q ∧ Pic (puts p q) := by
  have h' := h
  unfold unionOk bothB at h'
  simp only [Bool.and_eq_true, decide_eq_true_eq] at h'
  have hp := picB_pic h'.1.1
  have hq := picB_pic h'.1.2
  refine ⟨hp, hq, by unfold unionL; rw [h]; rfl, h'.2, fun a ha => ?_, sorted_puts hp.2.2⟩
  rcases mem_puts.1 ha with ha | ha
  · exact hp.2.1 a ha
  · exact hq.2.1 a ha

theorem mem_turned_neg {p : List Sp} {x : Sp} : x ∈ turned p ↔ (-x.1, -x.2) ∈ p := by
  unfold turned
  rw [List.mem_reverse, List.mem_map]
  constructor
  · rintro ⟨b, hb, rfl⟩; simpa using hb
  · intro h; exact ⟨_, h, by simp⟩
theorem turned_common {p : List Sp} (hp : Sorted p) : turned (common p (turned p)) = common p (turned p) :=
  sorted_ext (sorted_turned (sorted_common hp)) (sorted_common hp) fun x => by
    rw [mem_turned_neg, mem_common, mem_common, mem_turned_neg, mem_turned_neg]
    simp only [Int.neg_neg]
    exact And.comm
theorem turnedP_pic {p : List Sp} (h : Pic p) : turnedP p = turned p := turnedP_yes (decide_eq_true h)
theorem picB_t {p : List Sp} (h : Pic p) : picB p = true := decide_eq_true h
end Go.Proofs.Ytfofmfkdkihhbab
