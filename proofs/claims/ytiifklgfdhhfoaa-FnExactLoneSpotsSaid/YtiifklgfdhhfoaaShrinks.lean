/-
  Plain facts on shrinking as lists of pairs of integers: growing and shrinking belong together; what grows and shrinks, and what shrinks and grows, twice. No program is named. No conditions but those that stand in each theorem.
-/
import Derived.Test.YtiifklgfdhhfoaaSums
namespace Go.Proofs.Ytiifklgfdhhfoaa

/-- all spots at which q, moved there, is within p: those that the first spot of q allows are tried -/
def shrinkL (p : List Sp) : List Sp → List Sp
  | [] => []
  | c :: q => (p.map fun b => ((b.1 - c.1, b.2 - c.2) : Sp)).filter fun a => decide (∀ d ∈ c :: q, addS d a ∈ p)
theorem mem_shrinkL {p q : List Sp} (hq : q ≠ []) {x : Sp} : x ∈ shrinkL p q ↔ ∀ d ∈ q, addS d x ∈ p := by
  match q, hq with
  | c :: q, _ =>
    unfold shrinkL
    rw [List.mem_filter, decide_eq_true_eq]
    constructor
    · exact fun h => h.2
    · intro h
      refine ⟨List.mem_map.2 ⟨_, h c (List.mem_cons_self ..), ?_⟩, h⟩
      unfold addS; apply sp_ext <;> simp only [] <;> omega
theorem sorted_shrinkL {p : List Sp} (hp : Sorted p) (q : List Sp) : Sorted (shrinkL p q) := by
  match q with
  | [] => exact List.Pairwise.nil
  | c :: q => exact sorted_filter (List.Pairwise.map _ (fun a b h => by unfold Lt at *; simp only []; omega) hp) _
theorem length_shrinkL_le (p q : List Sp) : (shrinkL p q).length ≤ p.length := by
  match q with
  | [] => exact Nat.zero_le _
  | c :: q => exact Nat.le_trans (List.length_filter_le _ _) (by rw [List.length_map]; exact Nat.le_refl _)

def Sub (a b : List Sp) : Prop := ∀ x ∈ a, x ∈ b
theorem sub_refl (a : List Sp) : Sub a a := fun _ h => h
theorem sub_trans {a b c : List Sp} (h : Sub a b) (k : Sub b c) : Sub a c := fun x hx => k x (h x hx)
theorem sub_both {a b : List Sp} (ha : Sorted a) (hb : Sorted b) (h : Sub a b) (k : Sub b a) : a = b := sorted_ext ha hb fun x => ⟨h x, k x⟩
/-- growing and shrinking belong together -/
theorem adjoint {a p q : List Sp} (hq : q ≠ []) : Sub (sumL a q) p ↔ Sub a (shrinkL p q) := by
  constructor
  · intro h x hx
    rw [mem_shrinkL hq]
    intro d hd
    exact h _ (mem_sumL.2 ⟨x, d, hx, hd, addS_comm d x⟩)
  · intro h x hx
    obtain ⟨y, d, hy, hd, rfl⟩ := mem_sumL.1 hx
    have := (mem_shrinkL hq).1 (h y hy) d hd
    rwa [addS_comm] at this
theorem sum_mono {a b q : List Sp} (h : Sub a b) : Sub (sumL a q) (sumL b q) := fun x hx => by
  obtain ⟨y, d, hy, hd, rfl⟩ := mem_sumL.1 hx
  exact mem_sumL.2 ⟨y, d, h y hy, hd, rfl⟩
theorem shrink_mono {p r q : List Sp} (hq : q ≠ []) (h : Sub p r) : Sub (shrinkL p q) (shrinkL r q) := fun x hx => by
  rw [mem_shrinkL hq] at hx ⊢
  exact fun d hd => h _ (hx d hd)
/-- what grows and shrinks has the picture -/
theorem sub_closed {p q : List Sp} (hq : q ≠ []) : Sub p (shrinkL (sumL p q) q) := (adjoint hq).1 (sub_refl _)
/-- what shrinks and grows is within the picture -/
theorem opened_sub {p q : List Sp} (hq : q ≠ []) : Sub (sumL (shrinkL p q) q) p := (adjoint hq).2 (sub_refl _)
theorem sum_shrink_sum {p q : List Sp} (hq : q ≠ []) : sumL (shrinkL (sumL p q) q) q = sumL p q :=
  sub_both (sorted_sumL _ _) (sorted_sumL _ _) (opened_sub hq) (sum_mono (sub_closed hq))
theorem shrink_sum_shrink {p q : List Sp} (hp : Sorted p) (hq : q ≠ []) : shrinkL (sumL (shrinkL p q) q) q = shrinkL p q :=
  sub_both (sorted_shrinkL (sorted_sumL _ _) _) (sorted_shrinkL hp _) (shrink_mono hq (opened_sub hq)) (sub_closed hq)
/-- grown and shrunk again it is the same -/
theorem closed_twice {p q : List Sp} (hq : q ≠ []) : shrinkL (sumL (shrinkL (sumL p q) q) q) q = shrinkL (sumL p q) q := by rw [sum_shrink_sum hq]
/-- shrunk and grown again it is the same -/
theorem opened_twice {p q : List Sp} (hp : Sorted p) (hq : q ≠ []) : sumL (shrinkL (sumL (shrinkL p q) q) q) q = sumL (shrinkL p q) q := by rw [shrink_sum_shrink hp hq]
/-- what fits is within, moved -/
theorem fits {p q : List Sp} (hq : q ≠ []) {a : Sp} : a ∈ shrinkL p q ↔ Sub (moved q a) p := by
  rw [mem_shrinkL hq]
  unfold moved Sub
  constructor
  · intro h x hx
    obtain ⟨d, hd, rfl⟩ := List.mem_map.1 hx
    exact h d hd
  · intro h d hd
    exact h _ (List.mem_map.2 ⟨d, hd, rfl⟩)
/-- shrunk by one spot it is moved back -/
theorem shrink_one (p : List Sp) (c : Sp) : shrinkL p [c] = moved p (-c.1, -c.2) := by
  have e : (p.map fun b => ((b.1 - c.1, b.2 - c.2) : Sp)) = moved p (-c.1, -c.2) := by
    unfold moved
    exact List.map_congr_left fun b _ => by apply sp_ext <;> simp only [] <;> omega
  show ((p.map fun b => ((b.1 - c.1, b.2 - c.2) : Sp)).filter fun a => decide (∀ d ∈ [c], addS d a ∈ p)) = _
  rw [e]
  refine List.filter_eq_self.2 fun a ha => ?_
  rw [decide_eq_true_eq]
  unfold moved at ha
  obtain ⟨b, hb, rfl⟩ := List.mem_map.1 ha
  intro d hd
  rw [List.mem_singleton] at hd
  subst hd
  have : addS d (b.1 + (-d.1, -d.2).1, b.2 + (-d.1, -d.2).2) = b := by unfold addS; apply sp_ext <;> simp only [] <;> omega
  rw [this]; exact hb
end Go.Proofs.Ytiifklgfdhhfoaa
