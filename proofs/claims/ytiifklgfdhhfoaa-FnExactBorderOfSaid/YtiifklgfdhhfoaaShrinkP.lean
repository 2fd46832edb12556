/- What ShrunkBy, GrownShrunk, ShrunkGrown and FitsAt answer, as lists of pairs of integers. No program is named. No conditions but those that stand in each theorem. -/
import Derived.Test.YtiifklgfdhhfoaaShrinks
import Derived.Test.YtiifklgfdhhfoaaAns
namespace Go.Proofs.Ytiifklgfdhhfoaa

def nonE (q : List Sp) : Bool := !q.isEmpty
theorem nonE_yes {q : List Sp} : nonE q = true ↔ q ≠ [] := by unfold nonE; cases q <;> simp
theorem nonE_no {q : List Sp} : nonE q = false ↔ q = [] := by unfold nonE; cases q <;> simp
def shrinkOk (p q : List Sp) : Bool := picB p && (picB q && (nonE q && picB (shrinkL p q)))
def shrinkR (p q : List Sp) : List Sp := if shrinkOk p q then shrinkL p q else []
theorem shrink_no1 {p q : List Sp} (h : picB p = false) : shrinkOk p q = false ∧ shrinkR p q = [] := by
  have : shrinkOk p q = false := by unfold shrinkOk; simp [h]
  exact ⟨this, by unfold shrinkR; simp [this]⟩
theorem shrink_no2 {p q : List Sp} (h : picB q = false) : shrinkOk p q = false ∧ shrinkR p q = [] := by
  have : shrinkOk p q = false := by unfold shrinkOk; simp [h]
  exact ⟨this, by unfold shrinkR; simp [this]⟩
theorem shrink_no3 {p q : List Sp} (h : q = []) : shrinkOk p q = false ∧ shrinkR p q = [] := by
  have : shrinkOk p q = false := by unfold shrinkOk; simp [nonE_no.2 h]
  exact ⟨this, by unfold shrinkR; simp [this]⟩
theorem shrink_no4 {p q : List Sp} (h : picB (shrinkL p q) = false) : shrinkOk p q = false ∧ shrinkR p q = [] := by
  have : shrinkOk p q = false := by unfold shrinkOk; simp [h]
  exact ⟨this, by unfold shrinkR; simp [this]⟩
theorem shrink_yes {p q : List Sp} (h1 : picB p = true) (h2 : picB q = true) (h3 : q ≠ []) (h4 : picB (shrinkL p q) = true) : shrinkOk p q = true ∧ shrinkR p q = shrinkL p q := by
  have : shrinkOk p q = true := by unfold shrinkOk; simp [h1, h2, h4, nonE_yes.2 h3]
  exact ⟨this, by unfold shrinkR; simp [this]⟩
structure Shrunk (p q : List Sp) : Prop where
  pp : picB p = true
  pq : picB q = true
  q0 : q ≠ []
  ps : picB (shrinkL p q) = true
  eq : shrinkR p q = shrinkL p q
theorem shrink_is {p q : List Sp} (h : shrinkOk p q = true) : Shrunk p q := by
  have k := h
  unfold shrinkOk at k
  simp only [Bool.and_eq_true] at k
  exact ⟨k.1, k.2.1, nonE_yes.1 k.2.2.1, k.2.2.2, by unfold shrinkR; simp [h]⟩
theorem shrinkR_no {p q : List Sp} (h : shrinkOk p q = false) : shrinkR p q = [] := by unfold shrinkR; simp [h]
theorem shrinkR_le (p q : List Sp) : (shrinkR p q).length ≤ 60 := by
  rcases h : shrinkOk p q with _ | _
  · rw [shrinkR_no h]; exact Nat.zero_le _
  · rw [(shrink_is h).eq]; exact (picB_pic (shrink_is h).ps).1
structure Summed (p q : List Sp) : Prop where
  pp : picB p = true
  pq : picB q = true
  ps : picB (sumL p q) = true
  eq : sumR p q = sumL p q
theorem sum_is {p q : List Sp} (h : sumOk p q = true) : Summed p q := by
  have k := h
  unfold sumOk at k
  simp only [Bool.and_eq_true] at k
  exact ⟨k.1.1, k.1.2, k.2, by unfold sumR; simp [h]⟩
theorem sumR_no' {p q : List Sp} (h : sumOk p q = false) : sumR p q = [] := by unfold sumR; simp [h]
theorem sumR_le (p q : List Sp) : (sumR p q).length ≤ 60 := by
  rcases h : sumOk p q with _ | _
  · rw [sumR_no' h]; exact Nat.zero_le _
  · rw [(sum_is h).eq]; exact (picB_pic (sum_is h).ps).1

def grownShrunkOk (p q : List Sp) : Bool := sumOk p q && shrinkOk (sumR p q) q
def grownShrunkR (p q : List Sp) : List Sp := if sumOk p q then shrinkR (sumR p q) q else []
def shrunkGrownOk (p q : List Sp) : Bool := shrinkOk p q && sumOk (shrinkR p q) q
def shrunkGrownR (p q : List Sp) : List Sp := if shrinkOk p q then sumR (shrinkR p q) q else []
theorem grownShrunk_no {p q : List Sp} (h : sumOk p q = false) : grownShrunkOk p q = false ∧ grownShrunkR p q = [] := by unfold grownShrunkOk grownShrunkR; simp [h]
theorem grownShrunk_yes {p q : List Sp} (h : sumOk p q = true) : grownShrunkOk p q = shrinkOk (sumR p q) q ∧ grownShrunkR p q = shrinkR (sumR p q) q := by unfold grownShrunkOk grownShrunkR; simp [h]
theorem shrunkGrown_no {p q : List Sp} (h : shrinkOk p q = false) : shrunkGrownOk p q = false ∧ shrunkGrownR p q = [] := by unfold shrunkGrownOk shrunkGrownR; simp [h]
theorem shrunkGrown_yes {p q : List Sp} (h : shrinkOk p q = true) : shrunkGrownOk p q = sumOk (shrinkR p q) q ∧ shrunkGrownR p q = sumR (shrinkR p q) q := by unfold shrunkGrownOk shrunkGrownR; simp [h]
theorem grownShrunkR_le (p q : List Sp) : (grownShrunkR p q).length ≤ 60 := by
  rcases h : sumOk p q with _ | _
  · rw [(grownShrunk_no h).2]; exact Nat.zero_le _
  · rw [(grownShrunk_yes h).2]; exact shrinkR_le _ _
theorem shrunkGrownR_le (p q : List Sp) : (shrunkGrownR p q).length ≤ 60 := by
  rcases h : shrinkOk p q with _ | _
  · rw [(shrunkGrown_no h).2]; exact Nat.zero_le _
  · rw [(shrunkGrown_yes h).2]; exact sumR_le _ _
def fitsB (p q : List Sp) (a : Sp) : Bool := shrinkOk p q && decide (a ∈ shrinkR p q)
theorem fits_no {p q : List Sp} {a : Sp} (h : shrinkOk p q = false) : fitsB p q a = false := by unfold fitsB; simp [h]
theorem fits_yes {p q : List Sp} {a : Sp} (h : shrinkOk p q = true) : fitsB p q a = decide (a ∈ shrinkR p q) := by unfold fitsB; simp [h]

/-- what grows and shrinks has the picture -/
theorem grownShrunk_has {p q : List Sp} (h : grownShrunkOk p q = true) : Sub p (grownShrunkR p q) := by
  unfold grownShrunkOk at h
  simp only [Bool.and_eq_true] at h
  rw [(grownShrunk_yes h.1).2, (shrink_is h.2).eq, (sum_is h.1).eq]
  exact sub_closed (shrink_is h.2).q0
/-- grown and shrunk again it is the same -/
theorem grownShrunk_again {p q : List Sp} (h : grownShrunkOk p q = true) : grownShrunkOk (grownShrunkR p q) q = true ∧ grownShrunkR (grownShrunkR p q) q = grownShrunkR p q := by
  unfold grownShrunkOk at h
  simp only [Bool.and_eq_true] at h
  have hs := shrink_is h.2
  have hm := sum_is h.1
  have e : grownShrunkR p q = shrinkL (sumL p q) q := by rw [(grownShrunk_yes h.1).2, hs.eq, hm.eq]
  have hpic : picB (grownShrunkR p q) = true := by rw [e, ← hm.eq]; exact hs.ps
  have eS : sumL (grownShrunkR p q) q = sumL p q := by rw [e]; exact sum_shrink_sum hs.q0
  have hok : sumOk (grownShrunkR p q) q = true := (sum_yes hpic hm.pq (by rw [eS]; exact hm.ps)).1
  have eR : sumR (grownShrunkR p q) q = sumR p q := by rw [(sum_is hok).eq, eS, hm.eq]
  refine ⟨?_, ?_⟩
  · rw [(grownShrunk_yes hok).1, eR]; exact h.2
  · rw [(grownShrunk_yes hok).2, eR, (grownShrunk_yes h.1).2]
/-- what shrinks and grows is within the picture -/
theorem shrunkGrown_within {p q : List Sp} (h : shrunkGrownOk p q = true) : Sub (shrunkGrownR p q) p := by
  unfold shrunkGrownOk at h
  simp only [Bool.and_eq_true] at h
  rw [(shrunkGrown_yes h.1).2, (sum_is h.2).eq, (shrink_is h.1).eq]
  exact opened_sub (shrink_is h.1).q0
/-- shrunk and grown again it is the same -/
theorem shrunkGrown_again {p q : List Sp} (h : shrunkGrownOk p q = true) : shrunkGrownOk (shrunkGrownR p q) q = true ∧ shrunkGrownR (shrunkGrownR p q) q = shrunkGrownR p q := by
  unfold shrunkGrownOk at h
  simp only [Bool.and_eq_true] at h
  have hs := shrink_is h.1
  have hm := sum_is h.2
  have e : shrunkGrownR p q = sumL (shrinkL p q) q := by rw [(shrunkGrown_yes h.1).2, hm.eq, hs.eq]
  have hpic : picB (shrunkGrownR p q) = true := by rw [e, ← hs.eq]; exact hm.ps
  have eS : shrinkL (shrunkGrownR p q) q = shrinkL p q := by rw [e]; exact shrink_sum_shrink (picB_pic hs.pp).2.2 hs.q0
  have hok : shrinkOk (shrunkGrownR p q) q = true := (shrink_yes hpic hs.pq hs.q0 (by rw [eS]; exact hs.ps)).1
  have eR : shrinkR (shrunkGrownR p q) q = shrinkR p q := by rw [(shrink_is hok).eq, eS, hs.eq]
  refine ⟨?_, ?_⟩
  · rw [(shrunkGrown_yes hok).1, eR]; exact h.2
  · rw [(shrunkGrown_yes hok).2, eR, (shrunkGrown_yes h.1).2]
theorem sum_in_shrunk {a p q : List Sp} (h : shrinkOk p q = true) (k : sumOk a q = true) : Sub (sumR a q) p ↔ Sub a (shrinkR p q) := by
  rw [(shrink_is h).eq, (sum_is k).eq]
  exact adjoint (shrink_is h).q0
theorem shrunk_in {p u q : List Sp} (h : shrinkOk p q = true) (k : shrinkOk u q = true) (hs : Sub p u) : Sub (shrinkR p q) (shrinkR u q) := by
  rw [(shrink_is h).eq, (shrink_is k).eq]
  exact shrink_mono (shrink_is h).q0 hs
/-- what fits is within, moved -/
theorem fits_moved {p q : List Sp} {a : Sp} (h : shrinkOk p q = true) : a ∈ shrinkR p q ↔ Sub (moved q a) p := by
  rw [(shrink_is h).eq]
  exact fits (shrink_is h).q0

/-- the spots that fit among those that the first k allow -/
def shUpto (ps qs : List Sp) (c : Sp) (k : Nat) : List Sp := ((ps.take k).map fun b => ((b.1 - c.1, b.2 - c.2) : Sp)).filter fun a => decide (∀ d ∈ qs, addS d a ∈ ps)
theorem shUpto_zero (ps qs : List Sp) (c : Sp) : shUpto ps qs c 0 = [] := rfl
theorem shUpto_succ {ps qs : List Sp} {c : Sp} {k : Nat} {x y : Int} (h : ps[k]? = some (x, y)) :
    shUpto ps qs c (k + 1) = shUpto ps qs c k ++ (if (∀ d ∈ qs, addS d (x - c.1, y - c.2) ∈ ps) then [(x - c.1, y - c.2)] else []) := by
  unfold shUpto
  rw [List.take_add_one, h, List.map_append, List.filter_append]
  congr 1
  simp only [Option.toList_some, List.map_cons, List.map_nil]
  by_cases hm : ∀ d ∈ qs, addS d (x - c.1, y - c.2) ∈ ps
  · rw [if_pos hm, List.filter_cons_of_pos (by simpa using hm)]; rfl
  · rw [if_neg hm, List.filter_cons_of_neg (by simpa using hm)]; rfl
theorem shUpto_all {ps qs : List Sp} {c : Sp} (h : qs[0]? = some c) : shUpto ps qs c ps.length = shrinkL ps qs := by
  unfold shUpto
  rw [List.take_length]
  match qs, h with
  | d :: q, h => injection h with h; subst h; rfl
theorem length_shUpto_le (ps qs : List Sp) (c : Sp) (k : Nat) : (shUpto ps qs c k).length ≤ ps.length := by
  unfold shUpto
  refine Nat.le_trans (List.length_filter_le _ _) ?_
  rw [List.length_map]; exact List.length_take_le' _ _
/-- whether the first j fit -/
def allUpto (ps qs : List Sp) (a : Sp) (j : Nat) : Bool := decide (∀ d ∈ qs.take j, addS d a ∈ ps)
theorem allUpto_zero (ps qs : List Sp) (a : Sp) : allUpto ps qs a 0 = true := by unfold allUpto; simp
theorem allUpto_succ {ps qs : List Sp} {a : Sp} {j : Nat} {x y : Int} (h : qs[j]? = some (x, y)) : allUpto ps qs a (j + 1) = (allUpto ps qs a j && decide ((x + a.1, y + a.2) ∈ ps)) := by
  unfold allUpto
  rw [List.take_add_one, h, Bool.eq_iff_iff, Bool.and_eq_true, decide_eq_true_eq, decide_eq_true_eq, decide_eq_true_eq]
  constructor
  · intro hh
    exact ⟨fun d hd => hh d (List.mem_append_left _ hd), hh (x, y) (List.mem_append_right _ (by simp))⟩
  · rintro ⟨h1, h2⟩ d hd
    rcases List.mem_append.1 hd with hd | hd
    · exact h1 d hd
    · simp at hd; subst hd; exact h2
theorem allUpto_all (ps qs : List Sp) (a : Sp) : allUpto ps qs a qs.length = decide (∀ d ∈ qs, addS d a ∈ ps) := by unfold allUpto; rw [List.take_length]
theorem allUpto_succ_no {ps qs : List Sp} {a : Sp} {j : Nat} (hj : j < qs.length) (h : allUpto ps qs a j = false) : allUpto ps qs a (j + 1) = false := by
  obtain ⟨⟨x, y⟩, e⟩ : ∃ b, qs[j]? = some b := ⟨_, List.getElem?_eq_getElem hj⟩
  rw [allUpto_succ e, h]; rfl
end Go.Proofs.Ytiifklgfdhhfoaa
