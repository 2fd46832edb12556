/-
  Plain facts: all spots of a box that a rule allows, row by row; those at which one list fits into another one are its shrinking. No program is named. No conditions but those that stand in each theorem.
-/
import Derived.Test.YtiifklgfdhhfoaaShrinks
namespace Go.Proofs.Ytiifklgfdhhfoaa

/-- of a row from x on, the first n that the rule allows -/
def rowB (f : Sp → Bool) (x y : Int) (n : Nat) : List Sp := ((List.range n).map fun k : Nat => ((x + (k : Int), y) : Sp)).filter f
/-- the first m rows from y on, each of n -/
def rowsB (f : Sp → Bool) (x y : Int) (n m : Nat) : List Sp := (List.range m).flatMap fun j : Nat => rowB f x (y + (j : Int)) n
theorem rowB_zero (f : Sp → Bool) (x y : Int) : rowB f x y 0 = [] := rfl
theorem rowsB_zero (f : Sp → Bool) (x y : Int) (n : Nat) : rowsB f x y n 0 = [] := rfl
theorem rowB_succ (f : Sp → Bool) (x y : Int) (n : Nat) : rowB f x y (n + 1) = rowB f x y n ++ (if f (x + (n : Int), y) then [(x + (n : Int), y)] else []) := by
  unfold rowB
  rw [List.range_succ, List.map_append, List.filter_append]
  congr 1
  simp only [List.map_cons, List.map_nil, List.filter_cons, List.filter_nil]
theorem rowsB_succ (f : Sp → Bool) (x y : Int) (n m : Nat) : rowsB f x y n (m + 1) = rowsB f x y n m ++ rowB f x (y + (m : Int)) n := by
  unfold rowsB
  rw [List.range_succ, List.flatMap_append]; simp
theorem mem_rowB {f : Sp → Bool} {x y : Int} {n : Nat} {a : Sp} : a ∈ rowB f x y n ↔ a.2 = y ∧ x ≤ a.1 ∧ a.1 < x + (n : Int) ∧ f a = true := by
  unfold rowB
  rw [List.mem_filter, List.mem_map]
  constructor
  · rintro ⟨⟨k, hk, rfl⟩, hf⟩
    rw [List.mem_range] at hk
    exact ⟨rfl, by simp only []; omega, by simp only []; omega, hf⟩
  · rintro ⟨h1, h2, h3, hf⟩
    refine ⟨⟨(a.1 - x).toNat, by rw [List.mem_range]; omega, ?_⟩, hf⟩
    apply sp_ext <;> simp only [] <;> omega
theorem mem_rowsB {f : Sp → Bool} {x y : Int} {n m : Nat} {a : Sp} : a ∈ rowsB f x y n m ↔ y ≤ a.2 ∧ a.2 < y + (m : Int) ∧ x ≤ a.1 ∧ a.1 < x + (n : Int) ∧ f a = true := by
  unfold rowsB
  rw [List.mem_flatMap]
  constructor
  · rintro ⟨j, hj, ha⟩
    rw [List.mem_range] at hj
    obtain ⟨h1, h2, h3, h4⟩ := mem_rowB.1 ha
    exact ⟨by omega, by omega, h2, h3, h4⟩
  · rintro ⟨h1, h2, h3, h4, hf⟩
    exact ⟨(a.2 - y).toNat, by rw [List.mem_range]; omega, mem_rowB.2 ⟨by omega, h3, h4, hf⟩⟩
theorem length_rowB (f : Sp → Bool) (x y : Int) (n : Nat) : (rowB f x y n).length ≤ n := by
  unfold rowB
  refine Nat.le_trans (List.length_filter_le _ _) ?_
  rw [List.length_map, List.length_range]; exact Nat.le_refl _
theorem length_rowsB (f : Sp → Bool) (x y : Int) (n : Nat) : ∀ m, (rowsB f x y n m).length ≤ m * n
  | 0 => by rw [rowsB_zero]; simp
  | m + 1 => by
    rw [rowsB_succ, List.length_append, Nat.succ_mul]
    have := length_rowsB f x y n m
    have := length_rowB f x (y + (m : Int)) n
    omega
theorem sorted_append {p q : List Sp} (hp : Sorted p) (hq : Sorted q) (h : ∀ a ∈ p, ∀ b ∈ q, Lt a b) : Sorted (p ++ q) := List.pairwise_append.2 ⟨hp, hq, h⟩
theorem sorted_rowB (f : Sp → Bool) (x y : Int) : ∀ n, Sorted (rowB f x y n)
  | 0 => List.Pairwise.nil
  | n + 1 => by
    rw [rowB_succ]
    refine sorted_append (sorted_rowB f x y n) ?_ ?_
    · split
      · exact List.pairwise_singleton _ _
      · exact List.Pairwise.nil
    · intro a ha b hb
      obtain ⟨h1, h2, h3, _⟩ := mem_rowB.1 ha
      split at hb
      · rw [List.mem_singleton] at hb; subst hb
        unfold Lt; simp only []; omega
      · cases hb
theorem sorted_rowsB (f : Sp → Bool) (x y : Int) (n : Nat) : ∀ m, Sorted (rowsB f x y n m)
  | 0 => List.Pairwise.nil
  | m + 1 => by
    rw [rowsB_succ]
    refine sorted_append (sorted_rowsB f x y n m) (sorted_rowB _ _ _ _) ?_
    intro a ha b hb
    obtain ⟨_, h1, _⟩ := mem_rowsB.1 ha
    obtain ⟨h2, _⟩ := mem_rowB.1 hb
    unfold Lt; omega
/-- how many numbers from lo to hi there are -/
def span (lo hi : Int) : Nat := (hi - lo + 1).toNat
/-- all spots between two, row by row, that the rule allows -/
def betw (f : Sp → Bool) (lo hi : Sp) : List Sp := rowsB f lo.1 lo.2 (span lo.1 hi.1) (span lo.2 hi.2)
theorem mem_betw {f : Sp → Bool} {lo hi a : Sp} : a ∈ betw f lo hi ↔ lo.1 ≤ a.1 ∧ a.1 ≤ hi.1 ∧ lo.2 ≤ a.2 ∧ a.2 ≤ hi.2 ∧ f a = true := by
  unfold betw span
  rw [mem_rowsB]
  constructor
  · rintro ⟨h1, h2, h3, h4, hf⟩; exact ⟨by omega, by omega, by omega, by omega, hf⟩
  · rintro ⟨h1, h2, h3, h4, hf⟩; exact ⟨by omega, by omega, by omega, by omega, hf⟩
theorem sorted_betw (f : Sp → Bool) (lo hi : Sp) : Sorted (betw f lo hi) := sorted_rowsB _ _ _ _ _

/-- whether q, moved by a, is within p -/
def fitAt (p q : List Sp) (a : Sp) : Bool := decide (∀ d ∈ q, addS a d ∈ p)
/-- the differences of both corners -/
def fitLo (p q : List Sp) : Sp := ((boxL p).1.1 - (boxL q).1.1, (boxL p).1.2 - (boxL q).1.2)
def fitHi (p q : List Sp) : Sp := ((boxL p).2.1 - (boxL q).2.1, (boxL p).2.2 - (boxL q).2.2)
theorem betw_shrink {p q : List Sp} (hp : Sorted p) (p0 : p ≠ []) (q0 : q ≠ []) : betw (fitAt p q) (fitLo p q) (fitHi p q) = shrinkL p q := by
  refine sorted_ext (sorted_betw _ _ _) (sorted_shrinkL hp q) fun x => ?_
  rw [mem_betw, mem_shrinkL q0]
  unfold fitAt
  rw [decide_eq_true_eq]
  constructor
  · rintro ⟨_, _, _, _, h⟩ d hd
    rw [addS_comm]; exact h d hd
  · intro h
    have bp := isBox_boxL p0
    have bq := isBox_boxL q0
    have hh : ∀ d ∈ q, addS x d ∈ p := fun d hd => by rw [addS_comm]; exact h d hd
    obtain ⟨a1, ha1, e1⟩ := bq.lx
    obtain ⟨a2, ha2, e2⟩ := bq.ly
    obtain ⟨a3, ha3, e3⟩ := bq.hx
    obtain ⟨a4, ha4, e4⟩ := bq.hy
    have k1 := bp.all _ (hh _ ha1)
    have k2 := bp.all _ (hh _ ha2)
    have k3 := bp.all _ (hh _ ha3)
    have k4 := bp.all _ (hh _ ha4)
    unfold addS at k1 k2 k3 k4
    simp only at k1 k2 k3 k4
    unfold fitLo fitHi
    exact ⟨by simp only []; omega, by simp only []; omega, by simp only []; omega, by simp only []; omega, hh⟩
theorem boxL_in {p : List Sp} {n : Int} (h : p ≠ []) (hn : ∀ a ∈ p, -n ≤ a.1 ∧ a.1 ≤ n ∧ -n ≤ a.2 ∧ a.2 ≤ n) :
    (-n ≤ (boxL p).1.1 ∧ (boxL p).1.1 ≤ n ∧ -n ≤ (boxL p).1.2 ∧ (boxL p).1.2 ≤ n) ∧ (-n ≤ (boxL p).2.1 ∧ (boxL p).2.1 ≤ n ∧ -n ≤ (boxL p).2.2 ∧ (boxL p).2.2 ≤ n) := by
  have bp := isBox_boxL h
  obtain ⟨a1, ha1, e1⟩ := bp.lx
  obtain ⟨a2, ha2, e2⟩ := bp.ly
  obtain ⟨a3, ha3, e3⟩ := bp.hx
  obtain ⟨a4, ha4, e4⟩ := bp.hy
  have := hn _ ha1
  have := hn _ ha2
  have := hn _ ha3
  have := hn _ ha4
  omega
theorem rows_next {f : Sp → Bool} {x y y' : Int} {n : Nat} (h : y ≤ y') : rowsB f x y n (y' - y).toNat ++ rowB f x y' n = rowsB f x y n (y' + 1 - y).toNat := by
  have e : (y' + 1 - y).toNat = (y' - y).toNat + 1 := by omega
  have e2 : y + ((y' - y).toNat : Int) = y' := by omega
  rw [e, rowsB_succ, e2]
theorem row_yes {f : Sp → Bool} {x y x' : Int} (h : x ≤ x') (hf : f (x', y) = true) : rowB f x y (x' - x).toNat ++ [(x', y)] = rowB f x y (x' + 1 - x).toNat := by
  have e : (x' + 1 - x).toNat = (x' - x).toNat + 1 := by omega
  have e2 : x + ((x' - x).toNat : Int) = x' := by omega
  rw [e, rowB_succ, e2, hf, if_pos rfl]
theorem row_no {f : Sp → Bool} {x y x' : Int} (h : x ≤ x') (hf : f (x', y) = false) : rowB f x y (x' - x).toNat = rowB f x y (x' + 1 - x).toNat := by
  have e : (x' + 1 - x).toNat = (x' - x).toNat + 1 := by omega
  have e2 : x + ((x' - x).toNat : Int) = x' := by omega
  rw [e, rowB_succ, e2, hf, if_neg (by simp), List.append_nil]
theorem span_end {lo hi y : Int} (h1 : hi < y) (h2 : y ≤ lo ∨ y ≤ hi + 1) (h3 : lo ≤ y) : (y - lo).toNat = span lo hi := by unfold span; omega
theorem span_le {lo hi : Int} (h1 : -100 ≤ lo) (h2 : hi ≤ 100) : span lo hi ≤ 201 := by unfold span; omega
theorem length_part (f : Sp → Bool) (x y y' x' : Int) (n : Nat) (hn : n ≤ 201) (h1 : (y' - y).toNat ≤ 201) (h2 : (x' - x).toNat ≤ 201) : (rowsB f x y n (y' - y).toNat ++ rowB f x y' (x' - x).toNat).length ≤ 1000000 := by
  have a := length_rowsB f x y n (y' - y).toNat
  have b := length_rowB f x y' (x' - x).toNat
  have c := Nat.mul_le_mul h1 hn
  rw [List.length_append]
  omega

def NearS (a : Sp) : Prop := -200 ≤ a.1 ∧ a.1 ≤ 200 ∧ -200 ≤ a.2 ∧ a.2 ≤ 200
def inP (ps : List Sp) (a : Sp) : Bool := decide (a ∈ ps)
/-- all of the first k fit -/
def FitUpto (ps qs : List Sp) (a : Sp) (k : Nat) : Prop := ∀ j d, j < k → qs[j]? = some d → addS a d ∈ ps
theorem FitUpto.next {ps qs : List Sp} {a d : Sp} {k : Nat} (h : FitUpto ps qs a k) (hd : qs[k]? = some d) (hm : addS a d ∈ ps) : FitUpto ps qs a (k + 1) := fun j x hj hx => by
  by_cases e : j = k
  · subst e; rw [hd] at hx; cases hx; exact hm
  · exact h j x (by omega) hx
theorem fitAt_yes {ps qs : List Sp} {a : Sp} (h : FitUpto ps qs a qs.length) : fitAt ps qs a = true := decide_eq_true fun d hd => by
  obtain ⟨j, hj⟩ := List.mem_iff_getElem?.1 hd
  exact h j d (List.getElem?_eq_some_iff.1 hj).1 hj
theorem fitAt_no {ps qs : List Sp} {a d : Sp} {k : Nat} (hd : qs[k]? = some d) (hm : ¬ addS a d ∈ ps) : fitAt ps qs a = false := decide_eq_false fun h => hm (h d (List.mem_of_getElem? hd))
end Go.Proofs.Ytiifklgfdhhfoaa
