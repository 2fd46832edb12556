/-
  Plain facts on filled rows and columns. No program is named. No conditions but those that stand in each theorem.
-/
import Derived.Test.YtebgcmnajkophaaPlain
namespace Go.Proofs.Ytebgcmnajkophaa

/-! ### exchanged -/
def overS (a : Sp) : Sp := (a.2, a.1)
def overL (p : List Sp) : List Sp := puts [] (p.map overS)
theorem over_over (a : Sp) : overS (overS a) = a := rfl
theorem mem_overL {p : List Sp} {x : Sp} : x ∈ overL p ↔ overS x ∈ p := by
  unfold overL
  rw [mem_puts, List.mem_map]
  constructor
  · rintro (h | ⟨a, ha, rfl⟩)
    · cases h
    · exact ha
  · exact fun h => .inr ⟨overS x, h, rfl⟩
theorem sorted_overL (p : List Sp) : Sorted (overL p) := sorted_puts List.Pairwise.nil
theorem overL_overL {p : List Sp} (hp : Sorted p) : overL (overL p) = p :=
  sorted_ext (sorted_overL _) hp fun x => by rw [mem_overL, mem_overL]; rfl
theorem length_overL_le (p : List Sp) : (overL p).length ≤ p.length := by
  have := length_puts_le (p.map overS) []
  rw [List.length_map, List.length_nil] at this
  unfold overL; omega
theorem length_overL {p : List Sp} (hp : Sorted p) : (overL p).length = p.length := by
  have h1 := length_overL_le p
  have h2 := length_overL_le (overL p)
  rw [overL_overL hp] at h2
  omega
theorem pic_overL {p : List Sp} (hp : picB p = true) : picB (overL p) = true :=
  decide_eq_true ⟨Nat.le_trans (length_overL_le p) (picB_pic hp).1, fun a ha => by
    have := (picB_pic hp).2.1 _ (mem_overL.1 ha)
    unfold InR overS at *
    simp only at this
    omega, sorted_overL p⟩
theorem over_sub {p q : List Sp} (h : Sub p q) : Sub (overL p) (overL q) := fun _ hx => mem_overL.2 (h _ (mem_overL.1 hx))
def overR (p : List Sp) : List Sp := if picB p then overL p else []
theorem overR_yes {p : List Sp} (h : picB p = true) : overR p = overL p := by unfold overR; rw [h]; rfl
theorem overR_no {p : List Sp} (h : picB p = false) : overR p = [] := by unfold overR; rw [h]; rfl
theorem overL_nil : overL [] = [] := rfl

/-! ### rows filled -/
/-- where the spots of a place begin: behind the spot before, if that is in the row -/
def fromAt (p : List Sp) (k : Nat) (a : Sp) : Int := if 0 < k ∧ (p.getD (k - 1) (0, 0)).2 = a.2 then (p.getD (k - 1) (0, 0)).1 + 1 else a.1
def segAt (p : List Sp) (k : Nat) : List Sp := rowB (fun _ => true) (fromAt p k (p.getD k (0, 0))) (p.getD k (0, 0)).2 ((p.getD k (0, 0)).1 + 1 - fromAt p k (p.getD k (0, 0))).toNat
def rowsUpto (p : List Sp) (k : Nat) : List Sp := (List.range k).flatMap (segAt p)
def rowsL (p : List Sp) : List Sp := rowsUpto p p.length
theorem rowsUpto_succ (p : List Sp) (k : Nat) : rowsUpto p (k + 1) = rowsUpto p k ++ segAt p k := by
  unfold rowsUpto
  rw [List.range_succ, List.flatMap_append]; simp
theorem mem_segAt {p : List Sp} {k : Nat} {x : Sp} : x ∈ segAt p k ↔ x.2 = (p.getD k (0, 0)).2 ∧ fromAt p k (p.getD k (0, 0)) ≤ x.1 ∧ x.1 ≤ (p.getD k (0, 0)).1 := by
  unfold segAt
  rw [mem_rowB]
  constructor
  · rintro ⟨h1, h2, h3, _⟩; exact ⟨h1, h2, by omega⟩
  · rintro ⟨h1, h2, h3⟩; exact ⟨h1, h2, by omega, rfl⟩
theorem mem_rowsUpto {p : List Sp} {n : Nat} {x : Sp} : x ∈ rowsUpto p n ↔ ∃ k, k < n ∧ x ∈ segAt p k := by
  unfold rowsUpto
  rw [List.mem_flatMap]
  constructor
  · rintro ⟨k, hk, h⟩; exact ⟨k, List.mem_range.1 hk, h⟩
  · rintro ⟨k, hk, h⟩; exact ⟨k, List.mem_range.2 hk, h⟩
theorem step_lt {p : List Sp} (hs : Sorted p) {i j : Nat} (hij : i < j) (hj : j < p.length) : Lt (p.getD i (0, 0)) (p.getD j (0, 0)) :=
  steps_of_sorted hs hij (getD_some (by omega)) (getD_some hj)
/-- a spot is between two of the list in its row -/
structure Amid (p : List Sp) (x : Sp) : Prop where
  is : ∃ a b : Sp, a ∈ p ∧ b ∈ p ∧ a.2 = x.2 ∧ b.2 = x.2 ∧ a.1 ≤ x.1 ∧ x.1 ≤ b.1
theorem from_le {p : List Sp} (hs : Sorted p) {k : Nat} (hk : k < p.length) : fromAt p k (p.getD k (0, 0)) ≤ (p.getD k (0, 0)).1 := by
  unfold fromAt
  split
  · rename_i h
    have := step_lt hs (i := k - 1) (j := k) (by omega) hk
    unfold Lt at this; omega
  · exact Int.le_refl _
theorem seg_find {p : List Sp} (hs : Sorted p) {x : Sp} {i : Nat} (hi2 : (p.getD i (0, 0)).2 = x.2) (hi1 : (p.getD i (0, 0)).1 ≤ x.1) :
    ∀ j, i ≤ j → j < p.length → (p.getD j (0, 0)).2 = x.2 → x.1 ≤ (p.getD j (0, 0)).1 → ∃ k, k < p.length ∧ x ∈ segAt p k := by
  intro j
  induction j with
  | zero =>
    intro h1 h2 h3 h4
    obtain rfl : i = 0 := by omega
    exact ⟨0, h2, mem_segAt.2 ⟨h3.symm, by have := from_le hs h2; omega, h4⟩⟩
  | succ j ih =>
    intro h1 h2 h3 h4
    by_cases e : i = j + 1
    · subst e
      exact ⟨j + 1, h2, mem_segAt.2 ⟨h3.symm, by have := from_le hs h2; omega, h4⟩⟩
    · have k1 := step_lt hs (i := j) (j := j + 1) (by omega) h2
      have k2 : (p.getD i (0, 0)).2 ≤ (p.getD j (0, 0)).2 := by
        by_cases e2 : i = j
        · subst e2; exact Int.le_refl _
        · have := step_lt hs (i := i) (j := j) (by omega) (by omega)
          unfold Lt at this; omega
      have k3 : (p.getD j (0, 0)).2 = x.2 := by unfold Lt at k1; omega
      by_cases h5 : x.1 ≤ (p.getD j (0, 0)).1
      · exact ih (by omega) (by omega) k3 h5
      · refine ⟨j + 1, h2, mem_segAt.2 ⟨h3.symm, ?_, h4⟩⟩
        unfold fromAt
        rw [if_pos ⟨by omega, by rw [Nat.add_sub_cancel, k3, h3]⟩, Nat.add_sub_cancel]
        omega
theorem mem_at {p : List Sp} {a : Sp} (h : a ∈ p) : ∃ i, i < p.length ∧ p.getD i (0, 0) = a := by
  obtain ⟨i, hi⟩ := List.mem_iff_getElem?.1 h
  have hl := (List.getElem?_eq_some_iff.1 hi).1
  refine ⟨i, hl, ?_⟩
  have := getD_some hl
  rw [hi] at this
  exact (Option.some.inj this).symm
theorem mem_rowsL {p : List Sp} (hs : Sorted p) {x : Sp} : x ∈ rowsL p ↔ Amid p x := by
  unfold rowsL
  rw [mem_rowsUpto]
  constructor
  · rintro ⟨k, hk, hx⟩
    obtain ⟨h1, h2, h3⟩ := mem_segAt.1 hx
    refine ⟨?_⟩
    unfold fromAt at h2
    split at h2
    · rename_i h
      exact ⟨_, _, getD_mem (j := k - 1) (by omega), getD_mem hk, by rw [h.2, h1], h1.symm, by omega, h3⟩
    · exact ⟨_, _, getD_mem hk, getD_mem hk, h1.symm, h1.symm, h2, h3⟩
  · rintro ⟨a, b, ha, hb, h1, h2, h3, h4⟩
    obtain ⟨i, hi, rfl⟩ := mem_at ha
    obtain ⟨j, hj, rfl⟩ := mem_at hb
    by_cases hij : i ≤ j
    · exact seg_find hs h1 h3 j hij hj h2 h4
    · have := step_lt hs (i := j) (j := i) (by omega) hi
      unfold Lt at this
      omega
theorem sorted_rowsUpto {p : List Sp} (hs : Sorted p) : ∀ k, k ≤ p.length → Sorted (rowsUpto p k)
  | 0, _ => List.Pairwise.nil
  | k + 1, hk => by
    rw [rowsUpto_succ]
    refine sorted_append (sorted_rowsUpto hs k (by omega)) (sorted_rowB _ _ _ _) fun a ha b hb => ?_
    obtain ⟨i, hi, ha⟩ := mem_rowsUpto.1 ha
    obtain ⟨a1, a2, a3⟩ := mem_segAt.1 ha
    have hb' : b ∈ segAt p k := hb
    obtain ⟨b1, b2, b3⟩ := mem_segAt.1 hb'
    have k1 := step_lt hs (i := k - 1) (j := k) (by omega) (by omega)
    have k2 : Lt (p.getD i (0, 0)) (p.getD (k - 1) (0, 0)) ∨ p.getD i (0, 0) = p.getD (k - 1) (0, 0) := by
      by_cases e : i = k - 1
      · right; rw [e]
      · left; exact step_lt hs (by omega) (by omega)
    unfold fromAt at b2
    split at b2
    · rename_i h
      rcases k2 with k2 | k2
      · unfold Lt at *; omega
      · rw [k2] at a1 a3; unfold Lt at *; omega
    · rename_i h
      have h' : ¬ (p.getD (k - 1) (0, 0)).2 = (p.getD k (0, 0)).2 := fun e => h ⟨by omega, e⟩
      rcases k2 with k2 | k2
      · unfold Lt at *; omega
      · rw [k2] at a1 a3; unfold Lt at *; omega
theorem sorted_rowsL {p : List Sp} (hs : Sorted p) : Sorted (rowsL p) := sorted_rowsUpto hs _ (Nat.le_refl _)
theorem rowsL_has {p : List Sp} (hs : Sorted p) : Sub p (rowsL p) := fun x hx => (mem_rowsL hs).2 ⟨⟨x, x, hx, hx, rfl, rfl, Int.le_refl _, Int.le_refl _⟩⟩
theorem rowsL_nil : rowsL [] = [] := rfl
theorem rowsL_again {p : List Sp} (hs : Sorted p) : rowsL (rowsL p) = rowsL p := by
  refine sub_both (sorted_rowsL (sorted_rowsL hs)) (sorted_rowsL hs) (fun x hx => ?_) (rowsL_has (sorted_rowsL hs))
  obtain ⟨a, b, ha, hb, h1, h2, h3, h4⟩ := ((mem_rowsL (sorted_rowsL hs)).1 hx).is
  obtain ⟨a', _, ka, _, m1, _, m3, _⟩ := ((mem_rowsL hs).1 ha).is
  obtain ⟨_, b', _, kb, _, n2, _, n4⟩ := ((mem_rowsL hs).1 hb).is
  exact (mem_rowsL hs).2 ⟨⟨a', b', ka, kb, by omega, by omega, by omega, by omega⟩⟩
theorem rows_in {p : List Sp} (hp : picB p = true) : ∀ a ∈ rowsL p, InR a := fun x hx => by
  obtain ⟨a, b, ha, hb, h1, h2, h3, h4⟩ := ((mem_rowsL (picB_pic hp).2.2).1 hx).is
  have k1 := (picB_pic hp).2.1 a ha
  have k2 := (picB_pic hp).2.1 b hb
  unfold InR at *; omega
theorem pic_rows {p : List Sp} (hp : picB p = true) : picB (rowsL p) = decide ((rowsL p).length ≤ 60) := by
  rw [Bool.eq_iff_iff, decide_eq_true_eq]
  exact ⟨fun h => (picB_pic h).1, fun h => decide_eq_true ⟨h, rows_in hp, sorted_rowsL (picB_pic hp).2.2⟩⟩
theorem length_segAt {p : List Sp} (hp : picB p = true) {k : Nat} (hk : k < p.length) : (segAt p k).length ≤ 61 := by
  refine Nat.le_trans (length_rowB _ _ _ _) ?_
  have h1 := (picB_pic hp).2.1 _ (getD_mem hk)
  have h2 : -30 ≤ fromAt p k (p.getD k (0, 0)) := by
    unfold fromAt
    split
    · have := (picB_pic hp).2.1 _ (getD_mem (j := k - 1) (by omega : k - 1 < p.length))
      unfold InR at this; omega
    · unfold InR at h1; omega
  unfold InR at h1
  omega
theorem length_rowsUpto {p : List Sp} (hp : picB p = true) : ∀ k, k ≤ p.length → (rowsUpto p k).length ≤ 61 * k
  | 0, _ => Nat.zero_le _
  | k + 1, hk => by
    rw [rowsUpto_succ, List.length_append]
    have := length_rowsUpto hp k (by omega)
    have := length_segAt hp (k := k) (by omega)
    omega
theorem box_rows {p : List Sp} (hs : Sorted p) (h0 : p ≠ []) : boxL (rowsL p) = boxL p := by
  have b := isBox_boxL h0
  have hn : rowsL p ≠ [] := fun e => by
    obtain ⟨x, hx⟩ := List.exists_mem_of_ne_nil _ h0
    have := rowsL_has hs x hx
    rw [e] at this; cases this
  have c : IsBox (rowsL p) (boxL p).1 (boxL p).2 := by
    refine ⟨fun x hx => ?_, ?_, ?_, ?_, ?_⟩
    · obtain ⟨a, a', ha, ha', h1, h2, h3, h4⟩ := ((mem_rowsL hs).1 hx).is
      have k1 := b.all a ha
      have k2 := b.all a' ha'
      omega
    · obtain ⟨a, ha, e⟩ := b.lx; exact ⟨a, rowsL_has hs a ha, e⟩
    · obtain ⟨a, ha, e⟩ := b.ly; exact ⟨a, rowsL_has hs a ha, e⟩
    · obtain ⟨a, ha, e⟩ := b.hx; exact ⟨a, rowsL_has hs a ha, e⟩
    · obtain ⟨a, ha, e⟩ := b.hy; exact ⟨a, rowsL_has hs a ha, e⟩
  have := (isBox_boxL hn).one c
  exact Prod.ext this.1 this.2
def rowsOk (p : List Sp) : Bool := picB p && picB (rowsL p)
def rowsR (p : List Sp) : List Sp := if rowsOk p then rowsL p else []
theorem rowsR_no {p : List Sp} (h : rowsOk p = false) : rowsR p = [] := by unfold rowsR; rw [h]; rfl
theorem rowsR_yes {p : List Sp} (h : rowsOk p = true) : rowsR p = rowsL p := by unfold rowsR; rw [h]; rfl
theorem rows_parts {p : List Sp} (h : rowsOk p = true) : picB p = true ∧ picB (rowsL p) = true := by unfold rowsOk at h; rwa [Bool.and_eq_true] at h
theorem rowsOk_again {p : List Sp} (h : rowsOk p = true) : rowsOk (rowsL p) = true := by
  obtain ⟨h1, h2⟩ := rows_parts h
  unfold rowsOk
  rw [rowsL_again (picB_pic h1).2.2, h2]; rfl

/-! ### columns filled -/
def colsL (p : List Sp) : List Sp := overL (rowsL (overL p))
def colsOk (p : List Sp) : Bool := picB p && rowsOk (overL p)
def colsR (p : List Sp) : List Sp := if colsOk p then colsL p else []
theorem colsR_no {p : List Sp} (h : colsOk p = false) : colsR p = [] := by unfold colsR; rw [h]; rfl
theorem colsR_yes {p : List Sp} (h : colsOk p = true) : colsR p = colsL p := by unfold colsR; rw [h]; rfl
theorem cols_parts {p : List Sp} (h : colsOk p = true) : picB p = true ∧ rowsOk (overL p) = true := by unfold colsOk at h; rwa [Bool.and_eq_true] at h
theorem sorted_colsL (p : List Sp) : Sorted (colsL p) := sorted_overL _
theorem colsL_has {p : List Sp} : Sub p (colsL p) := fun _ hx => mem_overL.2 (rowsL_has (sorted_overL p) _ (mem_overL.2 hx))
theorem colsL_again (p : List Sp) : colsL (colsL p) = colsL p := by
  unfold colsL
  rw [overL_overL (sorted_rowsL (sorted_overL p)), rowsL_again (sorted_overL p)]
theorem pic_colsL {p : List Sp} (h : colsOk p = true) : picB (colsL p) = true := pic_overL (rows_parts (cols_parts h).2).2
theorem colsOk_again {p : List Sp} (h : colsOk p = true) : colsOk (colsL p) = true := by
  have h1 := pic_colsL h
  have h2 := (cols_parts h).2
  unfold colsOk
  rw [h1, Bool.true_and]
  unfold colsL
  rw [overL_overL (sorted_rowsL (sorted_overL p))]
  exact rowsOk_again h2

/-! ### full rows and columns -/
structure FullX (p : List Sp) : Prop where
  is : ∀ a ∈ p, ∀ b ∈ p, a.2 = b.2 → ∀ x, a.1 ≤ x → x ≤ b.1 → (x, a.2) ∈ p
structure FullY (p : List Sp) : Prop where
  is : ∀ a ∈ p, ∀ b ∈ p, a.1 = b.1 → ∀ y, a.2 ≤ y → y ≤ b.2 → (a.1, y) ∈ p
theorem rows_full {p : List Sp} (hs : Sorted p) : rowsL p = p ↔ FullX p := by
  constructor
  · intro h
    refine ⟨fun a ha b hb e x h1 h2 => ?_⟩
    rw [← h]
    exact (mem_rowsL hs).2 ⟨⟨a, b, ha, hb, rfl, e.symm, h1, h2⟩⟩
  · intro h
    refine sub_both (sorted_rowsL hs) hs (fun x hx => ?_) (rowsL_has hs)
    obtain ⟨a, b, ha, hb, h1, h2, h3, h4⟩ := ((mem_rowsL hs).1 hx).is
    have := h.is a ha b hb (by omega) x.1 h3 h4
    rwa [h1] at this
theorem full_over {p : List Sp} : FullX (overL p) ↔ FullY p := by
  constructor
  · intro h
    exact ⟨fun a ha b hb e y h1 h2 => mem_overL.1 (h.is (overS a) (mem_overL.2 ha) (overS b) (mem_overL.2 hb) e y h1 h2)⟩
  · intro h
    exact ⟨fun a ha b hb e x h1 h2 => mem_overL.2 (h.is (overS a) (mem_overL.1 ha) (overS b) (mem_overL.1 hb) e x h1 h2)⟩
theorem full_over' {p : List Sp} : FullY (overL p) ↔ FullX p := by
  constructor
  · intro h
    exact ⟨fun a ha b hb e x h1 h2 => mem_overL.1 (h.is (overS a) (mem_overL.2 ha) (overS b) (mem_overL.2 hb) e x h1 h2)⟩
  · intro h
    exact ⟨fun a ha b hb e y h1 h2 => mem_overL.2 (h.is (overS a) (mem_overL.1 ha) (overS b) (mem_overL.1 hb) e y h1 h2)⟩
theorem cols_full {p : List Sp} (hs : Sorted p) : colsL p = p ↔ FullY p := by
  rw [← full_over, ← rows_full (sorted_overL p)]
  unfold colsL
  constructor
  · intro h
    have := congrArg overL h
    rwa [overL_overL (sorted_rowsL (sorted_overL p))] at this
  · intro h
    rw [h, overL_overL hs]
theorem full_common {p q : List Sp} (h : FullX p) (k : FullX q) : FullX (common p q) :=
  ⟨fun a ha b hb e x h1 h2 => mem_common.2 ⟨h.is a (mem_common.1 ha).1 b (mem_common.1 hb).1 e x h1 h2, k.is a (mem_common.1 ha).2 b (mem_common.1 hb).2 e x h1 h2⟩⟩
theorem full_common' {p q : List Sp} (h : FullY p) (k : FullY q) : FullY (common p q) :=
  ⟨fun a ha b hb e x h1 h2 => mem_common.2 ⟨h.is a (mem_common.1 ha).1 b (mem_common.1 hb).1 e x h1 h2, k.is a (mem_common.1 ha).2 b (mem_common.1 hb).2 e x h1 h2⟩⟩
/-- rows filled are within each list with full rows -/
theorem rows_within {p t : List Sp} (hs : Sorted p) (h : Sub p t) (ht : FullX t) : Sub (rowsL p) t := fun x hx => by
  obtain ⟨a, b, ha, hb, h1, h2, h3, h4⟩ := ((mem_rowsL hs).1 hx).is
  have := ht.is a (h a ha) b (h b hb) (by omega) x.1 h3 h4
  rwa [h1] at this
theorem cols_within {p t : List Sp} (h : Sub p t) (ht : FullY t) : Sub (colsL p) t := fun _ hx =>
  mem_overL.1 (rows_within (sorted_overL p) (over_sub h) (full_over.2 ht) _ (mem_overL.1 hx))

/-! ### both filled -/
def stepOk (p : List Sp) : Bool := rowsOk p && colsOk (rowsL p)
def stepL (p : List Sp) : List Sp := colsL (rowsL p)
theorem step_parts {p : List Sp} (h : stepOk p = true) : rowsOk p = true ∧ colsOk (rowsL p) = true := by unfold stepOk at h; rwa [Bool.and_eq_true] at h
theorem pic_step {p : List Sp} (h : stepOk p = true) : picB (stepL p) = true := pic_colsL (step_parts h).2
theorem step_has {p : List Sp} (hs : Sorted p) : Sub p (stepL p) := fun x hx => colsL_has x (rowsL_has hs x hx)
theorem nodup_leS : ∀ {a b : List Sp}, a.Nodup → (∀ x ∈ a, x ∈ b) → a.length ≤ b.length
  | [], _, _, _ => Nat.zero_le _
  | x :: a, b, ha, h => by
    rw [List.nodup_cons] at ha
    have hx := h x List.mem_cons_self
    have := nodup_leS (a := a) (b := b.erase x) ha.2 fun y hy => (List.mem_erase_of_ne (fun e => ha.1 (by rw [← e]; exact hy))).2 (h y (List.mem_cons_of_mem _ hy))
    rw [List.length_erase_of_mem hx] at this
    have : 0 < b.length := List.length_pos_of_mem hx
    rw [List.length_cons]
    omega
theorem sub_length {p q : List Sp} (hp : Sorted p) (hq : Sorted q) (h : Sub p q) (hl : q.length ≤ p.length) : p = q := by
  refine sub_both hp hq h fun x hx => ?_
  by_cases hm : x ∈ p
  · exact hm
  · exfalso
    have := nodup_leS (a := x :: p) (b := q) (List.nodup_cons.2 ⟨hm, sorted_nodup hp⟩) fun y hy => by
      rcases List.mem_cons.1 hy with rfl | hy
      · exact hx
      · exact h y hy
    rw [List.length_cons] at this
    omega
theorem length_step {p : List Sp} (hs : Sorted p) : p.length ≤ (stepL p).length := length_le_of_sub hs (sorted_colsL _) (step_has hs)
theorem step_same {p : List Sp} (hs : Sorted p) (h : (stepL p).length = p.length) : stepL p = p := (sub_length hs (sorted_colsL _) (step_has hs) (Nat.le_of_eq h)).symm
/-- what stays as it is has full rows and columns -/
theorem step_full {p : List Sp} (hs : Sorted p) (h : stepL p = p) : FullX p ∧ FullY p := by
  have h1 : rowsL p = p := sub_both (sorted_rowsL hs) hs (fun x hx => by
    have := colsL_has (p := rowsL p) x hx
    have e : colsL (rowsL p) = p := h
    rwa [e] at this) (rowsL_has hs)
  have h2 : colsL p = p := by
    have e : colsL (rowsL p) = p := h
    rwa [h1] at e
  exact ⟨(rows_full hs).1 h1, (cols_full hs).1 h2⟩
theorem step_of_full {p : List Sp} (hp : picB p = true) (h : FullX p) (k : FullY p) : stepOk p = true ∧ stepL p = p := by
  have hs := (picB_pic hp).2.2
  have h1 := (rows_full hs).2 h
  have h2 := (cols_full hs).2 k
  have r1 : rowsOk p = true := by unfold rowsOk; rw [h1, hp]; rfl
  have h3 : rowsL (overL p) = overL p := (rows_full (sorted_overL p)).2 (full_over.2 k)
  have r2 : colsOk p = true := by
    unfold colsOk rowsOk
    rw [h3, hp, pic_overL hp]; rfl
  refine ⟨by unfold stepOk; rw [h1, r1, r2]; rfl, by unfold stepL; rw [h1, h2]⟩
theorem step_within {p t : List Sp} (hs : Sorted p) (h : Sub p t) (hx : FullX t) (hy : FullY t) : Sub (stepL p) t := cols_within (rows_within hs h hx) hy
/-- filled by turns, at most n times -/
def bothF : Nat → List Sp → Option (List Sp)
  | 0, _ => none
  | n + 1, p => if stepOk p then (if (stepL p).length = p.length then some (stepL p) else bothF n (stepL p)) else none
def bothV (p : List Sp) : Option (List Sp) := bothF 61 p
def bothOk (p : List Sp) : Bool := (bothV p).isSome
def bothR (p : List Sp) : List Sp := (bothV p).getD []
/-- enough turns are enough -/
theorem bothF_more : ∀ (n m : Nat) (p : List Sp), 61 - p.length ≤ n → n ≤ m → bothF m p = bothF n p
  | 0, 0, _, _, _ => rfl
  | 0, m + 1, p, h, _ => by
    unfold bothF
    have : stepOk p = false := by
      rcases e : stepOk p with _ | _
      · rfl
      · have := (picB_pic (rows_parts (step_parts e).1).1).1
        omega
    rw [this]; rfl
  | n + 1, m + 1, p, h, hm => by
    unfold bothF
    rcases e : stepOk p with _ | _
    · rfl
    · have hs := (picB_pic (rows_parts (step_parts e).1).1).2.2
      have hl := length_step hs
      by_cases e2 : (stepL p).length = p.length
      · simp [e2]
      · simp only [if_true, if_neg e2]
        exact bothF_more n m (stepL p) (by omega) (by omega)
/-- one turn more -/
theorem both_step {p : List Sp} (h : stepOk p = true) (hne : (stepL p).length ≠ p.length) : bothV p = bothV (stepL p) := by
  have hs := (picB_pic (rows_parts (step_parts h).1).1).2.2
  have hl := length_step hs
  have e : bothV p = bothF 60 (stepL p) := by
    unfold bothV
    rw [show bothF 61 p = (if stepOk p then (if (stepL p).length = p.length then some (stepL p) else bothF 60 (stepL p)) else none) from rfl, h, if_pos rfl, if_neg hne]
  rw [e]
  exact (bothF_more 60 61 (stepL p) (by omega) (by omega)).symm
theorem both_no {p : List Sp} (h : stepOk p = false) : bothV p = none := by
  show (if stepOk p then (if (stepL p).length = p.length then some (stepL p) else bothF 60 (stepL p)) else none) = none
  rw [h]; rfl
theorem both_end {p : List Sp} (h : stepOk p = true) (he : (stepL p).length = p.length) : bothV p = some (stepL p) := by
  show (if stepOk p then (if (stepL p).length = p.length then some (stepL p) else bothF 60 (stepL p)) else none) = _
  rw [h, if_pos rfl, if_pos he]
/-- what is told of both filled -/
structure Both (p s : List Sp) : Prop where
  pic : picB p = true
  pics : picB s = true
  has : Sub p s
  fx : FullX s
  fy : FullY s
  least : ∀ t, Sub p t → FullX t → FullY t → Sub s t
theorem bothF_is : ∀ (n : Nat) (p s : List Sp), bothF n p = some s → Both p s
  | 0, _, _, h => by cases h
  | n + 1, p, s, h => by
    unfold bothF at h
    rcases e : stepOk p with _ | _
    · rw [e] at h; cases h
    · rw [e, if_pos rfl] at h
      have hp := (rows_parts (step_parts e).1).1
      have hs := (picB_pic hp).2.2
      by_cases e2 : (stepL p).length = p.length
      · rw [if_pos e2] at h
        cases h
        have e3 := step_same hs e2
        obtain ⟨h1, h2⟩ := step_full hs e3
        rw [e3]
        exact ⟨hp, hp, fun _ h => h, h1, h2, fun t k _ _ => k⟩
      · rw [if_neg e2] at h
        have B := bothF_is n (stepL p) s h
        exact ⟨hp, B.pics, fun x hx => B.has x (step_has hs x hx), B.fx, B.fy, fun t k1 k2 k3 => B.least t (step_within hs k1 k2 k3) k2 k3⟩
theorem both_is {p : List Sp} (h : bothOk p = true) : Both p (bothR p) := by
  unfold bothOk at h
  obtain ⟨s, hs⟩ := Option.isSome_iff_exists.1 h
  have := bothF_is 61 p s hs
  unfold bothR
  rw [hs]
  exact this
theorem both_full {p : List Sp} (hp : picB p = true) (h : FullX p) (k : FullY p) : bothOk p = true ∧ bothR p = p := by
  obtain ⟨h1, h2⟩ := step_of_full hp h k
  have := both_end h1 (by rw [h2])
  unfold bothOk bothR
  rw [this, h2]
  exact ⟨rfl, rfl⟩
/-- filled both ways -/
def filledB (p : List Sp) : Bool := bothOk p && decide ((bothR p).length = p.length)
theorem filled_iff {p : List Sp} (hp : picB p = true) : filledB p = true ↔ FullX p ∧ FullY p := by
  have hs := (picB_pic hp).2.2
  unfold filledB
  rw [Bool.and_eq_true, decide_eq_true_eq]
  constructor
  · rintro ⟨h1, h2⟩
    have B := both_is h1
    have e := sub_length hs (picB_pic B.pics).2.2 B.has (by omega)
    have h3 := B.fx
    have h4 := B.fy
    rw [← e] at h3 h4
    exact ⟨h3, h4⟩
  · rintro ⟨h1, h2⟩
    obtain ⟨k1, k2⟩ := both_full hp h1 h2
    exact ⟨k1, by rw [k2]⟩
theorem filled_no {p : List Sp} (hp : picB p = false) : filledB p = false := by
  unfold filledB
  rcases h : bothOk p with _ | _
  · rfl
  · have := (both_is h).pic
    rw [hp] at this; cases this
theorem filled_over {p : List Sp} (hp : picB p = true) : filledB (overL p) = filledB p := by
  rw [Bool.eq_iff_iff, filled_iff (pic_overL hp), filled_iff hp, full_over, full_over']
  exact And.comm
theorem filled_nil : filledB [] = true := (filled_iff (decide_eq_true pic_nil)).2 ⟨⟨fun _ h => by cases h⟩, ⟨fun _ h => by cases h⟩⟩
/-- rows filled and columns filled it is the same -/
theorem filled_same {p : List Sp} (hp : picB p = true) : filledB p = (rowsOk p && (colsOk p && (decide (rowsL p = p) && decide (colsL p = p)))) := by
  have hs := (picB_pic hp).2.2
  rw [Bool.eq_iff_iff, filled_iff hp]
  simp only [Bool.and_eq_true, decide_eq_true_eq]
  rw [rows_full hs, cols_full hs]
  constructor
  · rintro ⟨h1, h2⟩
    obtain ⟨k1, _⟩ := step_of_full hp h1 h2
    have k2 := (step_parts k1).2
    rw [(rows_full hs).2 h1] at k2
    exact ⟨(step_parts k1).1, k2, h1, h2⟩
  · rintro ⟨_, _, h1, h2⟩
    exact ⟨h1, h2⟩
end Go.Proofs.Ytebgcmnajkophaa
