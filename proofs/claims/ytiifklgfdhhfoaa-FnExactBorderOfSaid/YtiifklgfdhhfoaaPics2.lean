/-
  Plain facts, further: searching a list in order by halves; merging two lists in order; moves and half turns. No program is named.
-/
import Derived.Test.YtiifklgfdhhfoaaPics
namespace Go.Proofs.Ytiifklgfdhhfoaa

theorem picB_pic {ps : List Sp} (h : picB ps = true) : Pic ps := of_decide_eq_true h

/-- all below place k are before a; none from place k on is -/
def Lo (ps : List Sp) (a : Sp) (k : Nat) : Prop := ∀ j x, j < k → ps[j]? = some x → Lt x a
def Hi (ps : List Sp) (a : Sp) (k : Nat) : Prop := ∀ j x, k ≤ j → ps[j]? = some x → ¬ Lt x a
theorem lo_mid {ps : List Sp} {a x : Sp} {m : Nat} (hs : Sorted ps) (hx : ps[m]? = some x) (hl : Lt x a) : Lo ps a (m + 1) := fun j y hj hy => by
  by_cases e : j = m
  · subst e; rw [hx] at hy; cases hy; exact hl
  · exact lt_trans (steps_of_sorted hs (by omega) hy hx) hl
theorem hi_mid {ps : List Sp} {a x : Sp} {m : Nat} (hs : Sorted ps) (hx : ps[m]? = some x) (hl : ¬ Lt x a) : Hi ps a m := fun j y hj hy hh => by
  by_cases e : j = m
  · subst e; rw [hx] at hy; cases hy; exact hl hh
  · exact hl (lt_trans (steps_of_sorted hs (by omega) hx hy) hh)
theorem has_yes {ps : List Sp} {a : Sp} {k : Nat} (h : ps[k]? = some a) : decide (a ∈ ps) = true := decide_eq_true (List.mem_of_getElem? h)
theorem has_no {ps : List Sp} {a x : Sp} {k : Nat} (hs : Sorted ps) (hlo : Lo ps a k) (hhi : Hi ps a k) (h : ps[k]? = some x) (hne : x ≠ a) : decide (a ∈ ps) = false := decide_eq_false fun hm => by
  obtain ⟨j, hj⟩ := List.mem_iff_getElem?.1 hm
  rcases Nat.lt_trichotomy j k with h1 | h1 | h1
  · exact lt_irrefl _ (hlo j a h1 hj)
  · subst h1; rw [h] at hj; exact hne (Option.some.inj hj)
  · have h2 := steps_of_sorted hs h1 h hj
    exact hhi k x (Nat.le_refl _) h h2
theorem has_end {ps : List Sp} {a : Sp} {k : Nat} (hlo : Lo ps a k) (h : ps.length ≤ k) : decide (a ∈ ps) = false := decide_eq_false fun hm => by
  obtain ⟨j, hj⟩ := List.mem_iff_getElem?.1 hm
  have := (List.getElem?_eq_some_iff.1 hj).1
  exact lt_irrefl _ (hlo j a (by omega) hj)

/-- merging: what the loop does with the rests of both lists; 'e': those of either, else those of both -/
def mergeF (e : Bool) : Nat → List Sp → List Sp → List Sp
  | 0, _, _ => []
  | _ + 1, [], [] => []
  | n + 1, [], b :: q => if e then b :: mergeF e n [] q else mergeF e n [] q
  | n + 1, a :: p, [] => if e then a :: mergeF e n p [] else mergeF e n p []
  | n + 1, a :: p, b :: q => if Lt a b then (if e then a :: mergeF e n p (b :: q) else mergeF e n p (b :: q)) else if Lt b a then (if e then b :: mergeF e n (a :: p) q else mergeF e n (a :: p) q) else a :: mergeF e n p q

theorem mergeF_A {e : Bool} {n : Nat} {a : Sp} {p q : List Sp} (h : ∀ b q2, q = b :: q2 → Lt a b) : mergeF e (n + 1) (a :: p) q = (if e then [a] else []) ++ mergeF e n p q := by
  cases q with
  | nil => cases e <;> simp [mergeF]
  | cons b q2 =>
    have hl := h b q2 rfl
    cases e <;> simp [mergeF, hl]
theorem mergeF_B {e : Bool} {n : Nat} {b : Sp} {p q : List Sp} (h : ∀ a p2, p = a :: p2 → Lt b a) : mergeF e (n + 1) p (b :: q) = (if e then [b] else []) ++ mergeF e n p q := by
  cases p with
  | nil => cases e <;> simp [mergeF]
  | cons a p2 =>
    have hl := h a p2 rfl
    have hn := lt_asymm hl
    cases e <;> simp [mergeF, hl, hn]
theorem mergeF_AB {e : Bool} {n : Nat} {a : Sp} {p q : List Sp} : mergeF e (n + 1) (a :: p) (a :: q) = [a] ++ mergeF e n p q := by
  simp [mergeF, lt_irrefl]

theorem mem_mergeF_lo {e : Bool} : ∀ {n : Nat} {p q : List Sp} {x : Sp}, x ∈ mergeF e n p q → x ∈ p ∨ x ∈ q
  | 0, _, _, x, h => by simp [mergeF] at h
  | n + 1, [], [], x, h => by simp [mergeF] at h
  | n + 1, [], b :: q, x, h => by
    unfold mergeF at h
    split at h
    · rcases List.mem_cons.1 h with rfl | h
      · exact .inr (List.mem_cons_self ..)
      · rcases mem_mergeF_lo h with h | h
        · cases h
        · exact .inr (List.mem_cons_of_mem _ h)
    · rcases mem_mergeF_lo h with h | h
      · cases h
      · exact .inr (List.mem_cons_of_mem _ h)
  | n + 1, a :: p, [], x, h => by
    unfold mergeF at h
    split at h
    · rcases List.mem_cons.1 h with rfl | h
      · exact .inl (List.mem_cons_self ..)
      · rcases mem_mergeF_lo h with h | h
        · exact .inl (List.mem_cons_of_mem _ h)
        · cases h
    · rcases mem_mergeF_lo h with h | h
      · exact .inl (List.mem_cons_of_mem _ h)
      · cases h
  | n + 1, a :: p, b :: q, x, h => by
    have up1 : ∀ {y}, y ∈ p ∨ y ∈ b :: q → y ∈ a :: p ∨ y ∈ b :: q := fun h => h.imp (List.mem_cons_of_mem _) id
    have up2 : ∀ {y}, y ∈ a :: p ∨ y ∈ q → y ∈ a :: p ∨ y ∈ b :: q := fun h => h.imp id (List.mem_cons_of_mem _)
    have up3 : ∀ {y}, y ∈ p ∨ y ∈ q → y ∈ a :: p ∨ y ∈ b :: q := fun h => h.imp (List.mem_cons_of_mem _) (List.mem_cons_of_mem _)
    unfold mergeF at h
    split at h
    · split at h
      · rcases List.mem_cons.1 h with rfl | h
        · exact .inl (List.mem_cons_self ..)
        · exact up1 (mem_mergeF_lo h)
      · exact up1 (mem_mergeF_lo h)
    · split at h
      · split at h
        · rcases List.mem_cons.1 h with rfl | h
          · exact .inr (List.mem_cons_self ..)
          · exact up2 (mem_mergeF_lo h)
        · exact up2 (mem_mergeF_lo h)
      · rcases List.mem_cons.1 h with rfl | h
        · exact .inl (List.mem_cons_self ..)
        · exact up3 (mem_mergeF_lo h)

theorem sorted_cons {a : Sp} {p : List Sp} : Sorted (a :: p) ↔ (∀ x ∈ p, Lt a x) ∧ Sorted p := List.pairwise_cons

theorem sorted_mergeF {e : Bool} : ∀ {n : Nat} {p q : List Sp}, Sorted p → Sorted q → Sorted (mergeF e n p q)
  | 0, _, _, _, _ => List.Pairwise.nil
  | n + 1, [], [], _, _ => List.Pairwise.nil
  | n + 1, [], b :: q, hp, hq => by
    have h2 := sorted_cons.1 hq
    unfold mergeF
    split
    · exact sorted_cons.2 ⟨fun x hx => (mem_mergeF_lo hx).elim (fun h => by cases h) (h2.1 x), sorted_mergeF hp h2.2⟩
    · exact sorted_mergeF hp h2.2
  | n + 1, a :: p, [], hp, hq => by
    have h1 := sorted_cons.1 hp
    unfold mergeF
    split
    · exact sorted_cons.2 ⟨fun x hx => (mem_mergeF_lo hx).elim (h1.1 x) (fun h => by cases h), sorted_mergeF h1.2 hq⟩
    · exact sorted_mergeF h1.2 hq
  | n + 1, a :: p, b :: q, hp, hq => by
    have h1 := sorted_cons.1 hp
    have h2 := sorted_cons.1 hq
    unfold mergeF
    split
    · rename_i hab
      split
      · refine sorted_cons.2 ⟨fun x hx => (mem_mergeF_lo hx).elim (h1.1 x) (fun h => ?_), sorted_mergeF h1.2 hq⟩
        rcases List.mem_cons.1 h with rfl | h
        · exact hab
        · exact lt_trans hab (h2.1 x h)
      · exact sorted_mergeF h1.2 hq
    · rename_i hab
      split
      · rename_i hba
        split
        · refine sorted_cons.2 ⟨fun x hx => (mem_mergeF_lo hx).elim (fun h => ?_) (h2.1 x), sorted_mergeF hp h2.2⟩
          rcases List.mem_cons.1 h with rfl | h
          · exact hba
          · exact lt_trans hba (h1.1 x h)
        · exact sorted_mergeF hp h2.2
      · rename_i hba
        have e : a = b := by
          rcases lt_total a b with h | h | h
          · exact absurd h hab
          · exact h
          · exact absurd h hba
        subst e
        exact sorted_cons.2 ⟨fun x hx => (mem_mergeF_lo hx).elim (h1.1 x) (h2.1 x), sorted_mergeF h1.2 h2.2⟩

theorem mem_mergeF_true : ∀ {n : Nat} {p q : List Sp} {x : Sp}, p.length + q.length ≤ n → x ∈ p ∨ x ∈ q → x ∈ mergeF true n p q
  | 0, p, q, x, hn, h => by
    have h1 : p = [] := List.eq_nil_of_length_eq_zero (by omega)
    have h2 : q = [] := List.eq_nil_of_length_eq_zero (by omega)
    subst h1 h2; simp at h
  | n + 1, [], [], x, _, h => by simp at h
  | n + 1, [], b :: q, x, hn, h => by
    simp only [mergeF, if_true]
    rcases h with h | h
    · cases h
    · rcases List.mem_cons.1 h with rfl | h
      · exact List.mem_cons_self ..
      · exact List.mem_cons_of_mem _ (mem_mergeF_true (by simp at hn ⊢; omega) (.inr h))
  | n + 1, a :: p, [], x, hn, h => by
    simp only [mergeF, if_true]
    rcases h with h | h
    · rcases List.mem_cons.1 h with rfl | h
      · exact List.mem_cons_self ..
      · exact List.mem_cons_of_mem _ (mem_mergeF_true (by simp at hn ⊢; omega) (.inl h))
    · cases h
  | n + 1, a :: p, b :: q, x, hn, h => by
    simp only [mergeF, if_true]
    simp only [List.length_cons] at hn
    split
    · rcases h with h | h
      · rcases List.mem_cons.1 h with rfl | h
        · exact List.mem_cons_self ..
        · exact List.mem_cons_of_mem _ (mem_mergeF_true (by simp; omega) (.inl h))
      · exact List.mem_cons_of_mem _ (mem_mergeF_true (by simp; omega) (.inr h))
    · split
      · rcases h with h | h
        · exact List.mem_cons_of_mem _ (mem_mergeF_true (by simp; omega) (.inl h))
        · rcases List.mem_cons.1 h with rfl | h
          · exact List.mem_cons_self ..
          · exact List.mem_cons_of_mem _ (mem_mergeF_true (by simp; omega) (.inr h))
      · rename_i hab hba
        have e : a = b := by
          rcases lt_total a b with h | h | h
          · exact absurd h hab
          · exact h
          · exact absurd h hba
        subst e
        rcases h with h | h
        · rcases List.mem_cons.1 h with rfl | h
          · exact List.mem_cons_self ..
          · exact List.mem_cons_of_mem _ (mem_mergeF_true (by omega) (.inl h))
        · rcases List.mem_cons.1 h with rfl | h
          · exact List.mem_cons_self ..
          · exact List.mem_cons_of_mem _ (mem_mergeF_true (by omega) (.inr h))

theorem mem_mergeF_false : ∀ {n : Nat} {p q : List Sp} {x : Sp}, Sorted p → Sorted q → p.length + q.length ≤ n → (x ∈ mergeF false n p q ↔ x ∈ p ∧ x ∈ q)
  | 0, p, q, x, _, _, hn => by
    have h1 : p = [] := List.eq_nil_of_length_eq_zero (by omega)
    subst h1; simp [mergeF]
  | n + 1, [], [], x, _, _, _ => by simp [mergeF]
  | n + 1, [], b :: q, x, hp, hq, hn => by
    simp only [mergeF, Bool.false_eq_true, if_false]
    rw [mem_mergeF_false hp (sorted_cons.1 hq).2 (by simp at hn ⊢; omega)]; simp
  | n + 1, a :: p, [], x, hp, hq, hn => by
    simp only [mergeF, Bool.false_eq_true, if_false]
    rw [mem_mergeF_false (sorted_cons.1 hp).2 hq (by simp at hn ⊢; omega)]; simp
  | n + 1, a :: p, b :: q, x, hp, hq, hn => by
    simp only [mergeF, Bool.false_eq_true, if_false]
    simp only [List.length_cons] at hn
    have h1 := sorted_cons.1 hp
    have h2 := sorted_cons.1 hq
    split
    · rename_i hab
      rw [mem_mergeF_false h1.2 hq (by simp; omega)]
      constructor
      · exact fun h => ⟨List.mem_cons_of_mem _ h.1, h.2⟩
      · rintro ⟨h, k⟩
        rcases List.mem_cons.1 h with rfl | h
        · rcases List.mem_cons.1 k with e | k
          · exact absurd hab (by rw [e]; exact lt_irrefl _)
          · exact absurd (h2.1 _ k) (lt_asymm hab)
        · exact ⟨h, k⟩
    · split
      · rename_i hab hba
        rw [mem_mergeF_false hp h2.2 (by simp; omega)]
        constructor
        · exact fun h => ⟨h.1, List.mem_cons_of_mem _ h.2⟩
        · rintro ⟨h, k⟩
          rcases List.mem_cons.1 k with rfl | k
          · rcases List.mem_cons.1 h with e | h
            · exact absurd hba (by rw [e]; exact lt_irrefl _)
            · exact absurd (h1.1 _ h) (lt_asymm hba)
          · exact ⟨h, k⟩
      · rename_i hab hba
        have e : a = b := by
          rcases lt_total a b with h | h | h
          · exact absurd h hab
          · exact h
          · exact absurd h hba
        subst e
        rw [List.mem_cons, mem_mergeF_false h1.2 h2.2 (by omega), List.mem_cons, List.mem_cons]
        constructor
        · rintro (h | h)
          · exact ⟨.inl h, .inl h⟩
          · exact ⟨.inr h.1, .inr h.2⟩
        · rintro ⟨h | h, k | k⟩
          · exact .inl h
          · exact .inl h
          · exact .inl k
          · exact .inr ⟨h, k⟩

/-- the union of two lists in order -/
def merge (e : Bool) (p q : List Sp) : List Sp := mergeF e (p.length + q.length) p q
theorem merge_union {p q : List Sp} (hp : Sorted p) (hq : Sorted q) : merge true p q = puts p q :=
  sorted_ext (sorted_mergeF hp hq) (sorted_puts hp) fun x => by
    rw [mem_puts]; exact ⟨mem_mergeF_lo, mem_mergeF_true (Nat.le_refl _)⟩
theorem merge_common {p q : List Sp} (hp : Sorted p) (hq : Sorted q) : merge false p q = common p q :=
  sorted_ext (sorted_mergeF hp hq) (sorted_common hp) fun x => by
    rw [mem_common]; exact mem_mergeF_false hp hq (Nat.le_refl _)

/-- moved by a -/
def moved (p : List Sp) (a : Sp) : List Sp := p.map fun b => (b.1 + a.1, b.2 + a.2)
/-- turned by half a turn -/
def turned (p : List Sp) : List Sp := (p.map fun b => (-b.1, -b.2)).reverse
theorem lt_move {a b c : Sp} : Lt (a.1 + c.1, a.2 + c.2) (b.1 + c.1, b.2 + c.2) ↔ Lt a b := by unfold Lt; simp only []; omega
theorem sorted_moved {p : List Sp} {a : Sp} (h : Sorted p) : Sorted (moved p a) := List.Pairwise.map _ (fun _ _ h => lt_move.2 h) h
theorem sorted_turned {p : List Sp} (h : Sorted p) : Sorted (turned p) := by
  unfold turned Sorted
  rw [List.pairwise_reverse]
  exact List.Pairwise.map _ (fun a b h => by unfold Lt at *; simp only []; omega) h
theorem pic_turned {p : List Sp} (h : Pic p) : Pic (turned p) := by
  refine ⟨by simpa [turned] using h.1, fun a ha => ?_, sorted_turned h.2.2⟩
  unfold turned at ha
  rw [List.mem_reverse] at ha
  obtain ⟨b, hb, rfl⟩ := List.mem_map.1 ha
  have := h.2.1 b hb
  unfold InR at *
  simp only []
  omega
theorem turned_turned (p : List Sp) : turned (turned p) = p := by
  unfold turned
  rw [List.map_reverse, List.reverse_reverse, List.map_map]
  have : (fun b : Sp => (-b.1, -b.2)) ∘ (fun b : Sp => (-b.1, -b.2)) = id := by funext b; simp
  rw [this, List.map_id]
theorem moved_back (p : List Sp) (a : Sp) : moved (moved p a) (-a.1, -a.2) = p := by
  unfold moved
  rw [List.map_map]
  have : (fun b : Sp => (b.1 + (-a.1, -a.2).1, b.2 + (-a.1, -a.2).2)) ∘ (fun b : Sp => (b.1 + a.1, b.2 + a.2)) = id := by funext b; simp; apply sp_ext <;> simp <;> omega
  rw [this, List.map_id]
end Go.Proofs.Ytiifklgfdhhfoaa
