/- Texts of one kind, merged: Pics, Pics2, Sums, SumU, Ans, Dedup, Shrinks, Betw, ShrinkP, Balls, Patts. No conditions but those that stand in each theorem. -/
namespace Go.Proofs.Ytebgcmnajkophaa
/-! ### Pics -/
abbrev Sp := Int × Int

/-- a is before b -/
def Lt (a b : Sp) : Prop := a.2 < b.2 ∨ (a.2 = b.2 ∧ a.1 < b.1)
instance (a b : Sp) : Decidable (Lt a b) := by unfold Lt; exact inferInstance
def ltB (a b : Sp) : Bool := decide (a.2 < b.2) || (decide (a.2 = b.2) && decide (a.1 < b.1))
theorem ltB_iff {a b : Sp} : ltB a b = true ↔ Lt a b := by simp [ltB, Lt]
theorem ltB_no {a b : Sp} : ltB a b = false ↔ ¬ Lt a b := by rw [← ltB_iff]; simp
/-- the comparison: -1, 0, 1 -/
def cmpI (a b : Int) : Int := if a < b then -1 else if b < a then 1 else 0
def orI (x y : Int) : Int := if x = 0 then y else x
def ordI (a b : Sp) : Int := orI (cmpI a.2 b.2) (cmpI a.1 b.1)

theorem lt_irrefl (a : Sp) : ¬ Lt a a := by unfold Lt; omega
theorem lt_trans {a b c : Sp} (h : Lt a b) (k : Lt b c) : Lt a c := by unfold Lt at *; omega
theorem lt_asymm {a b : Sp} (h : Lt a b) : ¬ Lt b a := by unfold Lt at *; omega
theorem lt_ne {a b : Sp} (h : Lt a b) : a ≠ b := by rintro rfl; exact lt_irrefl _ h
theorem sp_ext {a b : Sp} (h : a.1 = b.1) (k : a.2 = b.2) : a = b := by cases a; cases b; simp_all
theorem lt_total (a b : Sp) : Lt a b ∨ a = b ∨ Lt b a := by
  rcases Int.lt_trichotomy a.2 b.2 with h | h | h
  · exact .inl (.inl h)
  · rcases Int.lt_trichotomy a.1 b.1 with k | k | k
    · exact .inl (.inr ⟨h, k⟩)
    · exact .inr (.inl (sp_ext k h))
    · exact .inr (.inr (.inr ⟨h.symm, k⟩))
  · exact .inr (.inr (.inl h))

theorem cmpI_neg {a b : Int} : cmpI a b < 0 ↔ a < b := by unfold cmpI; split <;> (try split) <;> omega
theorem cmpI_pos {a b : Int} : 0 < cmpI a b ↔ b < a := by unfold cmpI; split <;> (try split) <;> omega
theorem cmpI_zero {a b : Int} : cmpI a b = 0 ↔ a = b := by unfold cmpI; split <;> (try split) <;> omega
theorem cmpI_rng (a b : Int) : -1 ≤ cmpI a b ∧ cmpI a b ≤ 1 := by unfold cmpI; split <;> (try split) <;> omega
theorem ordI_neg {a b : Sp} : ordI a b < 0 ↔ Lt a b := by
  unfold ordI orI Lt
  split
  · rename_i h; rw [cmpI_zero] at h; rw [cmpI_neg]; omega
  · rename_i h; rw [cmpI_zero] at h; rw [cmpI_neg]; omega
theorem ordI_pos {a b : Sp} : 0 < ordI a b ↔ Lt b a := by
  unfold ordI orI Lt
  split
  · rename_i h; rw [cmpI_zero] at h; rw [cmpI_pos]; omega
  · rename_i h; rw [cmpI_zero] at h; rw [cmpI_pos]; omega
theorem ordI_zero {a b : Sp} : ordI a b = 0 ↔ a = b := by
  unfold ordI orI
  constructor
  · intro h
    split at h
    · rename_i k; exact sp_ext (cmpI_zero.1 h) (cmpI_zero.1 k)
    · rename_i k; exact absurd h k
  · rintro rfl
    rw [if_pos (cmpI_zero.2 rfl)]; exact cmpI_zero.2 rfl
theorem ordI_rng (a b : Sp) : -1 ≤ ordI a b ∧ ordI a b ≤ 1 := by unfold ordI orI; split <;> exact cmpI_rng _ _

theorem ordI_m1 {a b : Sp} (h : Lt a b) : ordI a b = -1 := by have := ordI_neg.2 h; have := ordI_rng a b; omega
theorem ordI_p1 {a b : Sp} (h : Lt b a) : ordI a b = 1 := by have := ordI_pos.2 h; have := ordI_rng a b; omega

def InR (a : Sp) : Prop := -30 ≤ a.1 ∧ a.1 ≤ 30 ∧ -30 ≤ a.2 ∧ a.2 ≤ 30
instance (a : Sp) : Decidable (InR a) := by unfold InR; exact inferInstance
def inB (x y f : Int) : Bool := decide (-f ≤ x ∧ x ≤ f ∧ -f ≤ y ∧ y ≤ f)
theorem inB_yes {x y : Int} (h : InR (x, y)) : inB x y 30 = true := by unfold InR at h; unfold inB; simp at *; omega
theorem inB_no {x y : Int} (h : ¬ InR (x, y)) : inB x y 30 = false := by unfold InR at h; unfold inB; simp at *; omega
def Sorted (ps : List Sp) : Prop := ps.Pairwise Lt
instance (ps : List Sp) : Decidable (Sorted ps) := by unfold Sorted; exact inferInstance
/-- a picture -/
def Pic (ps : List Sp) : Prop := ps.length ≤ 60 ∧ (∀ a ∈ ps, InR a) ∧ Sorted ps
instance (ps : List Sp) : Decidable (Pic ps) := by unfold Pic; exact inferInstance
def picB (ps : List Sp) : Bool := decide (Pic ps)

/-- what the loop asks at place k -/
def OkAt (ps : List Sp) (k : Nat) : Prop := ∀ a, ps[k]? = some a → InR a ∧ ∀ b, 0 < k → ps[k - 1]? = some b → Lt b a

theorem sorted_of_steps : ∀ (ps : List Sp), (∀ k a b, ps[k]? = some a → ps[k + 1]? = some b → Lt a b) → Sorted ps
  | [], _ => List.Pairwise.nil
  | [a], _ => List.pairwise_singleton _ _
  | a :: b :: ps, h => by
    have ih : Sorted (b :: ps) := sorted_of_steps (b :: ps) (fun k x y hx hy => h (k + 1) x y (by simpa using hx) (by simpa using hy))
    have hab : Lt a b := h 0 a b rfl rfl
    refine List.pairwise_cons.2 ⟨fun c hc => ?_, ih⟩
    rcases List.mem_cons.1 hc with rfl | hc
    · exact hab
    · exact lt_trans hab ((List.pairwise_cons.1 ih).1 c hc)

theorem steps_of_sorted {ps : List Sp} (h : Sorted ps) {i j : Nat} {a b : Sp} (hij : i < j) (ha : ps[i]? = some a) (hb : ps[j]? = some b) : Lt a b := by
  obtain ⟨hi, rfl⟩ := List.getElem?_eq_some_iff.1 ha
  obtain ⟨hj, rfl⟩ := List.getElem?_eq_some_iff.1 hb
  exact List.pairwise_iff_getElem.1 h i j hi hj hij

theorem pic_iff (ps : List Sp) : Pic ps ↔ ps.length ≤ 60 ∧ ∀ k, k < ps.length → OkAt ps k := by
  constructor
  · rintro ⟨h1, h2, h3⟩
    refine ⟨h1, fun k hk a ha => ⟨h2 a (List.mem_of_getElem? ha), fun b h0 hb => steps_of_sorted h3 (by omega) hb ha⟩⟩
  · rintro ⟨h1, h2⟩
    refine ⟨h1, fun a ha => ?_, sorted_of_steps _ fun k a b ha hb => ?_⟩
    · obtain ⟨k, hk⟩ := List.mem_iff_getElem?.1 ha
      exact (h2 k (List.getElem?_eq_some_iff.1 hk).1 a hk).1
    · exact (h2 (k + 1) (List.getElem?_eq_some_iff.1 hb).1 b hb).2 a (by omega) (by simpa using ha)

theorem pic_nil : Pic [] := by decide
theorem picB_yes {ps : List Sp} (h1 : ps.length ≤ 60) (h2 : ∀ j, j < ps.length → OkAt ps j) : picB ps = true := decide_eq_true ((pic_iff ps).2 ⟨h1, h2⟩)
theorem picB_no {ps : List Sp} {j : Nat} (h0 : j < ps.length) (h : ¬ OkAt ps j) : picB ps = false := decide_eq_false fun hp => h (((pic_iff ps).1 hp).2 j h0)
theorem okAt_zero {ps : List Sp} {k : Nat} {a : Sp} (hk : k ≤ 0) (h : ps[k]? = some a) (hi : InR a) : OkAt ps k := fun b hb => by
  rw [h] at hb; cases hb; exact ⟨hi, fun c h0 => by omega⟩
theorem okAt_succ {ps : List Sp} {k : Nat} {a b : Sp} (h : ps[k]? = some a) (hb : ps[k - 1]? = some b) (hi : InR a) (hl : Lt b a) : OkAt ps k := fun c hc => by
  rw [h] at hc; cases hc; exact ⟨hi, fun d _ hd => by rw [hb] at hd; cases hd; exact hl⟩
theorem okAt_not_in {ps : List Sp} {k : Nat} {a : Sp} (h : ps[k]? = some a) (hi : ¬ InR a) : ¬ OkAt ps k := fun hc => hi (hc a h).1
theorem okAt_not_lt {ps : List Sp} {k : Nat} {a b : Sp} (h : ps[k]? = some a) (h0 : 0 < k) (hb : ps[k - 1]? = some b) (hi : ¬ Lt b a) : ¬ OkAt ps k := fun hc => hi ((hc a h).2 b h0 hb)
theorem upto_succ {P : Nat → Prop} {k : Nat} (h : ∀ j, j < k → P j) (hk : P k) : ∀ j, j < k + 1 → P j := fun j hj => by
  by_cases e : j = k
  · rw [e]; exact hk
  · exact h j (by omega)

/-- two lists in order with the same spots are equal -/
theorem sorted_ext : ∀ {a b : List Sp}, Sorted a → Sorted b → (∀ x, x ∈ a ↔ x ∈ b) → a = b
  | [], [], _, _, _ => rfl
  | [], y :: b, _, _, h => absurd ((h y).2 (List.mem_cons_self ..)) (by simp)
  | x :: a, [], _, _, h => absurd ((h x).1 (List.mem_cons_self ..)) (by simp)
  | x :: a, y :: b, ha, hb, h => by
    obtain ⟨ha1, ha2⟩ := List.pairwise_cons.1 ha
    obtain ⟨hb1, hb2⟩ := List.pairwise_cons.1 hb
    have hxy : x = y := by
      rcases List.mem_cons.1 ((h x).1 (List.mem_cons_self ..)) with e | hx
      · exact e
      · rcases List.mem_cons.1 ((h y).2 (List.mem_cons_self ..)) with e | hy
        · exact e.symm
        · exact absurd (hb1 x hx) (lt_asymm (ha1 y hy))
    subst hxy
    have : a = b := sorted_ext ha2 hb2 fun z => by
      constructor
      · intro hz
        rcases List.mem_cons.1 ((h z).1 (List.mem_cons_of_mem _ hz)) with e | hz'
        · exact absurd (ha1 z hz) (by rw [e]; exact lt_irrefl _)
        · exact hz'
      · intro hz
        rcases List.mem_cons.1 ((h z).2 (List.mem_cons_of_mem _ hz)) with e | hz'
        · exact absurd (hb1 z hz) (by rw [e]; exact lt_irrefl _)
        · exact hz'
    rw [this]

theorem sorted_nodup {a : List Sp} (h : Sorted a) : a.Nodup := h.imp fun h => lt_ne h
theorem sorted_filter {a : List Sp} (h : Sorted a) (p : Sp → Bool) : Sorted (a.filter p) := List.Pairwise.sublist List.filter_sublist h
theorem sorted_take {a : List Sp} (h : Sorted a) (n : Nat) : Sorted (a.take n) := List.Pairwise.sublist (List.take_sublist n a) h
theorem sorted_drop {a : List Sp} (h : Sorted a) (n : Nat) : Sorted (a.drop n) := List.Pairwise.sublist (List.drop_sublist n a) h

/-- where a further spot goes: the loop goes down from k -/
def atOf (ps : List Sp) (a : Sp) : Nat → Nat
  | 0 => 0
  | k + 1 => if Lt a (ps.getD k (0, 0)) then atOf ps a k else k + 1
theorem atOf_le (ps : List Sp) (a : Sp) : ∀ k, atOf ps a k ≤ k
  | 0 => Nat.le_refl _
  | k + 1 => by
    unfold atOf
    split
    · exact Nat.le_succ_of_le (atOf_le ps a k)
    · exact Nat.le_refl _
/-- a list in order with a further spot -/
def put (ps : List Sp) (a : Sp) : List Sp :=
  let t := atOf ps a ps.length
  if 0 < t ∧ ps.getD (t - 1) (0, 0) = a then ps else ps.take t ++ a :: ps.drop t

theorem atOf_hi (ps : List Sp) (a : Sp) : ∀ k, k ≤ ps.length → ∀ j, atOf ps a k ≤ j → j < k → Lt a (ps.getD j (0, 0))
  | 0, _, j, _, hj => by omega
  | k + 1, hk, j, h1, h2 => by
    unfold atOf at h1
    split at h1
    · rename_i hl
      by_cases e : j = k
      · subst e; exact hl
      · exact atOf_hi ps a k (by omega) j h1 (by omega)
    · omega
theorem atOf_lo (ps : List Sp) (a : Sp) : ∀ k, 0 < atOf ps a k → ¬ Lt a (ps.getD (atOf ps a k - 1) (0, 0))
  | 0, h => by simp [atOf] at h
  | k + 1, h => by
    unfold atOf at h ⊢
    split
    · rename_i hl
      rw [if_pos hl] at h
      exact atOf_lo ps a k h
    · rename_i hl; simpa using hl

theorem getD_mem {ps : List Sp} {j : Nat} (h : j < ps.length) : ps.getD j (0, 0) ∈ ps := by
  rw [List.getD_eq_getElem?_getD, List.getElem?_eq_getElem h]; exact List.getElem_mem h
theorem getD_some {ps : List Sp} {j : Nat} (h : j < ps.length) : ps[j]? = some (ps.getD j (0, 0)) := by
  rw [List.getD_eq_getElem?_getD, List.getElem?_eq_getElem h]; rfl

theorem mem_put {ps : List Sp} {a x : Sp} : x ∈ put ps a ↔ x = a ∨ x ∈ ps := by
  unfold put
  simp only []
  split
  · rename_i h
    have hm : a ∈ ps := by
      rw [← h.2]
      exact getD_mem (by have := atOf_le ps a ps.length; omega)
    constructor
    · exact .inr
    · rintro (rfl | h)
      · exact hm
      · exact h
  · rw [List.mem_append, List.mem_cons]
    constructor
    · rintro (h | h | h)
      · exact .inr (List.mem_of_mem_take h)
      · exact .inl h
      · exact .inr (List.mem_of_mem_drop h)
    · rintro (h | h)
      · exact .inr (.inl h)
      · rw [← List.take_append_drop (atOf ps a ps.length) ps, List.mem_append] at h
        rcases h with h | h
        · exact .inl h
        · exact .inr (.inr h)

theorem sorted_put {ps : List Sp} {a : Sp} (hs : Sorted ps) : Sorted (put ps a) := by
  unfold put
  simp only []
  split
  · exact hs
  · rename_i h
    have hle := atOf_le ps a ps.length
    generalize ht : atOf ps a ps.length = t at *
    have hlo : ∀ x ∈ ps.take t, Lt x a := by
      intro x hx
      obtain ⟨j, hj⟩ := List.mem_iff_getElem?.1 hx
      have hjt : j < t := by
        have := (List.getElem?_eq_some_iff.1 hj).1
        simp at this; omega
      have hj' : ps[j]? = some x := by rw [List.getElem?_take] at hj; simpa [hjt] using hj
      have h1 : ¬ Lt a (ps.getD (t - 1) (0, 0)) := by
        have := atOf_lo ps a ps.length (by omega)
        rwa [ht] at this
      have h2 : ps.getD (t - 1) (0, 0) ≠ a := fun e => h ⟨by omega, e⟩
      have h3 : Lt (ps.getD (t - 1) (0, 0)) a := by
        rcases lt_total a (ps.getD (t - 1) (0, 0)) with k | k | k
        · exact absurd k h1
        · exact absurd k.symm h2
        · exact k
      by_cases e : j = t - 1
      · subst e
        rw [getD_some (by omega)] at hj'
        cases hj'
        exact h3
      · exact lt_trans (steps_of_sorted hs (by omega : j < t - 1) hj' (getD_some (by omega))) h3
    have hhi : ∀ x ∈ ps.drop t, Lt a x := by
      intro x hx
      obtain ⟨j, hj⟩ := List.mem_iff_getElem?.1 hx
      rw [List.getElem?_drop] at hj
      have hjl := (List.getElem?_eq_some_iff.1 hj).1
      have := atOf_hi ps a ps.length (Nat.le_refl _) (t + j) (by omega) hjl
      rw [getD_some hjl] at hj
      cases hj
      exact this
    refine List.pairwise_append.2 ⟨sorted_take hs t, List.pairwise_cons.2 ⟨hhi, sorted_drop hs t⟩, fun x hx y hy => ?_⟩
    rcases List.mem_cons.1 hy with rfl | hy
    · exact hlo x hx
    · exact lt_trans (hlo x hx) (hhi y hy)

theorem length_put_le (ps : List Sp) (a : Sp) : (put ps a).length ≤ ps.length + 1 := by
  unfold put
  simp only []
  split
  · omega
  · simp; omega
theorem length_le_put (ps : List Sp) (a : Sp) : ps.length ≤ (put ps a).length := by
  unfold put
  simp only []
  split
  · omega
  · simp; omega

/-- all of q put into p, one after the other -/
def puts (p q : List Sp) : List Sp := q.foldl put p
theorem mem_puts : ∀ {q p : List Sp} {x : Sp}, x ∈ puts p q ↔ x ∈ p ∨ x ∈ q
  | [], p, x => by simp [puts]
  | a :: q, p, x => by
    have : puts p (a :: q) = puts (put p a) q := rfl
    rw [this, mem_puts, mem_put, List.mem_cons]
    constructor
    · rintro ((h | h) | h)
      · exact .inr (.inl h)
      · exact .inl h
      · exact .inr (.inr h)
    · rintro (h | h | h)
      · exact .inl (.inr h)
      · exact .inl (.inl h)
      · exact .inr h
theorem sorted_puts : ∀ {q p : List Sp}, Sorted p → Sorted (puts p q)
  | [], _, h => h
  | a :: q, p, h => by
    have : puts p (a :: q) = puts (put p a) q := rfl
    rw [this]; exact sorted_puts (sorted_put h)
theorem length_puts_le : ∀ (q p : List Sp), (puts p q).length ≤ p.length + q.length
  | [], p => by simp [puts]
  | a :: q, p => by
    have h1 : puts p (a :: q) = puts (put p a) q := rfl
    have := length_puts_le q (put p a)
    have := length_put_le p a
    rw [h1]; simp; omega

/-- what is common -/
def common (p q : List Sp) : List Sp := p.filter fun a => decide (a ∈ q)
theorem mem_common {p q : List Sp} {x : Sp} : x ∈ common p q ↔ x ∈ p ∧ x ∈ q := by simp [common]
theorem sorted_common {p q : List Sp} (h : Sorted p) : Sorted (common p q) := sorted_filter h _
theorem common_comm {p q : List Sp} (hp : Sorted p) (hq : Sorted q) : common p q = common q p :=
  sorted_ext (sorted_common hp) (sorted_common hq) fun x => by rw [mem_common, mem_common]; exact And.comm
theorem length_common_le (p q : List Sp) : (common p q).length ≤ p.length := List.length_filter_le _ _
/-! ### Pics2 -/
theorem picB_pic {ps : List Sp} (h : picB ps = true) : Pic ps := of_decide_eq_true h

/-- all below place k are before a; none from place k on is -/
def Lo (ps : List Sp) (a : Sp) (k : Nat) : Prop := ∀ j x, j < k → ps[j]? = some x → Lt x a
def Hi (ps : List Sp) (a : Sp) (k : Nat) : Prop := ∀ j x, k ≤ j → ps[j]? = some x → ¬ Lt x a
theorem lo_mid {ps : List Sp} {a x : Sp} {m : Nat} (hs : Sorted ps) (hx : ps[m]? = some x) (hl : Lt x a) : Lo ps a (m + 1) := fun j y hj hy => by
  by_cases e : j = m
  · subst e; rw [hx] at hy; cases hy; exact hl
  · exact lt_trans (steps_of_sorted hs (by omega) hy hx) hl
theorem hi_mid {ps : List Sp} {a x : Sp} {m : Nat} (hs : Sorted ps) (hx : ps[m]? = some x) (hl : ¬ Lt x a) : Hi ps a m := fun j y hj hy hh => by
  by_cases e : j = m
  · subst e; rw [hx] at hy; cases hy; exact hl hh
  · exact hl (lt_trans (steps_of_sorted hs (by omega) hx hy) hh)
theorem has_yes {ps : List Sp} {a : Sp} {k : Nat} (h : ps[k]? = some a) : decide (a ∈ ps) = true := decide_eq_true (List.mem_of_getElem? h)
theorem has_no {ps : List Sp} {a x : Sp} {k : Nat} (hs : Sorted ps) (hlo : Lo ps a k) (hhi : Hi ps a k) (h : ps[k]? = some x) (hne : x ≠ a) : decide (a ∈ ps) = false := decide_eq_false fun hm => by
  obtain ⟨j, hj⟩ := List.mem_iff_getElem?.1 hm
  rcases Nat.lt_trichotomy j k with h1 | h1 | h1
  · exact lt_irrefl _ (hlo j a h1 hj)
  · subst h1; rw [h] at hj; exact hne (Option.some.inj hj)
  · have h2 := steps_of_sorted hs h1 h hj
    exact hhi k x (Nat.le_refl _) h h2
theorem has_end {ps : List Sp} {a : Sp} {k : Nat} (hlo : Lo ps a k) (h : ps.length ≤ k) : decide (a ∈ ps) = false := decide_eq_false fun hm => by
  obtain ⟨j, hj⟩ := List.mem_iff_getElem?.1 hm
  have := (List.getElem?_eq_some_iff.1 hj).1
  exact lt_irrefl _ (hlo j a (by omega) hj)

/-- merging: what the loop does with the rests of both lists; 'e': those of either, else those of both -/
def mergeF (e : Bool) : Nat → List Sp → List Sp → List Sp
  | 0, _, _ => []
  | _ + 1, [], [] => []
  | n + 1, [], b :: q => if e then b :: mergeF e n [] q else mergeF e n [] q
  | n + 1, a :: p, [] => if e then a :: mergeF e n p [] else mergeF e n p []
  | n + 1, a :: p, b :: q => if Lt a b then (if e then a :: mergeF e n p (b :: q) else mergeF e n p (b :: q)) else if Lt b a then (if e then b :: mergeF e n (a :: p) q else mergeF e n (a :: p) q) else a :: mergeF e n p q

theorem mergeF_A {e : Bool} {n : Nat} {a : Sp} {p q : List Sp} (h : ∀ b q2, q = b :: q2 → Lt a b) : mergeF e (n + 1) (a :: p) q = (if e then [a] else []) ++ mergeF e n p q := by
  cases q with
  | nil => cases e <;> simp [mergeF]
  | cons b q2 =>
    have hl := h b q2 rfl
    cases e <;> simp [mergeF, hl]
theorem mergeF_B {e : Bool} {n : Nat} {b : Sp} {p q : List Sp} (h : ∀ a p2, p = a :: p2 → Lt b a) : mergeF e (n + 1) p (b :: q) = (if e then [b] else []) ++ mergeF e n p q := by
  cases p with
  | nil => cases e <;> simp [mergeF]
  | cons a p2 =>
    have hl := h a p2 rfl
    have hn := lt_asymm hl
    cases e <;> simp [mergeF, hl, hn]
theorem mergeF_AB {e : Bool} {n : Nat} {a : Sp} {p q : List Sp} : mergeF e (n + 1) (a :: p) (a :: q) = [a] ++ mergeF e n p q := by
  simp [mergeF, lt_irrefl]

theorem mem_mergeF_lo {e : Bool} : ∀ {n : Nat} {p q : List Sp} {x : Sp}, x ∈ mergeF e n p q → x ∈ p ∨ x ∈ q
  | 0, _, _, x, h => by simp [mergeF] at h
  | n + 1, [], [], x, h => by simp [mergeF] at h
  | n + 1, [], b :: q, x, h => by
    unfold mergeF at h
    split at h
    · rcases List.mem_cons.1 h with rfl | h
      · exact .inr (List.mem_cons_self ..)
      · rcases mem_mergeF_lo h with h | h
        · cases h
        · exact .inr (List.mem_cons_of_mem _ h)
    · rcases mem_mergeF_lo h with h | h
      · cases h
      · exact .inr (List.mem_cons_of_mem _ h)
  | n + 1, a :: p, [], x, h => by
    unfold mergeF at h
    split at h
    · rcases List.mem_cons.1 h with rfl | h
      · exact .inl (List.mem_cons_self ..)
      · rcases mem_mergeF_lo h with h | h
        · exact .inl (List.mem_cons_of_mem _ h)
        · cases h
    · rcases mem_mergeF_lo h with h | h
      · exact .inl (List.mem_cons_of_mem _ h)
      · cases h
  | n + 1, a :: p, b :: q, x, h => by
    have up1 : ∀ {y}, y ∈ p ∨ y ∈ b :: q → y ∈ a :: p ∨ y ∈ b :: q := fun h => h.imp (List.mem_cons_of_mem _) id
    have up2 : ∀ {y}, y ∈ a :: p ∨ y ∈ q → y ∈ a :: p ∨ y ∈ b :: q := fun h => h.imp id (List.mem_cons_of_mem _)
    have up3 : ∀ {y}, y ∈ p ∨ y ∈ q → y ∈ a :: p ∨ y ∈ b :: q := fun h => h.imp (List.mem_cons_of_mem _) (List.mem_cons_of_mem _)
    unfold mergeF at h
    split at h
    · split at h
      · rcases List.mem_cons.1 h with rfl | h
        · exact .inl (List.mem_cons_self ..)
        · exact up1 (mem_mergeF_lo h)
      · exact up1 (mem_mergeF_lo h)
    · split at h
      · split at h
        · rcases List.mem_cons.1 h with rfl | h
          · exact .inr (List.mem_cons_self ..)
          · exact up2 (mem_mergeF_lo h)
        · exact up2 (mem_mergeF_lo h)
      · rcases List.mem_cons.1 h with rfl | h
        · exact .inl (List.mem_cons_self ..)
        · exact up3 (mem_mergeF_lo h)

theorem sorted_cons {a : Sp} {p : List Sp} : Sorted (a :: p) ↔ (∀ x ∈ p, Lt a x) ∧ Sorted p := List.pairwise_cons

theorem sorted_mergeF {e : Bool} : ∀ {n : Nat} {p q : List Sp}, Sorted p → Sorted q → Sorted (mergeF e n p q)
  | 0, _, _, _, _ => List.Pairwise.nil
  | n + 1, [], [], _, _ => List.Pairwise.nil
  | n + 1, [], b :: q, hp, hq => by
    have h2 := sorted_cons.1 hq
    unfold mergeF
    split
    · exact sorted_cons.2 ⟨fun x hx => (mem_mergeF_lo hx).elim (fun h => by cases h) (h2.1 x), sorted_mergeF hp h2.2⟩
    · exact sorted_mergeF hp h2.2
  | n + 1, a :: p, [], hp, hq => by
    have h1 := sorted_cons.1 hp
    unfold mergeF
    split
    · exact sorted_cons.2 ⟨fun x hx => (mem_mergeF_lo hx).elim (h1.1 x) (fun h => by cases h), sorted_mergeF h1.2 hq⟩
    · exact sorted_mergeF h1.2 hq
  | n + 1, a :: p, b :: q, hp, hq => by
    have h1 := sorted_cons.1 hp
    have h2 := sorted_cons.1 hq
    unfold mergeF
    split
    · rename_i hab
      split
      · refine sorted_cons.2 ⟨fun x hx => (mem_mergeF_lo hx).elim (h1.1 x) (fun h => ?_), sorted_mergeF h1.2 hq⟩
        rcases List.mem_cons.1 h with rfl | h
        · exact hab
        · exact lt_trans hab (h2.1 x h)
      · exact sorted_mergeF h1.2 hq
    · rename_i hab
      split
      · rename_i hba
        split
        · refine sorted_cons.2 ⟨fun x hx => (mem_mergeF_lo hx).elim (fun h => ?_) (h2.1 x), sorted_mergeF hp h2.2⟩
          rcases List.mem_cons.1 h with rfl | h
          · exact hba
          · exact lt_trans hba (h1.1 x h)
        · exact sorted_mergeF hp h2.2
      · rename_i hba
        have e : a = b := by
          rcases lt_total a b with h | h | h
          · exact absurd h hab
          · exact h
          · exact absurd h hba
        subst e
        exact sorted_cons.2 ⟨fun x hx => (mem_mergeF_lo hx).elim (h1.1 x) (h2.1 x), sorted_mergeF h1.2 h2.2⟩

theorem mem_mergeF_true : ∀ {n : Nat} {p q : List Sp} {x : Sp}, p.length + q.length ≤ n → x ∈ p ∨ x ∈ q → x ∈ mergeF true n p q
  | 0, p, q, x, hn, h => by
    have h1 : p = [] := List.eq_nil_of_length_eq_zero (by omega)
    have h2 : q = [] := List.eq_nil_of_length_eq_zero (by omega)
    subst h1 h2; simp at h
  | n + 1, [], [], x, _, h => by simp at h
  | n + 1, [], b :: q, x, hn, h => by
    simp only [mergeF, if_true]
    rcases h with h | h
    · cases h
    · rcases List.mem_cons.1 h with rfl | h
      · exact List.mem_cons_self ..
      · exact List.mem_cons_of_mem _ (mem_mergeF_true (by simp at hn ⊢; omega) (.inr h))
  | n + 1, a :: p, [], x, hn, h => by
    simp only [mergeF, if_true]
    rcases h with h | h
    · rcases List.mem_cons.1 h with rfl | h
      · exact List.mem_cons_self ..
      · exact List.mem_cons_of_mem _ (mem_mergeF_true (by simp at hn ⊢; omega) (.inl h))
    · cases h
  | n + 1, a :: p, b :: q, x, hn, h => by
    simp only [mergeF, if_true]
    simp only [List.length_cons] at hn
    split
    · rcases h with h | h
      · rcases List.mem_cons.1 h with rfl | h
        · exact List.mem_cons_self ..
        · exact List.mem_cons_of_mem _ (mem_mergeF_true (by simp; omega) (.inl h))
      · exact List.mem_cons_of_mem _ (mem_mergeF_true (by simp; omega) (.inr h))
    · split
      · rcases h with h | h
        · exact List.mem_cons_of_mem _ (mem_mergeF_true (by simp; omega) (.inl h))
        · rcases List.mem_cons.1 h with rfl | h
          · exact List.mem_cons_self ..
          · exact List.mem_cons_of_mem _ (mem_mergeF_true (by simp; omega) (.inr h))
      · rename_i hab hba
        have e : a = b := by
          rcases lt_total a b with h | h | h
          · exact absurd h hab
          · exact h
          · exact absurd h hba
        subst e
        rcases h with h | h
        · rcases List.mem_cons.1 h with rfl | h
          · exact List.mem_cons_self ..
          · exact List.mem_cons_of_mem _ (mem_mergeF_true (by omega) (.inl h))
        · rcases List.mem_cons.1 h with rfl | h
          · exact List.mem_cons_self ..
          · exact List.mem_cons_of_mem _ (mem_mergeF_true (by omega) (.inr h))

theorem mem_mergeF_false : ∀ {n : Nat} {p q : List Sp} {x : Sp}, Sorted p → Sorted q → p.length + q.length ≤ n → (x ∈ mergeF false n p q ↔ x ∈ p ∧ x ∈ q)
  | 0, p, q, x, _, _, hn => by
    have h1 : p = [] := List.eq_nil_of_length_eq_zero (by omega)
    subst h1; simp [mergeF]
  | n + 1, [], [], x, _, _, _ => by simp [mergeF]
  | n + 1, [], b :: q, x, hp, hq, hn => by
    simp only [mergeF, Bool.false_eq_true, if_false]
    rw [mem_mergeF_false hp (sorted_cons.1 hq).2 (by simp at hn ⊢; omega)]; simp
  | n + 1, a :: p, [], x, hp, hq, hn => by
    simp only [mergeF, Bool.false_eq_true, if_false]
    rw [mem_mergeF_false (sorted_cons.1 hp).2 hq (by simp at hn ⊢; omega)]; simp
  | n + 1, a :: p, b :: q, x, hp, hq, hn => by
    simp only [mergeF, Bool.false_eq_true, if_false]
    simp only [List.length_cons] at hn
    have h1 := sorted_cons.1 hp
    have h2 := sorted_cons.1 hq
    split
    · rename_i hab
      rw [mem_mergeF_false h1.2 hq (by simp; omega)]
      constructor
      · exact fun h => ⟨List.mem_cons_of_mem _ h.1, h.2⟩
      · rintro ⟨h, k⟩
        rcases List.mem_cons.1 h with rfl | h
        · rcases List.mem_cons.1 k with e | k
          · exact absurd hab (by rw [e]; exact lt_irrefl _)
          · exact absurd (h2.1 _ k) (lt_asymm hab)
        · exact ⟨h, k⟩
    · split
      · rename_i hab hba
        rw [mem_mergeF_false hp h2.2 (by simp; omega)]
        constructor
        · exact fun h => ⟨h.1, List.mem_cons_of_mem _ h.2⟩
        · rintro ⟨h, k⟩
          rcases List.mem_cons.1 k with rfl | k
          · rcases List.mem_cons.1 h with e | h
            · exact absurd hba (by rw [e]; exact lt_irrefl _)
            · exact absurd (h1.1 _ h) (lt_asymm hba)
          · exact ⟨h, k⟩
      · rename_i hab hba
        have e : a = b := by
          rcases lt_total a b with h | h | h
          · exact absurd h hab
          · exact h
          · exact absurd h hba
        subst e
        rw [List.mem_cons, mem_mergeF_false h1.2 h2.2 (by omega), List.mem_cons, List.mem_cons]
        constructor
        · rintro (h | h)
          · exact ⟨.inl h, .inl h⟩
          · exact ⟨.inr h.1, .inr h.2⟩
        · rintro ⟨h | h, k | k⟩
          · exact .inl h
          · exact .inl h
          · exact .inl k
          · exact .inr ⟨h, k⟩

/-- the union of two lists in order -/
def merge (e : Bool) (p q : List Sp) : List Sp := mergeF e (p.length + q.length) p q
theorem merge_union {p q : List Sp} (hp : Sorted p) (hq : Sorted q) : merge true p q = puts p q :=
  sorted_ext (sorted_mergeF hp hq) (sorted_puts hp) fun x => by
    rw [mem_puts]; exact ⟨mem_mergeF_lo, mem_mergeF_true (Nat.le_refl _)⟩
theorem merge_common {p q : List Sp} (hp : Sorted p) (hq : Sorted q) : merge false p q = common p q :=
  sorted_ext (sorted_mergeF hp hq) (sorted_common hp) fun x => by
    rw [mem_common]; exact mem_mergeF_false hp hq (Nat.le_refl _)

/-- moved by a -/
def moved (p : List Sp) (a : Sp) : List Sp := p.map fun b => (b.1 + a.1, b.2 + a.2)
/-- turned by half a turn -/
def turned (p : List Sp) : List Sp := (p.map fun b => (-b.1, -b.2)).reverse
theorem lt_move {a b c : Sp} : Lt (a.1 + c.1, a.2 + c.2) (b.1 + c.1, b.2 + c.2) ↔ Lt a b := by unfold Lt; simp only []; omega
theorem sorted_moved {p : List Sp} {a : Sp} (h : Sorted p) : Sorted (moved p a) := List.Pairwise.map _ (fun _ _ h => lt_move.2 h) h
theorem sorted_turned {p : List Sp} (h : Sorted p) : Sorted (turned p) := by
  unfold turned Sorted
  rw [List.pairwise_reverse]
  exact List.Pairwise.map _ (fun a b h => by unfold Lt at *; simp only []; omega) h
theorem pic_turned {p : List Sp} (h : Pic p) : Pic (turned p) := by
  refine ⟨by simpa [turned] using h.1, fun a ha => ?_, sorted_turned h.2.2⟩
  unfold turned at ha
  rw [List.mem_reverse] at ha
  obtain ⟨b, hb, rfl⟩ := List.mem_map.1 ha
  have := h.2.1 b hb
  unfold InR at *
  simp only []
  omega
theorem turned_turned (p : List Sp) : turned (turned p) = p := by
  unfold turned
  rw [List.map_reverse, List.reverse_reverse, List.map_map]
  have : (fun b : Sp => (-b.1, -b.2)) ∘ (fun b : Sp => (-b.1, -b.2)) = id := by funext b; simp
  rw [this, List.map_id]
theorem moved_back (p : List Sp) (a : Sp) : moved (moved p a) (-a.1, -a.2) = p := by
  unfold moved
  rw [List.map_map]
  have : (fun b : Sp => (b.1 + (-a.1, -a.2).1, b.2 + (-a.1, -a.2).2)) ∘ (fun b : Sp => (b.1 + a.1, b.2 + a.2)) = id := by funext b; simp; apply sp_ext <;> simp <;> omega
  rw [this, List.map_id]
/-! ### Sums -/
def addS (a b : Sp) : Sp := (a.1 + b.1, a.2 + b.2)
theorem addS_comm (a b : Sp) : addS a b = addS b a := by unfold addS; apply sp_ext <;> simp only [] <;> omega
theorem addS_assoc (a b c : Sp) : addS (addS a b) c = addS a (addS b c) := by unfold addS; apply sp_ext <;> simp only [] <;> omega
/-- all sums, one after the other -/
def sumRaw (p q : List Sp) : List Sp := p.flatMap fun a => q.map (addS a)
/-- all sums, in order, each of them once -/
def sumL (p q : List Sp) : List Sp := puts [] (sumRaw p q)

theorem mem_sumRaw {p q : List Sp} {x : Sp} : x ∈ sumRaw p q ↔ ∃ a b, a ∈ p ∧ b ∈ q ∧ x = addS a b := by
  unfold sumRaw
  rw [List.mem_flatMap]
  constructor
  · rintro ⟨a, ha, h⟩
    obtain ⟨b, hb, rfl⟩ := List.mem_map.1 h
    exact ⟨a, b, ha, hb, rfl⟩
  · rintro ⟨a, b, ha, hb, rfl⟩
    exact ⟨a, ha, List.mem_map.2 ⟨b, hb, rfl⟩⟩
theorem mem_sumL {p q : List Sp} {x : Sp} : x ∈ sumL p q ↔ ∃ a b, a ∈ p ∧ b ∈ q ∧ x = addS a b := by
  unfold sumL
  rw [mem_puts, mem_sumRaw]
  simp
theorem sorted_sumL (p q : List Sp) : Sorted (sumL p q) := sorted_puts List.Pairwise.nil
theorem sumL_comm (p q : List Sp) : sumL p q = sumL q p := sorted_ext (sorted_sumL _ _) (sorted_sumL _ _) fun x => by
  rw [mem_sumL, mem_sumL]
  constructor
  · rintro ⟨a, b, ha, hb, rfl⟩; exact ⟨b, a, hb, ha, addS_comm _ _⟩
  · rintro ⟨a, b, ha, hb, rfl⟩; exact ⟨b, a, hb, ha, addS_comm _ _⟩
theorem sumL_assoc (p q t : List Sp) : sumL (sumL p q) t = sumL p (sumL q t) := sorted_ext (sorted_sumL _ _) (sorted_sumL _ _) fun x => by
  rw [mem_sumL, mem_sumL]
  constructor
  · rintro ⟨a, b, ha, hb, rfl⟩
    obtain ⟨c, d, hc, hd, rfl⟩ := mem_sumL.1 ha
    exact ⟨c, addS d b, hc, mem_sumL.2 ⟨d, b, hd, hb, rfl⟩, addS_assoc _ _ _⟩
  · rintro ⟨a, b, ha, hb, rfl⟩
    obtain ⟨c, d, hc, hd, rfl⟩ := mem_sumL.1 hb
    exact ⟨addS a c, d, mem_sumL.2 ⟨a, c, ha, hc, rfl⟩, hd, (addS_assoc _ _ _).symm⟩
theorem length_sumRaw (p q : List Sp) : (sumRaw p q).length = p.length * q.length := by
  induction p with
  | nil => simp [sumRaw]
  | cons a p ih =>
    have : sumRaw (a :: p) q = q.map (addS a) ++ sumRaw p q := rfl
    rw [this, List.length_append, List.length_map, ih, List.length_cons, Nat.add_mul, Nat.one_mul, Nat.add_comm]
theorem length_sumL_le (p q : List Sp) : (sumL p q).length ≤ p.length * q.length := by
  have := length_puts_le (sumRaw p q) []
  rw [length_sumRaw] at this
  simpa [sumL] using this
theorem sumL_nil_left (q : List Sp) : sumL [] q = [] := rfl
theorem sumRaw_nil_right : ∀ p : List Sp, sumRaw p [] = []
  | [] => rfl
  | a :: p => by
    have : sumRaw (a :: p) [] = [] ++ sumRaw p [] := rfl
    rw [this, sumRaw_nil_right p]; rfl

/-- a list in order whose spots are all in another one is no longer -/
theorem length_le_of_sub {c s : List Sp} (hc : Sorted c) (hs : Sorted s) (h : ∀ x ∈ c, x ∈ s) : c.length ≤ s.length := by
  have e : c = common s c := sorted_ext hc (sorted_common hs) fun x => by
    rw [mem_common]
    exact ⟨fun hx => ⟨h x hx, hx⟩, fun hx => hx.2⟩
  rw [e]
  exact length_common_le s c
theorem lt_add_left {a b c : Sp} (h : Lt b c) : Lt (addS a b) (addS a c) := by unfold Lt addS at *; simp only []; omega
theorem lt_add_right {a b c : Sp} (h : Lt b c) : Lt (addS b a) (addS c a) := by unfold Lt addS at *; simp only []; omega
theorem last_ge : ∀ {q : List Sp} (hq : q ≠ []), Sorted q → ∀ b ∈ q, b = q.getLast hq ∨ Lt b (q.getLast hq)
  | [a], _, _, b, hb => by
    rw [List.mem_singleton] at hb; exact .inl hb
  | a :: c :: q, hq, hs, b, hb => by
    rw [List.getLast_cons (by simp)]
    have hs' := List.pairwise_cons.1 hs
    rcases List.mem_cons.1 hb with rfl | hb
    · exact .inr (hs'.1 _ (List.getLast_mem _))
    · exact last_ge (by simp) hs'.2 b hb
theorem length_sumL_ge {p q : List Sp} (hp : Sorted p) (hq : Sorted q) (p0 : p ≠ []) (q0 : q ≠ []) : p.length + q.length ≤ (sumL p q).length + 1 := by
  match p, p0, hp with
  | a :: p, _, hp =>
    obtain ⟨hp1, hp2⟩ := List.pairwise_cons.1 hp
    have hc : Sorted (q.map (addS a) ++ p.map fun x => addS x (q.getLast q0)) := by
      refine List.pairwise_append.2 ⟨List.Pairwise.map _ (fun _ _ h => lt_add_left h) hq, List.Pairwise.map _ (fun _ _ h => lt_add_right h) hp2, fun x hx y hy => ?_⟩
      obtain ⟨b, hb, rfl⟩ := List.mem_map.1 hx
      obtain ⟨c, hc, rfl⟩ := List.mem_map.1 hy
      have h2 := lt_add_right (a := q.getLast q0) (hp1 c hc)
      rcases last_ge q0 hq b hb with e | h
      · rw [← e] at h2 ⊢; exact h2
      · exact lt_trans (lt_add_left h) h2
    have := length_le_of_sub hc (sorted_sumL (a :: p) q) fun x hx => by
      rw [mem_sumL]
      rcases List.mem_append.1 hx with hx | hx
      · obtain ⟨b, hb, rfl⟩ := List.mem_map.1 hx
        exact ⟨a, b, List.mem_cons_self .., hb, rfl⟩
      · obtain ⟨c, hc, rfl⟩ := List.mem_map.1 hx
        exact ⟨c, _, List.mem_cons_of_mem _ hc, List.getLast_mem q0, rfl⟩
    simp at this ⊢
    omega

/-- each two, not told which comes first -/
def pairs : List Sp → List Sp
  | [] => []
  | a :: p => (a :: p).map (addS a) ++ pairs p
theorem mem_pairs : ∀ {p : List Sp} {x : Sp}, x ∈ pairs p ↔ ∃ a b, a ∈ p ∧ b ∈ p ∧ x = addS a b
  | [], x => by simp [pairs]
  | c :: p, x => by
    unfold pairs
    rw [List.mem_append, mem_pairs]
    constructor
    · rintro (h | ⟨a, b, ha, hb, rfl⟩)
      · obtain ⟨b, hb, rfl⟩ := List.mem_map.1 h
        exact ⟨c, b, List.mem_cons_self .., hb, rfl⟩
      · exact ⟨a, b, List.mem_cons_of_mem _ ha, List.mem_cons_of_mem _ hb, rfl⟩
    · rintro ⟨a, b, ha, hb, rfl⟩
      rcases List.mem_cons.1 ha with e | ha2
      · rw [e]; exact .inl (List.mem_map.2 ⟨b, hb, rfl⟩)
      · rcases List.mem_cons.1 hb with e | hb2
        · rw [e]; exact .inl (List.mem_map.2 ⟨a, List.mem_cons_of_mem _ ha2, addS_comm _ _⟩)
        · exact .inr ⟨a, b, ha2, hb2, rfl⟩
theorem length_pairs : ∀ p : List Sp, (pairs p).length * 2 = p.length * (p.length + 1)
  | [] => rfl
  | a :: p => by
    have ih := length_pairs p
    unfold pairs
    rw [List.length_append, List.length_map, Nat.add_mul, ih, List.length_cons]
    generalize p.length = n
    show (n + 1) * 2 + n * (n + 1) = (n + 1) * (n + 2)
    have e1 := Nat.mul_add (n + 1) n 2
    have e2 := Nat.mul_comm n (n + 1)
    omega
theorem length_doubled_le (p : List Sp) : (sumL p p).length ≤ p.length * (p.length + 1) / 2 := by
  have e : sumL p p = puts [] (pairs p) := sorted_ext (sorted_sumL _ _) (sorted_puts List.Pairwise.nil) fun x => by
    rw [mem_sumL, mem_puts, mem_pairs]; simp
  have h := length_puts_le (pairs p) []
  have h2 := length_pairs p
  rw [e, ← h2]
  simp at h
  omega
theorem mem_doubled {p : List Sp} {a : Sp} (h : a ∈ p) : (2 * a.1, 2 * a.2) ∈ sumL p p :=
  mem_sumL.2 ⟨a, a, h, h, by unfold addS; apply sp_ext <;> simp only [] <;> omega⟩
theorem length_doubled_one {p : List Sp} (h : p.length = 1) : (sumL p p).length = 1 := by
  have h1 := length_sumL_le p p
  match p, h with
  | [a], _ =>
    have := List.length_pos_of_mem (mem_doubled (p := [a]) (a := a) (List.mem_cons_self ..))
    simp at h1
    omega

/-! ### differences -/
def diffL (p : List Sp) : List Sp := sumL p (turned p)
theorem mem_turned {p : List Sp} {x : Sp} : x ∈ turned p ↔ ∃ a ∈ p, x = (-a.1, -a.2) := by
  unfold turned
  rw [List.mem_reverse, List.mem_map]
  exact ⟨fun ⟨a, h, e⟩ => ⟨a, h, e.symm⟩, fun ⟨a, h, e⟩ => ⟨a, h, e.symm⟩⟩
theorem mem_diffL {p : List Sp} {x : Sp} : x ∈ diffL p ↔ ∃ a b, a ∈ p ∧ b ∈ p ∧ x = (a.1 - b.1, a.2 - b.2) := by
  unfold diffL
  rw [mem_sumL]
  constructor
  · rintro ⟨a, b, ha, hb, rfl⟩
    obtain ⟨c, hc, rfl⟩ := mem_turned.1 hb
    exact ⟨a, c, ha, hc, rfl⟩
  · rintro ⟨a, b, ha, hb, rfl⟩
    exact ⟨a, _, ha, mem_turned.2 ⟨b, hb, rfl⟩, rfl⟩
theorem sorted_diffL (p : List Sp) : Sorted (diffL p) := sorted_sumL _ _
theorem turned_diffL (p : List Sp) : turned (diffL p) = diffL p := sorted_ext (sorted_turned (sorted_diffL p)) (sorted_diffL p) fun x => by
  rw [mem_turned]
  constructor
  · rintro ⟨c, hc, rfl⟩
    obtain ⟨a, b, ha, hb, rfl⟩ := mem_diffL.1 hc
    exact mem_diffL.2 ⟨b, a, hb, ha, by apply sp_ext <;> simp only [] <;> omega⟩
  · intro h
    obtain ⟨a, b, ha, hb, rfl⟩ := mem_diffL.1 h
    exact ⟨_, mem_diffL.2 ⟨b, a, hb, ha, rfl⟩, by apply sp_ext <;> simp only [] <;> omega⟩
theorem diffL_moved (p : List Sp) (c : Sp) : diffL (moved p c) = diffL p := sorted_ext (sorted_diffL _) (sorted_diffL _) fun x => by
  rw [mem_diffL, mem_diffL]
  unfold moved
  constructor
  · rintro ⟨a, b, ha, hb, rfl⟩
    obtain ⟨a2, ha2, rfl⟩ := List.mem_map.1 ha
    obtain ⟨b2, hb2, rfl⟩ := List.mem_map.1 hb
    exact ⟨a2, b2, ha2, hb2, by apply sp_ext <;> simp only [] <;> omega⟩
  · rintro ⟨a, b, ha, hb, rfl⟩
    exact ⟨_, _, List.mem_map.2 ⟨a, ha, rfl⟩, List.mem_map.2 ⟨b, hb, rfl⟩, by apply sp_ext <;> simp only [] <;> omega⟩
theorem zero_diffL {p : List Sp} : (0, 0) ∈ diffL p ↔ p ≠ [] := by
  rw [mem_diffL]
  constructor
  · rintro ⟨a, b, ha, hb, _⟩ e
    rw [e] at ha; cases ha
  · intro h
    match p, h with
    | a :: p, _ => exact ⟨a, a, List.mem_cons_self .., List.mem_cons_self .., by apply sp_ext <;> simp only [] <;> omega⟩
/-- what is the same turned, and has the spot 0, 0, has an odd number of spots -/
theorem odd_of_turned {l : List Sp} (hs : Sorted l) (ht : turned l = l) (h0 : (0, 0) ∈ l) : l.length % 2 = 1 := by
  obtain ⟨i, hi⟩ := List.mem_iff_getElem?.1 h0
  have hil := (List.getElem?_eq_some_iff.1 hi).1
  have hj : l[l.length - 1 - i]? = some (0, 0) := by
    have h1 : (turned l)[l.length - 1 - i]? = some (0, 0) := by
      unfold turned
      rw [List.getElem?_reverse (by simp; omega), List.length_map, List.getElem?_map, show l.length - 1 - (l.length - 1 - i) = i by omega, hi]
      rfl
    rwa [ht] at h1
  rcases Nat.lt_trichotomy i (l.length - 1 - i) with h | h | h
  · exact absurd (steps_of_sorted hs h hi hj) (lt_irrefl _)
  · omega
  · exact absurd (steps_of_sorted hs h hj hi) (lt_irrefl _)
theorem diffL_nil : diffL [] = [] := rfl
theorem length_diffL (p : List Sp) : (diffL p).length % 2 = min p.length 1 := by
  by_cases h : p = []
  · subst h; rfl
  · have := odd_of_turned (sorted_diffL p) (turned_diffL p) (zero_diffL.2 h)
    have : 0 < p.length := List.length_pos_iff.2 h
    omega

/-! ### boxes -/
def lowS (a b : Sp) : Sp := (min a.1 b.1, min a.2 b.2)
def highS (a b : Sp) : Sp := (max a.1 b.1, max a.2 b.2)
/-- lo and hi are the corners of p -/
structure IsBox (p : List Sp) (lo hi : Sp) : Prop where
  all : ∀ a ∈ p, lo.1 ≤ a.1 ∧ lo.2 ≤ a.2 ∧ a.1 ≤ hi.1 ∧ a.2 ≤ hi.2
  lx : ∃ a ∈ p, a.1 = lo.1
  ly : ∃ a ∈ p, a.2 = lo.2
  hx : ∃ a ∈ p, a.1 = hi.1
  hy : ∃ a ∈ p, a.2 = hi.2
theorem IsBox.one {p : List Sp} {lo hi lo' hi' : Sp} (h : IsBox p lo hi) (k : IsBox p lo' hi') : lo = lo' ∧ hi = hi' := by
  obtain ⟨a, ha, e1⟩ := h.lx
  obtain ⟨b, hb, e2⟩ := h.ly
  obtain ⟨c, hc, e3⟩ := h.hx
  obtain ⟨d, hd, e4⟩ := h.hy
  obtain ⟨a', ha', e1'⟩ := k.lx
  obtain ⟨b', hb', e2'⟩ := k.ly
  obtain ⟨c', hc', e3'⟩ := k.hx
  obtain ⟨d', hd', e4'⟩ := k.hy
  have := h.all _ ha'; have := h.all _ hb'; have := h.all _ hc'; have := h.all _ hd'
  have := k.all _ ha; have := k.all _ hb; have := k.all _ hc; have := k.all _ hd
  exact ⟨sp_ext (by omega) (by omega), sp_ext (by omega) (by omega)⟩
theorem IsBox.start (a : Sp) : IsBox [a] a a :=
  ⟨fun b hb => by rw [List.mem_singleton] at hb; subst hb; omega, ⟨a, by simp, rfl⟩, ⟨a, by simp, rfl⟩, ⟨a, by simp, rfl⟩, ⟨a, by simp, rfl⟩⟩
theorem IsBox.more {p : List Sp} {lo hi : Sp} (h : IsBox p lo hi) (b : Sp) : IsBox (p ++ [b]) (lowS lo b) (highS hi b) := by
  obtain ⟨a1, ha1, e1⟩ := h.lx
  obtain ⟨a2, ha2, e2⟩ := h.ly
  obtain ⟨a3, ha3, e3⟩ := h.hx
  obtain ⟨a4, ha4, e4⟩ := h.hy
  have m : ∀ {x}, x ∈ p → x ∈ p ++ [b] := fun hx => List.mem_append_left _ hx
  have mb : b ∈ p ++ [b] := by simp
  unfold lowS highS
  refine ⟨fun a ha => ?_, ?_, ?_, ?_, ?_⟩
  · simp only []
    rcases List.mem_append.1 ha with ha | ha
    · have := h.all a ha; omega
    · rw [List.mem_singleton] at ha; subst ha; omega
  · rcases Int.le_total lo.1 b.1 with k | k
    · exact ⟨a1, m ha1, by simp only []; omega⟩
    · exact ⟨b, mb, by simp only []; omega⟩
  · rcases Int.le_total lo.2 b.2 with k | k
    · exact ⟨a2, m ha2, by simp only []; omega⟩
    · exact ⟨b, mb, by simp only []; omega⟩
  · rcases Int.le_total b.1 hi.1 with k | k
    · exact ⟨a3, m ha3, by simp only []; omega⟩
    · exact ⟨b, mb, by simp only []; omega⟩
  · rcases Int.le_total b.2 hi.2 with k | k
    · exact ⟨a4, m ha4, by simp only []; omega⟩
    · exact ⟨b, mb, by simp only []; omega⟩
theorem IsBox.sum {p q : List Sp} {lo hi lo' hi' : Sp} (h : IsBox p lo hi) (k : IsBox q lo' hi') : IsBox (sumL p q) (addS lo lo') (addS hi hi') := by
  obtain ⟨a1, ha1, e1⟩ := h.lx
  obtain ⟨a2, ha2, e2⟩ := h.ly
  obtain ⟨a3, ha3, e3⟩ := h.hx
  obtain ⟨a4, ha4, e4⟩ := h.hy
  obtain ⟨b1, hb1, f1⟩ := k.lx
  obtain ⟨b2, hb2, f2⟩ := k.ly
  obtain ⟨b3, hb3, f3⟩ := k.hx
  obtain ⟨b4, hb4, f4⟩ := k.hy
  refine ⟨fun x hx => ?_, ⟨_, mem_sumL.2 ⟨a1, b1, ha1, hb1, rfl⟩, ?_⟩, ⟨_, mem_sumL.2 ⟨a2, b2, ha2, hb2, rfl⟩, ?_⟩, ⟨_, mem_sumL.2 ⟨a3, b3, ha3, hb3, rfl⟩, ?_⟩, ⟨_, mem_sumL.2 ⟨a4, b4, ha4, hb4, rfl⟩, ?_⟩⟩
  · obtain ⟨a, b, ha, hb, rfl⟩ := mem_sumL.1 hx
    have := h.all a ha
    have := k.all b hb
    unfold addS
    simp only []
    omega
  all_goals (unfold addS; simp only []; omega)
/-- the corners, by going through the list -/
def boxF : Sp → Sp → List Sp → Sp × Sp
  | lo, hi, [] => (lo, hi)
  | lo, hi, a :: p => boxF (lowS lo a) (highS hi a) p
theorem isBox_boxF : ∀ (p r : List Sp) (lo hi : Sp), IsBox r lo hi → IsBox (r ++ p) (boxF lo hi p).1 (boxF lo hi p).2
  | [], r, lo, hi, h => by rw [List.append_nil]; exact h
  | a :: p, r, lo, hi, h => by
    have := isBox_boxF p (r ++ [a]) (lowS lo a) (highS hi a) (h.more a)
    rw [List.append_assoc] at this
    exact this
def boxL : List Sp → Sp × Sp
  | [] => ((0, 0), (0, 0))
  | a :: p => boxF a a p
theorem isBox_boxL {p : List Sp} (h : p ≠ []) : IsBox p (boxL p).1 (boxL p).2 := by
  match p, h with
  | a :: p, _ => exact isBox_boxF p [a] a a (IsBox.start a)
theorem boxL_sum {p q : List Sp} (hp : p ≠ []) (hq : q ≠ []) : boxL (sumL p q) = (addS (boxL p).1 (boxL q).1, addS (boxL p).2 (boxL q).2) := by
  have h := (isBox_boxL hp).sum (isBox_boxL hq)
  have h0 : sumL p q ≠ [] := by
    obtain ⟨a, ha, _⟩ := h.lx
    intro e; rw [e] at ha; cases ha
  obtain ⟨e1, e2⟩ := (isBox_boxL h0).one h
  rw [← e1, ← e2]
/-! ### SumU -/
/-- a is in reach of an int's exact sums -/
def Near (a : Sp) : Prop := -1000 ≤ a.1 ∧ a.1 ≤ 1000 ∧ -1000 ≤ a.2 ∧ a.2 ≤ 1000
theorem near_of {a : Sp} (h : InR a) : Near a := by unfold InR at h; unfold Near; omega
/-- what has been added behind acc when k spots have been gone through -/
def accum (acc qs : List Sp) (a : Sp) (k : Nat) : List Sp := acc ++ (qs.take k).map (addS a)
theorem accum_zero (acc qs : List Sp) (a : Sp) : accum acc qs a 0 = acc := by simp [accum]
theorem accum_all (acc qs : List Sp) (a : Sp) : accum acc qs a qs.length = acc ++ qs.map (addS a) := by simp [accum]
theorem accum_succ {acc qs : List Sp} {a : Sp} {k : Nat} {x y : Int} (h : qs[k]? = some (x, y)) : accum acc qs a k ++ [(a.1 + x, a.2 + y)] = accum acc qs a (k + 1) := by
  unfold accum
  rw [List.take_add_one, h, List.append_assoc]; simp [addS]
theorem length_accum (acc qs : List Sp) (a : Sp) (k : Nat) : (accum acc qs a k).length ≤ acc.length + qs.length := by
  unfold accum; simp; omega
def sumUpto (ps qs : List Sp) (k : Nat) : List Sp := sumRaw (ps.take k) qs
theorem sumUpto_all (ps qs : List Sp) : sumUpto ps qs ps.length = sumRaw ps qs := by unfold sumUpto; rw [List.take_length]
theorem sumUpto_succ {ps qs : List Sp} {k : Nat} {a : Sp} (h : ps[k]? = some a) : sumUpto ps qs k ++ qs.map (addS a) = sumUpto ps qs (k + 1) := by
  unfold sumUpto sumRaw
  rw [List.take_add_one, h, List.flatMap_append]; simp
theorem length_sumUpto (ps qs : List Sp) (k : Nat) (hk : k ≤ ps.length) : (sumUpto ps qs k).length ≤ ps.length * qs.length := by
  unfold sumUpto
  rw [length_sumRaw, List.length_take]
  exact Nat.mul_le_mul_right _ (by omega)
/-! ### Ans -/
def sumOk (p q : List Sp) : Bool := picB p && picB q && picB (sumL p q)
def sumR (p q : List Sp) : List Sp := if sumOk p q then sumL p q else []
theorem sum_no1 {p q : List Sp} (h : picB p = false) : sumOk p q = false ∧ sumR p q = [] := by
  have : sumOk p q = false := by unfold sumOk; rw [h]; rfl
  exact ⟨this, by unfold sumR; rw [this]; rfl⟩
theorem sum_no2 {p q : List Sp} (h : picB q = false) : sumOk p q = false ∧ sumR p q = [] := by
  have : sumOk p q = false := by unfold sumOk; rw [h]; simp
  exact ⟨this, by unfold sumR; rw [this]; rfl⟩
theorem sum_no3 {p q : List Sp} (h : picB (sumL p q) = false) : sumOk p q = false ∧ sumR p q = [] := by
  have : sumOk p q = false := by unfold sumOk; rw [h]; simp
  exact ⟨this, by unfold sumR; rw [this]; rfl⟩
theorem sum_yes {p q : List Sp} (h1 : picB p = true) (h2 : picB q = true) (h3 : picB (sumL p q) = true) : sumOk p q = true ∧ sumR p q = sumL p q := by
  have : sumOk p q = true := by unfold sumOk; rw [h1, h2, h3]; rfl
  exact ⟨this, by unfold sumR; rw [this]; rfl⟩

def bothB (p q : List Sp) : Bool := picB p && picB q
def unionOk (p q : List Sp) : Bool := bothB p q && decide ((puts p q).length ≤ 60)
def unionL (p q : List Sp) : List Sp := if unionOk p q then puts p q else []
def commonL (p q : List Sp) : List Sp := if bothB p q then common p q else []
def withinB (p q : List Sp) : Bool := bothB p q && decide ((common p q).length = p.length)
theorem bothB_l {p q : List Sp} (h : picB p = false) : bothB p q = false := by unfold bothB; rw [h]; rfl
theorem bothB_r {p q : List Sp} (h : picB q = false) : bothB p q = false := by unfold bothB; rw [h, Bool.and_false]
theorem bothB_y {p q : List Sp} (h : picB p = true) (k : picB q = true) : bothB p q = true := by unfold bothB; rw [h, k]; rfl
theorem union_no {p q : List Sp} (h : bothB p q = false) : unionOk p q = false ∧ unionL p q = [] := by
  have : unionOk p q = false := by unfold unionOk; rw [h]; rfl
  exact ⟨this, by unfold unionL; rw [this]; rfl⟩
theorem union_big {p q : List Sp} (h : ¬ (puts p q).length ≤ 60) : unionOk p q = false ∧ unionL p q = [] := by
  have : unionOk p q = false := by unfold unionOk; rw [decide_eq_false h, Bool.and_false]
  exact ⟨this, by unfold unionL; rw [this]; rfl⟩
theorem union_yes {p q : List Sp} (h : bothB p q = true) (k : (puts p q).length ≤ 60) : unionOk p q = true ∧ unionL p q = puts p q := by
  have : unionOk p q = true := by unfold unionOk; rw [h, decide_eq_true k]; rfl
  exact ⟨this, by unfold unionL; rw [this]; rfl⟩
theorem common_no {p q : List Sp} (h : bothB p q = false) : commonL p q = [] := by unfold commonL; rw [h]; rfl
theorem common_yes {p q : List Sp} (h : bothB p q = true) : commonL p q = common p q := by unfold commonL; rw [h]; rfl

theorem picB_puts {p q : List Sp} (hp : Pic p) (hq : Pic q) (h : (puts p q).length ≤ 60) : picB (puts p q) = true :=
  decide_eq_true ⟨h, fun a ha => (mem_puts.1 ha).elim (hp.2.1 a) (hq.2.1 a), sorted_puts hp.2.2⟩
theorem picB_puts_no {p q : List Sp} (h : ¬ (puts p q).length ≤ 60) : picB (puts p q) = false := decide_eq_false fun k => h k.1
theorem within_no {p q : List Sp} (h : bothB p q = false) : withinB p q = false := by unfold withinB; rw [h]; rfl
theorem within_yes {p q : List Sp} (h : bothB p q = true) : withinB p q = decide ((common p q).length = p.length) := by unfold withinB; rw [h]; rfl

def hasB (ps : List Sp) (a : Sp) : Bool := picB ps && decide (a ∈ ps)
theorem hasB_no {ps : List Sp} {a : Sp} (h : picB ps = false) : hasB ps a = false := by unfold hasB; rw [h]; rfl
theorem hasB_yes {ps : List Sp} {a : Sp} (h : picB ps = true) : hasB ps a = decide (a ∈ ps) := by unfold hasB; rw [h]; rfl
/-! ### Dedup -/
/-- of the first j spots those that are not the spot before -/
def dd (l : List Sp) : Nat → List Sp
  | 0 => []
  | j + 1 => dd l j ++ (if 0 < j ∧ l.getD (j - 1) (0, 0) = l.getD j (0, 0) then [] else [l.getD j (0, 0)])
/-- no spot is before an earlier one -/
def WS (l : List Sp) : Prop := ∀ i j, i < j → j < l.length → ¬ Lt (l.getD j (0, 0)) (l.getD i (0, 0))

theorem dd_dup {l : List Sp} {j : Nat} (h0 : 0 < j) (h : l.getD (j - 1) (0, 0) = l.getD j (0, 0)) : dd l (j + 1) = dd l j := by
  unfold dd; rw [if_pos ⟨h0, h⟩, List.append_nil]; cases j <;> rfl
theorem dd_new {l : List Sp} {j : Nat} (h : j = 0 ∨ l.getD (j - 1) (0, 0) ≠ l.getD j (0, 0)) : dd l (j + 1) = dd l j ++ [l.getD j (0, 0)] := by
  have hn : ¬ (0 < j ∧ l.getD (j - 1) (0, 0) = l.getD j (0, 0)) := by
    rintro ⟨h0, h1⟩
    rcases h with h | h
    · omega
    · exact h h1
  rw [dd, if_neg hn]
theorem mem_dd {l : List Sp} {x : Sp} : ∀ {j : Nat}, x ∈ dd l j ↔ ∃ i, i < j ∧ l.getD i (0, 0) = x
  | 0 => by simp [dd]
  | j + 1 => by
    by_cases h : 0 < j ∧ l.getD (j - 1) (0, 0) = l.getD j (0, 0)
    · rw [dd_dup h.1 h.2, mem_dd]
      constructor
      · rintro ⟨i, hi, e⟩; exact ⟨i, by omega, e⟩
      · rintro ⟨i, hi, e⟩
        by_cases e' : i = j
        · subst e'; exact ⟨i - 1, by omega, h.2.trans e⟩
        · exact ⟨i, by omega, e⟩
    · rw [dd_new (by by_cases h0 : j = 0; exact .inl h0; exact .inr fun e => h ⟨by omega, e⟩), List.mem_append, mem_dd, List.mem_singleton]
      constructor
      · rintro (⟨i, hi, e⟩ | e)
        · exact ⟨i, by omega, e⟩
        · exact ⟨j, by omega, e.symm⟩
      · rintro ⟨i, hi, e⟩
        by_cases e' : i = j
        · subst e'; exact .inr e.symm
        · exact .inl ⟨i, by omega, e⟩
theorem length_dd_le (l : List Sp) : ∀ j, (dd l j).length ≤ j
  | 0 => Nat.le_refl _
  | j + 1 => by
    have := length_dd_le l j
    unfold dd
    split <;> simp <;> omega
theorem sorted_dd {l : List Sp} (hw : WS l) : ∀ {j : Nat}, j ≤ l.length → Sorted (dd l j)
  | 0, _ => List.Pairwise.nil
  | j + 1, hj => by
    have ih := sorted_dd hw (j := j) (by omega)
    by_cases h : 0 < j ∧ l.getD (j - 1) (0, 0) = l.getD j (0, 0)
    · rw [dd_dup h.1 h.2]; exact ih
    · have h' : j = 0 ∨ l.getD (j - 1) (0, 0) ≠ l.getD j (0, 0) := by
        by_cases h0 : j = 0
        · exact .inl h0
        · exact .inr fun e => h ⟨by omega, e⟩
      rw [dd_new h']
      refine List.pairwise_append.2 ⟨ih, List.pairwise_singleton _ _, fun x hx y hy => ?_⟩
      rw [List.mem_singleton] at hy
      subst hy
      obtain ⟨i, hi, rfl⟩ := mem_dd.1 hx
      rcases h' with h0 | hne
      · omega
      · have hl : Lt (l.getD (j - 1) (0, 0)) (l.getD j (0, 0)) := by
          rcases lt_total (l.getD (j - 1) (0, 0)) (l.getD j (0, 0)) with k | k | k
          · exact k
          · exact absurd k hne
          · exact absurd k (hw _ _ (by omega) (by omega))
        by_cases e : i = j - 1
        · rw [e]; exact hl
        · rcases lt_total (l.getD i (0, 0)) (l.getD (j - 1) (0, 0)) with k | k | k
          · exact lt_trans k hl
          · rw [k]; exact hl
          · exact absurd k (hw _ _ (by omega) (by omega))
theorem mem_getD {l : List Sp} {x : Sp} : x ∈ l ↔ ∃ i, i < l.length ∧ l.getD i (0, 0) = x := by
  constructor
  · intro h
    obtain ⟨i, hi⟩ := List.mem_iff_getElem?.1 h
    exact ⟨i, (List.getElem?_eq_some_iff.1 hi).1, by rw [List.getD_eq_getElem?_getD, hi]; rfl⟩
  · rintro ⟨i, hi, rfl⟩
    exact getD_mem hi
/-- put in order, each of them once -/
theorem dd_sum {l p q : List Sp} (hw : WS l) (h : ∀ x, x ∈ l ↔ x ∈ sumRaw p q) : dd l l.length = sumL p q :=
  sorted_ext (sorted_dd hw (Nat.le_refl _)) (sorted_sumL p q) fun x => by
    rw [mem_dd, ← mem_getD, h, mem_sumRaw, mem_sumL]
theorem dd_all {l : List Sp} : ∀ {k : Nat}, k ≤ l.length → (∀ j, 0 < j → j < k → l.getD (j - 1) (0, 0) ≠ l.getD j (0, 0)) → dd l k = l.take k
  | 0, _, _ => by simp [dd]
  | k + 1, hk, h => by
    rw [dd_new (by by_cases h0 : k = 0; exact .inl h0; exact .inr (h k (by omega) (by omega))), dd_all (by omega) fun j h0 hj => h j h0 (by omega), List.take_add_one, getD_some (by omega)]
    rfl
/-! ### Shrinks -/
/-- all spots at which q, moved there, is within p: those that the first spot of q allows are tried -/
def shrinkL (p : List Sp) : List Sp → List Sp
  | [] => []
  | c :: q => (p.map fun b => ((b.1 - c.1, b.2 - c.2) : Sp)).filter fun a => decide (∀ d ∈ c :: q, addS d a ∈ p)
theorem mem_shrinkL {p q : List Sp} (hq : q ≠ []) {x : Sp} : x ∈ shrinkL p q ↔ ∀ d ∈ q, addS d x ∈ p := by
  match q, hq with
  | c :: q, _ =>
    unfold shrinkL
    rw [List.mem_filter, decide_eq_true_eq]
    constructor
    · exact fun h => h.2
    · intro h
      refine ⟨List.mem_map.2 ⟨_, h c (List.mem_cons_self ..), ?_⟩, h⟩
      unfold addS; apply sp_ext <;> simp only [] <;> omega
theorem sorted_shrinkL {p : List Sp} (hp : Sorted p) (q : List Sp) : Sorted (shrinkL p q) := by
  match q with
  | [] => exact List.Pairwise.nil
  | c :: q => exact sorted_filter (List.Pairwise.map _ (fun a b h => by unfold Lt at *; simp only []; omega) hp) _
theorem length_shrinkL_le (p q : List Sp) : (shrinkL p q).length ≤ p.length := by
  match q with
  | [] => exact Nat.zero_le _
  | c :: q => exact Nat.le_trans (List.length_filter_le _ _) (by rw [List.length_map]; exact Nat.le_refl _)

def Sub (a b : List Sp) : Prop := ∀ x ∈ a, x ∈ b
theorem sub_refl (a : List Sp) : Sub a a := fun _ h => h
theorem sub_trans {a b c : List Sp} (h : Sub a b) (k : Sub b c) : Sub a c := fun x hx => k x (h x hx)
theorem sub_both {a b : List Sp} (ha : Sorted a) (hb : Sorted b) (h : Sub a b) (k : Sub b a) : a = b := sorted_ext ha hb fun x => ⟨h x, k x⟩
/-- growing and shrinking belong together -/
theorem adjoint {a p q : List Sp} (hq : q ≠ []) : Sub (sumL a q) p ↔ Sub a (shrinkL p q) := by
  constructor
  · intro h x hx
    rw [mem_shrinkL hq]
    intro d hd
    exact h _ (mem_sumL.2 ⟨x, d, hx, hd, addS_comm d x⟩)
  · intro h x hx
    obtain ⟨y, d, hy, hd, rfl⟩ := mem_sumL.1 hx
    have := (mem_shrinkL hq).1 (h y hy) d hd
    rwa [addS_comm] at this
theorem sum_mono {a b q : List Sp} (h : Sub a b) : Sub (sumL a q) (sumL b q) := fun x hx => by
  obtain ⟨y, d, hy, hd, rfl⟩ := mem_sumL.1 hx
  exact mem_sumL.2 ⟨y, d, h y hy, hd, rfl⟩
theorem shrink_mono {p r q : List Sp} (hq : q ≠ []) (h : Sub p r) : Sub (shrinkL p q) (shrinkL r q) := fun x hx => by
  rw [mem_shrinkL hq] at hx ⊢
  exact fun d hd => h _ (hx d hd)
/-- what grows and shrinks has the picture -/
theorem sub_closed {p q : List Sp} (hq : q ≠ []) : Sub p (shrinkL (sumL p q) q) := (adjoint hq).1 (sub_refl _)
/-- what shrinks and grows is within the picture -/
theorem opened_sub {p q : List Sp} (hq : q ≠ []) : Sub (sumL (shrinkL p q) q) p := (adjoint hq).2 (sub_refl _)
theorem sum_shrink_sum {p q : List Sp} (hq : q ≠ []) : sumL (shrinkL (sumL p q) q) q = sumL p q :=
  sub_both (sorted_sumL _ _) (sorted_sumL _ _) (opened_sub hq) (sum_mono (sub_closed hq))
theorem shrink_sum_shrink {p q : List Sp} (hp : Sorted p) (hq : q ≠ []) : shrinkL (sumL (shrinkL p q) q) q = shrinkL p q :=
  sub_both (sorted_shrinkL (sorted_sumL _ _) _) (sorted_shrinkL hp _) (shrink_mono hq (opened_sub hq)) (sub_closed hq)
/-- grown and shrunk again it is the same -/
theorem closed_twice {p q : List Sp} (hq : q ≠ []) : shrinkL (sumL (shrinkL (sumL p q) q) q) q = shrinkL (sumL p q) q := by rw [sum_shrink_sum hq]
/-- shrunk and grown again it is the same -/
theorem opened_twice {p q : List Sp} (hp : Sorted p) (hq : q ≠ []) : sumL (shrinkL (sumL (shrinkL p q) q) q) q = sumL (shrinkL p q) q := by rw [shrink_sum_shrink hp hq]
/-- what fits is within, moved -/
theorem fits {p q : List Sp} (hq : q ≠ []) {a : Sp} : a ∈ shrinkL p q ↔ Sub (moved q a) p := by
  rw [mem_shrinkL hq]
  unfold moved Sub
  constructor
  · intro h x hx
    obtain ⟨d, hd, rfl⟩ := List.mem_map.1 hx
    exact h d hd
  · intro h d hd
    exact h _ (List.mem_map.2 ⟨d, hd, rfl⟩)
/-- shrunk by one spot it is moved back -/
theorem shrink_one (p : List Sp) (c : Sp) : shrinkL p [c] = moved p (-c.1, -c.2) := by
  have e : (p.map fun b => ((b.1 - c.1, b.2 - c.2) : Sp)) = moved p (-c.1, -c.2) := by
    unfold moved
    exact List.map_congr_left fun b _ => by apply sp_ext <;> simp only [] <;> omega
  show ((p.map fun b => ((b.1 - c.1, b.2 - c.2) : Sp)).filter fun a => decide (∀ d ∈ [c], addS d a ∈ p)) = _
  rw [e]
  refine List.filter_eq_self.2 fun a ha => ?_
  rw [decide_eq_true_eq]
  unfold moved at ha
  obtain ⟨b, hb, rfl⟩ := List.mem_map.1 ha
  intro d hd
  rw [List.mem_singleton] at hd
  subst hd
  have : addS d (b.1 + (-d.1, -d.2).1, b.2 + (-d.1, -d.2).2) = b := by unfold addS; apply sp_ext <;> simp only [] <;> omega
  rw [this]; exact hb
/-! ### Betw -/
/-- of a row from x on, the first n that the rule allows -/
def rowB (f : Sp → Bool) (x y : Int) (n : Nat) : List Sp := ((List.range n).map fun k : Nat => ((x + (k : Int), y) : Sp)).filter f
/-- the first m rows from y on, each of n -/
def rowsB (f : Sp → Bool) (x y : Int) (n m : Nat) : List Sp := (List.range m).flatMap fun j : Nat => rowB f x (y + (j : Int)) n
theorem rowB_zero (f : Sp → Bool) (x y : Int) : rowB f x y 0 = [] := rfl
theorem rowsB_zero (f : Sp → Bool) (x y : Int) (n : Nat) : rowsB f x y n 0 = [] := rfl
theorem rowB_succ (f : Sp → Bool) (x y : Int) (n : Nat) : rowB f x y (n + 1) = rowB f x y n ++ (if f (x + (n : Int), y) then [(x + (n : Int), y)] else []) := by
  unfold rowB
  rw [List.range_succ, List.map_append, List.filter_append]
  congr 1
  simp only [List.map_cons, List.map_nil, List.filter_cons, List.filter_nil]
theorem rowsB_succ (f : Sp → Bool) (x y : Int) (n m : Nat) : rowsB f x y n (m + 1) = rowsB f x y n m ++ rowB f x (y + (m : Int)) n := by
  unfold rowsB
  rw [List.range_succ, List.flatMap_append]; simp
theorem mem_rowB {f : Sp → Bool} {x y : Int} {n : Nat} {a : Sp} : a ∈ rowB f x y n ↔ a.2 = y ∧ x ≤ a.1 ∧ a.1 < x + (n : Int) ∧ f a = true := by
  unfold rowB
  rw [List.mem_filter, List.mem_map]
  constructor
  · rintro ⟨⟨k, hk, rfl⟩, hf⟩
    rw [List.mem_range] at hk
    exact ⟨rfl, by simp only []; omega, by simp only []; omega, hf⟩
  · rintro ⟨h1, h2, h3, hf⟩
    refine ⟨⟨(a.1 - x).toNat, by rw [List.mem_range]; omega, ?_⟩, hf⟩
    apply sp_ext <;> simp only [] <;> omega
theorem mem_rowsB {f : Sp → Bool} {x y : Int} {n m : Nat} {a : Sp} : a ∈ rowsB f x y n m ↔ y ≤ a.2 ∧ a.2 < y + (m : Int) ∧ x ≤ a.1 ∧ a.1 < x + (n : Int) ∧ f a = true := by
  unfold rowsB
  rw [List.mem_flatMap]
  constructor
  · rintro ⟨j, hj, ha⟩
    rw [List.mem_range] at hj
    obtain ⟨h1, h2, h3, h4⟩ := mem_rowB.1 ha
    exact ⟨by omega, by omega, h2, h3, h4⟩
  · rintro ⟨h1, h2, h3, h4, hf⟩
    exact ⟨(a.2 - y).toNat, by rw [List.mem_range]; omega, mem_rowB.2 ⟨by omega, h3, h4, hf⟩⟩
theorem length_rowB (f : Sp → Bool) (x y : Int) (n : Nat) : (rowB f x y n).length ≤ n := by
  unfold rowB
  refine Nat.le_trans (List.length_filter_le _ _) ?_
  rw [List.length_map, List.length_range]; exact Nat.le_refl _
theorem length_rowsB (f : Sp → Bool) (x y : Int) (n : Nat) : ∀ m, (rowsB f x y n m).length ≤ m * n
  | 0 => by rw [rowsB_zero]; simp
  | m + 1 => by
    rw [rowsB_succ, List.length_append, Nat.succ_mul]
    have := length_rowsB f x y n m
    have := length_rowB f x (y + (m : Int)) n
    omega
theorem sorted_append {p q : List Sp} (hp : Sorted p) (hq : Sorted q) (h : ∀ a ∈ p, ∀ b ∈ q, Lt a b) : Sorted (p ++ q) := List.pairwise_append.2 ⟨hp, hq, h⟩
theorem sorted_rowB (f : Sp → Bool) (x y : Int) : ∀ n, Sorted (rowB f x y n)
  | 0 => List.Pairwise.nil
  | n + 1 => by
    rw [rowB_succ]
    refine sorted_append (sorted_rowB f x y n) ?_ ?_
    · split
      · exact List.pairwise_singleton _ _
      · exact List.Pairwise.nil
    · intro a ha b hb
      obtain ⟨h1, h2, h3, _⟩ := mem_rowB.1 ha
      split at hb
      · rw [List.mem_singleton] at hb; subst hb
        unfold Lt; simp only []; omega
      · cases hb
theorem sorted_rowsB (f : Sp → Bool) (x y : Int) (n : Nat) : ∀ m, Sorted (rowsB f x y n m)
  | 0 => List.Pairwise.nil
  | m + 1 => by
    rw [rowsB_succ]
    refine sorted_append (sorted_rowsB f x y n m) (sorted_rowB _ _ _ _) ?_
    intro a ha b hb
    obtain ⟨_, h1, _⟩ := mem_rowsB.1 ha
    obtain ⟨h2, _⟩ := mem_rowB.1 hb
    unfold Lt; omega
/-- how many numbers from lo to hi there are -/
def span (lo hi : Int) : Nat := (hi - lo + 1).toNat
/-- all spots between two, row by row, that the rule allows -/
def betw (f : Sp → Bool) (lo hi : Sp) : List Sp := rowsB f lo.1 lo.2 (span lo.1 hi.1) (span lo.2 hi.2)
theorem mem_betw {f : Sp → Bool} {lo hi a : Sp} : a ∈ betw f lo hi ↔ lo.1 ≤ a.1 ∧ a.1 ≤ hi.1 ∧ lo.2 ≤ a.2 ∧ a.2 ≤ hi.2 ∧ f a = true := by
  unfold betw span
  rw [mem_rowsB]
  constructor
  · rintro ⟨h1, h2, h3, h4, hf⟩; exact ⟨by omega, by omega, by omega, by omega, hf⟩
  · rintro ⟨h1, h2, h3, h4, hf⟩; exact ⟨by omega, by omega, by omega, by omega, hf⟩
theorem sorted_betw (f : Sp → Bool) (lo hi : Sp) : Sorted (betw f lo hi) := sorted_rowsB _ _ _ _ _

/-- whether q, moved by a, is within p -/
def fitAt (p q : List Sp) (a : Sp) : Bool := decide (∀ d ∈ q, addS a d ∈ p)
/-- the differences of both corners -/
def fitLo (p q : List Sp) : Sp := ((boxL p).1.1 - (boxL q).1.1, (boxL p).1.2 - (boxL q).1.2)
def fitHi (p q : List Sp) : Sp := ((boxL p).2.1 - (boxL q).2.1, (boxL p).2.2 - (boxL q).2.2)
theorem betw_shrink {p q : List Sp} (hp : Sorted p) (p0 : p ≠ []) (q0 : q ≠ []) : betw (fitAt p q) (fitLo p q) (fitHi p q) = shrinkL p q := by
  refine sorted_ext (sorted_betw _ _ _) (sorted_shrinkL hp q) fun x => ?_
  rw [mem_betw, mem_shrinkL q0]
  unfold fitAt
  rw [decide_eq_true_eq]
  constructor
  · rintro ⟨_, _, _, _, h⟩ d hd
    rw [addS_comm]; exact h d hd
  · intro h
    have bp := isBox_boxL p0
    have bq := isBox_boxL q0
    have hh : ∀ d ∈ q, addS x d ∈ p := fun d hd => by rw [addS_comm]; exact h d hd
    obtain ⟨a1, ha1, e1⟩ := bq.lx
    obtain ⟨a2, ha2, e2⟩ := bq.ly
    obtain ⟨a3, ha3, e3⟩ := bq.hx
    obtain ⟨a4, ha4, e4⟩ := bq.hy
    have k1 := bp.all _ (hh _ ha1)
    have k2 := bp.all _ (hh _ ha2)
    have k3 := bp.all _ (hh _ ha3)
    have k4 := bp.all _ (hh _ ha4)
    unfold addS at k1 k2 k3 k4
    simp only at k1 k2 k3 k4
    unfold fitLo fitHi
    exact ⟨by simp only []; omega, by simp only []; omega, by simp only []; omega, by simp only []; omega, hh⟩
theorem boxL_in {p : List Sp} {n : Int} (h : p ≠ []) (hn : ∀ a ∈ p, -n ≤ a.1 ∧ a.1 ≤ n ∧ -n ≤ a.2 ∧ a.2 ≤ n) :
    (-n ≤ (boxL p).1.1 ∧ (boxL p).1.1 ≤ n ∧ -n ≤ (boxL p).1.2 ∧ (boxL p).1.2 ≤ n) ∧ (-n ≤ (boxL p).2.1 ∧ (boxL p).2.1 ≤ n ∧ -n ≤ (boxL p).2.2 ∧ (boxL p).2.2 ≤ n) := by
  have bp := isBox_boxL h
  obtain ⟨a1, ha1, e1⟩ := bp.lx
  obtain ⟨a2, ha2, e2⟩ := bp.ly
  obtain ⟨a3, ha3, e3⟩ := bp.hx
  obtain ⟨a4, ha4, e4⟩ := bp.hy
  have := hn _ ha1
  have := hn _ ha2
  have := hn _ ha3
  have := hn _ ha4
  omega
theorem rows_next {f : Sp → Bool} {x y y' : Int} {n : Nat} (h : y ≤ y') : rowsB f x y n (y' - y).toNat ++ rowB f x y' n = rowsB f x y n (y' + 1 - y).toNat := by
  have e : (y' + 1 - y).toNat = (y' - y).toNat + 1 := by omega
  have e2 : y + ((y' - y).toNat : Int) = y' := by omega
  rw [e, rowsB_succ, e2]
theorem row_yes {f : Sp → Bool} {x y x' : Int} (h : x ≤ x') (hf : f (x', y) = true) : rowB f x y (x' - x).toNat ++ [(x', y)] = rowB f x y (x' + 1 - x).toNat := by
  have e : (x' + 1 - x).toNat = (x' - x).toNat + 1 := by omega
  have e2 : x + ((x' - x).toNat : Int) = x' := by omega
  rw [e, rowB_succ, e2, hf, if_pos rfl]
theorem row_no {f : Sp → Bool} {x y x' : Int} (h : x ≤ x') (hf : f (x', y) = false) : rowB f x y (x' - x).toNat = rowB f x y (x' + 1 - x).toNat := by
  have e : (x' + 1 - x).toNat = (x' - x).toNat + 1 := by omega
  have e2 : x + ((x' - x).toNat : Int) = x' := by omega
  rw [e, rowB_succ, e2, hf, if_neg (by simp), List.append_nil]
theorem span_end {lo hi y : Int} (h1 : hi < y) (h2 : y ≤ lo ∨ y ≤ hi + 1) (h3 : lo ≤ y) : (y - lo).toNat = span lo hi := by unfold span; omega
theorem span_le {lo hi : Int} (h1 : -100 ≤ lo) (h2 : hi ≤ 100) : span lo hi ≤ 201 := by unfold span; omega
theorem length_part (f : Sp → Bool) (x y y' x' : Int) (n : Nat) (hn : n ≤ 201) (h1 : (y' - y).toNat ≤ 201) (h2 : (x' - x).toNat ≤ 201) : (rowsB f x y n (y' - y).toNat ++ rowB f x y' (x' - x).toNat).length ≤ 1000000 := by
  have a := length_rowsB f x y n (y' - y).toNat
  have b := length_rowB f x y' (x' - x).toNat
  have c := Nat.mul_le_mul h1 hn
  rw [List.length_append]
  omega

def NearS (a : Sp) : Prop := -200 ≤ a.1 ∧ a.1 ≤ 200 ∧ -200 ≤ a.2 ∧ a.2 ≤ 200
def inP (ps : List Sp) (a : Sp) : Bool := decide (a ∈ ps)
/-- all of the first k fit -/
def FitUpto (ps qs : List Sp) (a : Sp) (k : Nat) : Prop := ∀ j d, j < k → qs[j]? = some d → addS a d ∈ ps
theorem FitUpto.next {ps qs : List Sp} {a d : Sp} {k : Nat} (h : FitUpto ps qs a k) (hd : qs[k]? = some d) (hm : addS a d ∈ ps) : FitUpto ps qs a (k + 1) := fun j x hj hx => by
  by_cases e : j = k
  · subst e; rw [hd] at hx; cases hx; exact hm
  · exact h j x (by omega) hx
theorem fitAt_yes {ps qs : List Sp} {a : Sp} (h : FitUpto ps qs a qs.length) : fitAt ps qs a = true := decide_eq_true fun d hd => by
  obtain ⟨j, hj⟩ := List.mem_iff_getElem?.1 hd
  exact h j d (List.getElem?_eq_some_iff.1 hj).1 hj
theorem fitAt_no {ps qs : List Sp} {a d : Sp} {k : Nat} (hd : qs[k]? = some d) (hm : ¬ addS a d ∈ ps) : fitAt ps qs a = false := decide_eq_false fun h => hm (h d (List.mem_of_getElem? hd))
/-! ### ShrinkP -/
def nonE (q : List Sp) : Bool := !q.isEmpty
theorem nonE_yes {q : List Sp} : nonE q = true ↔ q ≠ [] := by unfold nonE; cases q <;> simp
theorem nonE_no {q : List Sp} : nonE q = false ↔ q = [] := by unfold nonE; cases q <;> simp
def shrinkOk (p q : List Sp) : Bool := picB p && (picB q && (nonE q && picB (shrinkL p q)))
def shrinkR (p q : List Sp) : List Sp := if shrinkOk p q then shrinkL p q else []
theorem shrink_no1 {p q : List Sp} (h : picB p = false) : shrinkOk p q = false ∧ shrinkR p q = [] := by
  have : shrinkOk p q = false := by unfold shrinkOk; simp [h]
  exact ⟨this, by unfold shrinkR; simp [this]⟩
theorem shrink_no2 {p q : List Sp} (h : picB q = false) : shrinkOk p q = false ∧ shrinkR p q = [] := by
  have : shrinkOk p q = false := by unfold shrinkOk; simp [h]
  exact ⟨this, by unfold shrinkR; simp [this]⟩
theorem shrink_no3 {p q : List Sp} (h : q = []) : shrinkOk p q = false ∧ shrinkR p q = [] := by
  have : shrinkOk p q = false := by unfold shrinkOk; simp [nonE_no.2 h]
  exact ⟨this, by unfold shrinkR; simp [this]⟩
theorem shrink_no4 {p q : List Sp} (h : picB (shrinkL p q) = false) : shrinkOk p q = false ∧ shrinkR p q = [] := by
  have : shrinkOk p q = false := by unfold shrinkOk; simp [h]
  exact ⟨this, by unfold shrinkR; simp [this]⟩
theorem shrink_yes {p q : List Sp} (h1 : picB p = true) (h2 : picB q = true) (h3 : q ≠ []) (h4 : picB (shrinkL p q) = true) : shrinkOk p q = true ∧ shrinkR p q = shrinkL p q := by
  have : shrinkOk p q = true := by unfold shrinkOk; simp [h1, h2, h4, nonE_yes.2 h3]
  exact ⟨this, by unfold shrinkR; simp [this]⟩
structure Shrunk (p q : List Sp) : Prop where
  pp : picB p = true
  pq : picB q = true
  q0 : q ≠ []
  ps : picB (shrinkL p q) = true
  eq : shrinkR p q = shrinkL p q
theorem shrink_is {p q : List Sp} (h : shrinkOk p q = true) : Shrunk p q := by
  have k := h
  unfold shrinkOk at k
  simp only [Bool.and_eq_true] at k
  exact ⟨k.1, k.2.1, nonE_yes.1 k.2.2.1, k.2.2.2, by unfold shrinkR; simp [h]⟩
theorem shrinkR_no {p q : List Sp} (h : shrinkOk p q = false) : shrinkR p q = [] := by unfold shrinkR; simp [h]
theorem shrinkR_le (p q : List Sp) : (shrinkR p q).length ≤ 60 := by
  rcases h : shrinkOk p q with _ | _
  · rw [shrinkR_no h]; exact Nat.zero_le _
  · rw [(shrink_is h).eq]; exact (picB_pic (shrink_is h).ps).1
structure Summed (p q : List Sp) : Prop where
  pp : picB p = true
  pq : picB q = true
  ps : picB (sumL p q) = true
  eq : sumR p q = sumL p q
theorem sum_is {p q : List Sp} (h : sumOk p q = true) : Summed p q := by
  have k := h
  unfold sumOk at k
  simp only [Bool.and_eq_true] at k
  exact ⟨k.1.1, k.1.2, k.2, by unfold sumR; simp [h]⟩
theorem sumR_no' {p q : List Sp} (h : sumOk p q = false) : sumR p q = [] := by unfold sumR; simp [h]
theorem sumR_le (p q : List Sp) : (sumR p q).length ≤ 60 := by
  rcases h : sumOk p q with _ | _
  · rw [sumR_no' h]; exact Nat.zero_le _
  · rw [(sum_is h).eq]; exact (picB_pic (sum_is h).ps).1

def grownShrunkOk (p q : List Sp) : Bool := sumOk p q && shrinkOk (sumR p q) q
def grownShrunkR (p q : List Sp) : List Sp := if sumOk p q then shrinkR (sumR p q) q else []
def shrunkGrownOk (p q : List Sp) : Bool := shrinkOk p q && sumOk (shrinkR p q) q
def shrunkGrownR (p q : List Sp) : List Sp := if shrinkOk p q then sumR (shrinkR p q) q else []
theorem grownShrunk_no {p q : List Sp} (h : sumOk p q = false) : grownShrunkOk p q = false ∧ grownShrunkR p q = [] := by unfold grownShrunkOk grownShrunkR; simp [h]
theorem grownShrunk_yes {p q : List Sp} (h : sumOk p q = true) : grownShrunkOk p q = shrinkOk (sumR p q) q ∧ grownShrunkR p q = shrinkR (sumR p q) q := by unfold grownShrunkOk grownShrunkR; simp [h]
theorem shrunkGrown_no {p q : List Sp} (h : shrinkOk p q = false) : shrunkGrownOk p q = false ∧ shrunkGrownR p q = [] := by unfold shrunkGrownOk shrunkGrownR; simp [h]
theorem shrunkGrown_yes {p q : List Sp} (h : shrinkOk p q = true) : shrunkGrownOk p q = sumOk (shrinkR p q) q ∧ shrunkGrownR p q = sumR (shrinkR p q) q := by unfold shrunkGrownOk shrunkGrownR; simp [h]
theorem grownShrunkR_le (p q : List Sp) : (grownShrunkR p q).length ≤ 60 := by
  rcases h : sumOk p q with _ | _
  · rw [(grownShrunk_no h).2]; exact Nat.zero_le _
  · rw [(grownShrunk_yes h).2]; exact shrinkR_le _ _
theorem shrunkGrownR_le (p q : List Sp) : (shrunkGrownR p q).length ≤ 60 := by
  rcases h : shrinkOk p q with _ | _
  · rw [(shrunkGrown_no h).2]; exact Nat.zero_le _
  · rw [(shrunkGrown_yes h).2]; exact sumR_le _ _
def fitsB (p q : List Sp) (a : Sp) : Bool := shrinkOk p q && decide (a ∈ shrinkR p q)
theorem fits_no {p q : List Sp} {a : Sp} (h : shrinkOk p q = false) : fitsB p q a = false := by unfold fitsB; simp [h]
theorem fits_yes {p q : List Sp} {a : Sp} (h : shrinkOk p q = true) : fitsB p q a = decide (a ∈ shrinkR p q) := by unfold fitsB; simp [h]

/-- what grows and shrinks has the picture -/
theorem grownShrunk_has {p q : List Sp} (h : grownShrunkOk p q = true) : Sub p (grownShrunkR p q) := by
  unfold grownShrunkOk at h
  simp only [Bool.and_eq_true] at h
  rw [(grownShrunk_yes h.1).2, (shrink_is h.2).eq, (sum_is h.1).eq]
  exact sub_closed (shrink_is h.2).q0
/-- grown and shrunk again it is the same -/
theorem grownShrunk_again {p q : List Sp} (h : grownShrunkOk p q = true) : grownShrunkOk (grownShrunkR p q) q = true ∧ grownShrunkR (grownShrunkR p q) q = grownShrunkR p q := by
  unfold grownShrunkOk at h
  simp only [Bool.and_eq_true] at h
  have hs := shrink_is h.2
  have hm := sum_is h.1
  have e : grownShrunkR p q = shrinkL (sumL p q) q := by rw [(grownShrunk_yes h.1).2, hs.eq, hm.eq]
  have hpic : picB (grownShrunkR p q) = true := by rw [e, ← hm.eq]; exact hs.ps
  have eS : sumL (grownShrunkR p q) q = sumL p q := by rw [e]; exact sum_shrink_sum hs.q0
  have hok : sumOk (grownShrunkR p q) q = true := (sum_yes hpic hm.pq (by rw [eS]; exact hm.ps)).1
  have eR : sumR (grownShrunkR p q) q = sumR p q := by rw [(sum_is hok).eq, eS, hm.eq]
  refine ⟨?_, ?_⟩
  · rw [(grownShrunk_yes hok).1, eR]; exact h.2
  · rw [(grownShrunk_yes hok).2, eR, (grownShrunk_yes h.1).2]
/-- what shrinks and grows is within the picture -/
theorem shrunkGrown_within {p q : List Sp} (h : shrunkGrownOk p q = true) : Sub (shrunkGrownR p q) p := by
  unfold shrunkGrownOk at h
  simp only [Bool.and_eq_true] at h
  rw [(shrunkGrown_yes h.1).2, (sum_is h.2).eq, (shrink_is h.1).eq]
  exact opened_sub (shrink_is h.1).q0
/-- shrunk and grown again it is the same -/
theorem shrunkGrown_again {p q : List Sp} (h : shrunkGrownOk p q = true) : shrunkGrownOk (shrunkGrownR p q) q = true ∧ shrunkGrownR (shrunkGrownR p q) q = shrunkGrownR p q := by
  unfold shrunkGrownOk at h
  simp only [Bool.and_eq_true] at h
  have hs := shrink_is h.1
  have hm := sum_is h.2
  have e : shrunkGrownR p q = sumL (shrinkL p q) q := by rw [(shrunkGrown_yes h.1).2, hm.eq, hs.eq]
  have hpic : picB (shrunkGrownR p q) = true := by rw [e, ← hs.eq]; exact hm.ps
  have eS : shrinkL (shrunkGrownR p q) q = shrinkL p q := by rw [e]; exact shrink_sum_shrink (picB_pic hs.pp).2.2 hs.q0
  have hok : shrinkOk (shrunkGrownR p q) q = true := (shrink_yes hpic hs.pq hs.q0 (by rw [eS]; exact hs.ps)).1
  have eR : shrinkR (shrunkGrownR p q) q = shrinkR p q := by rw [(shrink_is hok).eq, eS, hs.eq]
  refine ⟨?_, ?_⟩
  · rw [(shrunkGrown_yes hok).1, eR]; exact h.2
  · rw [(shrunkGrown_yes hok).2, eR, (shrunkGrown_yes h.1).2]
theorem sum_in_shrunk {a p q : List Sp} (h : shrinkOk p q = true) (k : sumOk a q = true) : Sub (sumR a q) p ↔ Sub a (shrinkR p q) := by
  rw [(shrink_is h).eq, (sum_is k).eq]
  exact adjoint (shrink_is h).q0
theorem shrunk_in {p u q : List Sp} (h : shrinkOk p q = true) (k : shrinkOk u q = true) (hs : Sub p u) : Sub (shrinkR p q) (shrinkR u q) := by
  rw [(shrink_is h).eq, (shrink_is k).eq]
  exact shrink_mono (shrink_is h).q0 hs
/-- what fits is within, moved -/
theorem fits_moved {p q : List Sp} {a : Sp} (h : shrinkOk p q = true) : a ∈ shrinkR p q ↔ Sub (moved q a) p := by
  rw [(shrink_is h).eq]
  exact fits (shrink_is h).q0

/-- the spots that fit among those that the first k allow -/
def shUpto (ps qs : List Sp) (c : Sp) (k : Nat) : List Sp := ((ps.take k).map fun b => ((b.1 - c.1, b.2 - c.2) : Sp)).filter fun a => decide (∀ d ∈ qs, addS d a ∈ ps)
theorem shUpto_zero (ps qs : List Sp) (c : Sp) : shUpto ps qs c 0 = [] := rfl
theorem shUpto_succ {ps qs : List Sp} {c : Sp} {k : Nat} {x y : Int} (h : ps[k]? = some (x, y)) :
    shUpto ps qs c (k + 1) = shUpto ps qs c k ++ (if (∀ d ∈ qs, addS d (x - c.1, y - c.2) ∈ ps) then [(x - c.1, y - c.2)] else []) := by
  unfold shUpto
  rw [List.take_add_one, h, List.map_append, List.filter_append]
  congr 1
  simp only [Option.toList_some, List.map_cons, List.map_nil]
  by_cases hm : ∀ d ∈ qs, addS d (x - c.1, y - c.2) ∈ ps
  · rw [if_pos hm, List.filter_cons_of_pos (by simpa using hm)]; rfl
  · rw [if_neg hm, List.filter_cons_of_neg (by simpa using hm)]; rfl
theorem shUpto_all {ps qs : List Sp} {c : Sp} (h : qs[0]? = some c) : shUpto ps qs c ps.length = shrinkL ps qs := by
  unfold shUpto
  rw [List.take_length]
  match qs, h with
  | d :: q, h => injection h with h; subst h; rfl
theorem length_shUpto_le (ps qs : List Sp) (c : Sp) (k : Nat) : (shUpto ps qs c k).length ≤ ps.length := by
  unfold shUpto
  refine Nat.le_trans (List.length_filter_le _ _) ?_
  rw [List.length_map]; exact List.length_take_le' _ _
/-- whether the first j fit -/
def allUpto (ps qs : List Sp) (a : Sp) (j : Nat) : Bool := decide (∀ d ∈ qs.take j, addS d a ∈ ps)
theorem allUpto_zero (ps qs : List Sp) (a : Sp) : allUpto ps qs a 0 = true := by unfold allUpto; simp
theorem allUpto_succ {ps qs : List Sp} {a : Sp} {j : Nat} {x y : Int} (h : qs[j]? = some (x, y)) : allUpto ps qs a (j + 1) = (allUpto ps qs a j && decide ((x + a.1, y + a.2) ∈ ps)) := by
  unfold allUpto
  rw [List.take_add_one, h, Bool.eq_iff_iff, Bool.and_eq_true, decide_eq_true_eq, decide_eq_true_eq, decide_eq_true_eq]
  constructor
  · intro hh
    exact ⟨fun d hd => hh d (List.mem_append_left _ hd), hh (x, y) (List.mem_append_right _ (by simp))⟩
  · rintro ⟨h1, h2⟩ d hd
    rcases List.mem_append.1 hd with hd | hd
    · exact h1 d hd
    · simp at hd; subst hd; exact h2
theorem allUpto_all (ps qs : List Sp) (a : Sp) : allUpto ps qs a qs.length = decide (∀ d ∈ qs, addS d a ∈ ps) := by unfold allUpto; rw [List.take_length]
theorem allUpto_succ_no {ps qs : List Sp} {a : Sp} {j : Nat} (hj : j < qs.length) (h : allUpto ps qs a j = false) : allUpto ps qs a (j + 1) = false := by
  obtain ⟨⟨x, y⟩, e⟩ : ∃ b, qs[j]? = some b := ⟨_, List.getElem?_eq_getElem hj⟩
  rw [allUpto_succ e, h]; rfl
/-! ### Balls -/
theorem intCases (a b : Int) : a < b ∨ b ≤ a := by omega
def absI (d : Int) : Int := if d < -d then -d else d
def maxI (x y : Int) : Int := if x < y then y else x
/-- how far two spots are apart in a way (every other way than 0 and 1 is as the way 2) -/
def farI (a b : Sp) (way : Int) : Int :=
  if way = 0 then absI (a.1 - b.1) + absI (a.2 - b.2)
  else if way = 1 then maxI (absI (a.1 - b.1)) (absI (a.2 - b.2))
  else maxI (maxI (absI (a.1 - b.1)) (absI (a.2 - b.2))) ((2 * (absI (a.1 - b.1) + absI (a.2 - b.2)) + 2) / 3)
theorem absI_nonneg (d : Int) : 0 ≤ absI d := by unfold absI; split <;> omega
theorem absI_swap (x y : Int) : absI (x - y) = absI (y - x) := by unfold absI; split <;> split <;> omega
theorem absI_zero {x y : Int} : absI (x - y) = 0 ↔ x = y := by unfold absI; split <;> omega
theorem absI_tri (x y z : Int) : absI (x - z) ≤ absI (x - y) + absI (y - z) := by unfold absI; split <;> split <;> split <;> omega
theorem maxI_le {x y z : Int} : maxI x y ≤ z ↔ x ≤ z ∧ y ≤ z := by unfold maxI; split <;> omega
theorem le_maxI_left (x y : Int) : x ≤ maxI x y := by unfold maxI; split <;> omega
theorem le_maxI_right (x y : Int) : y ≤ maxI x y := by unfold maxI; split <;> omega
theorem farI_swap (a b : Sp) (way : Int) : farI a b way = farI b a way := by unfold farI; rw [absI_swap a.1 b.1, absI_swap a.2 b.2]
theorem farI_nonneg (a b : Sp) (way : Int) : 0 ≤ farI a b way := by
  have h1 := absI_nonneg (a.1 - b.1)
  have h2 := absI_nonneg (a.2 - b.2)
  unfold farI maxI
  split
  · omega
  · split
    · split <;> omega
    · split <;> split <;> omega
theorem farI_zero {a b : Sp} {way : Int} : farI a b way = 0 ↔ a = b := by
  have h1 := absI_nonneg (a.1 - b.1)
  have h2 := absI_nonneg (a.2 - b.2)
  have z1 := absI_zero (x := a.1) (y := b.1)
  have z2 := absI_zero (x := a.2) (y := b.2)
  constructor
  · intro h
    have : absI (a.1 - b.1) = 0 ∧ absI (a.2 - b.2) = 0 := by
      unfold farI maxI at h
      split at h
      · omega
      · split at h
        · split at h <;> omega
        · split at h <;> split at h <;> omega
    exact sp_ext (z1.1 this.1) (z2.1 this.2)
  · rintro rfl
    have e1 := z1.2 rfl
    have e2 := z2.2 rfl
    unfold farI maxI
    rw [e1, e2]
    split
    · rfl
    · split <;> simp
theorem farI_tri (a b c : Sp) (way : Int) : farI a c way ≤ farI a b way + farI b c way := by
  have h1 := absI_tri a.1 b.1 c.1
  have h2 := absI_tri a.2 b.2 c.2
  have p1 := absI_nonneg (a.1 - b.1)
  have p2 := absI_nonneg (a.2 - b.2)
  have p3 := absI_nonneg (b.1 - c.1)
  have p4 := absI_nonneg (b.2 - c.2)
  unfold farI
  generalize absI (a.1 - c.1) = x at *
  generalize absI (a.2 - c.2) = y at *
  generalize absI (a.1 - b.1) = x1 at *
  generalize absI (a.2 - b.2) = y1 at *
  generalize absI (b.1 - c.1) = x2 at *
  generalize absI (b.2 - c.2) = y2 at *
  split
  · omega
  · split
    · rw [maxI_le]
      have := le_maxI_left x1 y1
      have := le_maxI_right x1 y1
      have := le_maxI_left x2 y2
      have := le_maxI_right x2 y2
      omega
    · have a1 := le_maxI_left (maxI x1 y1) ((2 * (x1 + y1) + 2) / 3)
      have a2 := le_maxI_right (maxI x1 y1) ((2 * (x1 + y1) + 2) / 3)
      have a3 := le_maxI_left (maxI x2 y2) ((2 * (x2 + y2) + 2) / 3)
      have a4 := le_maxI_right (maxI x2 y2) ((2 * (x2 + y2) + 2) / 3)
      have := le_maxI_left x1 y1
      have := le_maxI_right x1 y1
      have := le_maxI_left x2 y2
      have := le_maxI_right x2 y2
      rw [maxI_le, maxI_le]
      omega
theorem far_1_2 (a b : Sp) : farI a b 1 ≤ farI a b 2 := by
  unfold farI; simp only [show ¬ (1 : Int) = 0 by decide, show ¬ (2 : Int) = 0 by decide, show ¬ (2 : Int) = 1 by decide, if_false, if_true]
  exact le_maxI_left _ _
theorem far_2_0 (a b : Sp) : farI a b 2 ≤ farI a b 0 := by
  have h1 := absI_nonneg (a.1 - b.1)
  have h2 := absI_nonneg (a.2 - b.2)
  unfold farI; simp only [show ¬ (2 : Int) = 0 by decide, show ¬ (2 : Int) = 1 by decide, if_false, if_true]
  rw [maxI_le, maxI_le]
  omega
theorem farI_le (a b : Sp) (way : Int) {n : Int} (h1 : absI (a.1 - b.1) ≤ n) (h2 : absI (a.2 - b.2) ≤ n) : farI a b way ≤ 2 * n := by
  have p1 := absI_nonneg (a.1 - b.1)
  have p2 := absI_nonneg (a.2 - b.2)
  unfold farI maxI
  split
  · omega
  · split
    · split <;> omega
    · split <;> split <;> omega
theorem farI_move (a b : Sp) (way : Int) : farI a b way = farI (a.1 - b.1, a.2 - b.2) (0, 0) way := by
  unfold farI; simp only [Int.sub_zero]

def wayOk (way : Int) : Bool := decide (0 ≤ way ∧ way ≤ 2)
/-- DistanceOf's answer -/
def distOk (a b : Sp) (way : Int) : Bool := picB [a] && (picB [b] && wayOk way)
def distI (a b : Sp) (way : Int) : Int := if distOk a b way then farI a b way else -1
theorem picB_one {a : Sp} : picB [a] = true ↔ InR a := by
  unfold picB
  rw [decide_eq_true_eq]
  exact ⟨fun h => h.2.1 a (List.mem_singleton.2 rfl), fun h => ⟨by simp, fun b hb => by rw [List.mem_singleton] at hb; rw [hb]; exact h, List.pairwise_singleton _ _⟩⟩
theorem picB_one_no {a : Sp} : picB [a] = false ↔ ¬ InR a := by rw [← picB_one]; simp
theorem dist_yes {a b : Sp} {way : Int} (h : picB [a] = true) (k : picB [b] = true) (l : wayOk way = true) : distI a b way = farI a b way := by
  unfold distI distOk; rw [h, k, l]; rfl
theorem dist_no1 {a b : Sp} {way : Int} (h : picB [a] = false) : distI a b way = -1 := by unfold distI distOk; rw [h]; rfl
theorem dist_no2 {a b : Sp} {way : Int} (h : picB [b] = false) : distI a b way = -1 := by unfold distI distOk; rw [h, Bool.false_and, Bool.and_false]; rfl
theorem dist_no3 {a b : Sp} {way : Int} (h : wayOk way = false) : distI a b way = -1 := by unfold distI distOk; rw [h, Bool.and_false, Bool.and_false]; rfl
theorem dist_neg {a b : Sp} {way : Int} : distI a b way < 0 ↔ distOk a b way = false := by
  unfold distI
  have := farI_nonneg a b way
  rcases h : distOk a b way with _ | _ <;> simp <;> omega
theorem dist_cases (a b : Sp) (way : Int) : (distOk a b way = true ∧ distI a b way = farI a b way) ∨ (distOk a b way = false ∧ distI a b way = -1) := by
  unfold distI
  rcases h : distOk a b way with _ | _
  · exact Or.inr ⟨rfl, rfl⟩
  · exact Or.inl ⟨rfl, rfl⟩
structure DistOk (a b : Sp) (way : Int) : Prop where
  pa : picB [a] = true
  pb : picB [b] = true
  pw : wayOk way = true
theorem distOk_iff {a b : Sp} {way : Int} : distOk a b way = true ↔ DistOk a b way := by
  unfold distOk
  rw [Bool.and_eq_true, Bool.and_eq_true]
  exact ⟨fun h => ⟨h.1, h.2.1, h.2.2⟩, fun h => ⟨h.pa, h.pb, h.pw⟩⟩

/-! ### balls -/
def ballOk (r way : Int) : Bool := decide (0 ≤ r ∧ r ≤ 3) && wayOk way
def ballL (r way : Int) : List Sp := if ballOk r way then betw (fun a => decide (farI a (0, 0) way ≤ r)) (-r, -r) (r, r) else []
theorem ball_no {r way : Int} (h : ballOk r way = false) : ballL r way = [] := by unfold ballL; rw [h]; rfl
theorem ball_yes {r way : Int} (h : ballOk r way = true) : ballL r way = betw (fun a => decide (farI a (0, 0) way ≤ r)) (-r, -r) (r, r) := by unfold ballL; rw [h]; rfl
theorem far_coord {a : Sp} {way r : Int} (h : farI a (0, 0) way ≤ r) : -r ≤ a.1 ∧ a.1 ≤ r ∧ -r ≤ a.2 ∧ a.2 ≤ r := by
  have p1 := absI_nonneg (a.1 - 0)
  have p2 := absI_nonneg (a.2 - 0)
  have : absI (a.1 - 0) ≤ r ∧ absI (a.2 - 0) ≤ r := by
    unfold farI at h
    split at h
    · simp only at h; omega
    · split at h
      · exact maxI_le.1 h
      · exact maxI_le.1 (maxI_le.1 h).1
  unfold absI at this
  split at this <;> split at this <;> omega
theorem mem_ball {r way : Int} (h : ballOk r way = true) {a : Sp} : a ∈ ballL r way ↔ farI a (0, 0) way ≤ r := by
  rw [ball_yes h, mem_betw]
  constructor
  · rintro ⟨_, _, _, _, k⟩; exact of_decide_eq_true k
  · intro k
    have := far_coord k
    exact ⟨this.1, this.2.1, this.2.2.1, this.2.2.2, decide_eq_true k⟩
theorem sorted_ball (r way : Int) : Sorted (ballL r way) := by
  rcases h : ballOk r way with _ | _
  · rw [ball_no h]; exact List.Pairwise.nil
  · rw [ball_yes h]; exact sorted_betw _ _ _
theorem ball_cases {r way : Int} (h : ballOk r way = true) : (r = 0 ∨ r = 1 ∨ r = 2 ∨ r = 3) ∧ (way = 0 ∨ way = 1 ∨ way = 2) := by
  unfold ballOk wayOk at h
  rw [Bool.and_eq_true, decide_eq_true_eq, decide_eq_true_eq] at h
  omega
/-- all that is asked of the twelve balls, one by one -/
def ballAll (r way : Int) : Bool :=
  picB (ballL r way) && decide (turned (ballL r way) = ballL r way) && decide ((0, 0) ∈ ballL r way)
    && (decide (ballL (r + 1) way = []) || withinB (ballL r way) (ballL (r + 1) way) && (decide (way = 2) || decide (sumOk (ballL r way) (ballL 1 way) = true) && decide (sumR (ballL r way) (ballL 1 way) = ballL (r + 1) way)))
def countAll (r way : Int) : Bool :=
  decide ((way = 0 → ((ballL r way).length : Int) = r * r + (r + 1) * (r + 1)) ∧ (way = 1 → ((ballL r way).length : Int) = (2 * r + 1) * (2 * r + 1)) ∧ r * r + (r + 1) * (r + 1) ≤ ((ballL r way).length : Int) ∧ ((ballL r way).length : Int) ≤ (2 * r + 1) * (2 * r + 1))
theorem ballAll_yes {r way : Int} (h : ballOk r way = true) : ballAll r way = true := by
  obtain ⟨rfl | rfl | rfl | rfl, rfl | rfl | rfl⟩ := ball_cases h <;> decide +kernel
theorem countAll_yes {r way : Int} (h : ballOk r way = true) : countAll r way = true := by
  obtain ⟨rfl | rfl | rfl | rfl, rfl | rfl | rfl⟩ := ball_cases h <;> decide +kernel
theorem picB_ball {r way : Int} : picB (ballL r way) = true := by
  rcases h : ballOk r way with _ | _
  · rw [ball_no h]; decide
  · have := ballAll_yes h
    unfold ballAll at this
    simp only [Bool.and_eq_true] at this
    exact this.1.1.1
theorem ball_nil {r way : Int} : ballL r way = [] ↔ ballOk r way = false := by
  rcases h : ballOk r way with _ | _
  · simp [ball_no h]
  · have := ballAll_yes h
    unfold ballAll at this
    simp only [Bool.and_eq_true, decide_eq_true_eq] at this
    have h0 := this.1.2
    constructor
    · intro e; rw [e] at h0; cases h0
    · intro e; cases e

/-! ### how far from a list -/
/-- the lesser one, if there is one -/
def nearer (best d : Int) : Int := if best < 0 ∨ d < best then d else best
def farFromF (a : Sp) (way : Int) : Int → List Sp → Int
  | best, [] => best
  | best, b :: p => farFromF a way (nearer best (distI a b way)) p
def farFromI (p : List Sp) (a : Sp) (way : Int) : Int := if picB p then farFromF a way (-1) p else -1
theorem farFromF_append (a : Sp) (way : Int) : ∀ (p q : List Sp) (best : Int), farFromF a way best (p ++ q) = farFromF a way (farFromF a way best p) q
  | [], _, _ => rfl
  | _ :: p, q, _ => farFromF_append a way p q _
theorem farFromF_succ {p : List Sp} {a b : Sp} {way : Int} {k : Nat} (h : p[k]? = some b) : farFromF a way (-1) (p.take (k + 1)) = nearer (farFromF a way (-1) (p.take k)) (distI a b way) := by
  rw [List.take_add_one, h, farFromF_append]; rfl
theorem farFromF_rng (a : Sp) (way : Int) : ∀ (p : List Sp) (best : Int), (∀ b ∈ p, distI a b way ≤ 1000) → -1 ≤ best → best ≤ 1000 → -1 ≤ farFromF a way best p ∧ farFromF a way best p ≤ 1000
  | [], best, _, h1, h2 => ⟨h1, h2⟩
  | b :: p, best, h, h1, h2 => by
    have hb := h b (List.mem_cons_self ..)
    have hd : -1 ≤ distI a b way := by
      rcases dist_cases a b way with ⟨_, e⟩ | ⟨_, e⟩ <;> rw [e]
      · have := farI_nonneg a b way; omega
      · omega
    refine farFromF_rng a way p _ (fun c hc => h c (List.mem_cons_of_mem _ hc)) ?_ ?_
    · unfold nearer; split <;> omega
    · unfold nearer; split <;> omega
/-- what the least distance is: one of them, and not more than any -/
structure Least (p : List Sp) (a : Sp) (way n : Int) : Prop where
  some' : ∃ b ∈ p, farI a b way = n
  all : ∀ b ∈ p, n ≤ farI a b way
theorem least_step {p : List Sp} {a : Sp} {way : Int} (ha : picB [a] = true) (hw : wayOk way = true) : ∀ (q r : List Sp) (best : Int), (∀ b ∈ q, picB [b] = true) → Least r a way best → Least (r ++ q) a way (farFromF a way best q)
  | [], r, best, _, h => by rw [List.append_nil]; exact h
  | b :: q, r, best, hq, h => by
    have hd := dist_yes ha (hq b (List.mem_cons_self ..)) hw
    have h' : Least (r ++ [b]) a way (nearer best (distI a b way)) := by
      have hn := farI_nonneg a b way
      obtain ⟨c, hc, e⟩ := h.some'
      have hbn := farI_nonneg a c way
      rw [hd]
      unfold nearer
      by_cases hlt : best < 0 ∨ farI a b way < best
      · rw [if_pos hlt]
        refine ⟨⟨b, by simp, rfl⟩, fun x hx => ?_⟩
        rcases List.mem_append.1 hx with hx | hx
        · have := h.all x hx; omega
        · rw [List.mem_singleton] at hx; subst hx; exact Int.le_refl _
      · rw [if_neg hlt]
        refine ⟨⟨c, List.mem_append_left _ hc, e⟩, fun x hx => ?_⟩
        rcases List.mem_append.1 hx with hx | hx
        · exact h.all x hx
        · rw [List.mem_singleton] at hx; subst hx; omega
    have := least_step (p := p) ha hw q (r ++ [b]) _ (fun c hc => hq c (List.mem_cons_of_mem _ hc)) h'
    rw [List.append_assoc] at this
    exact this
theorem pic_one {p : List Sp} (h : picB p = true) : ∀ b ∈ p, picB [b] = true := fun b hb => picB_one.2 ((picB_pic h).2.1 b hb)
theorem farFrom_least {p : List Sp} {a : Sp} {way : Int} (hp : picB p = true) (h0 : p ≠ []) (ha : picB [a] = true) (hw : wayOk way = true) : Least p a way (farFromI p a way) := by
  unfold farFromI
  rw [hp, if_pos rfl]
  match p, h0 with
  | b :: q, _ =>
    have hb := pic_one hp
    have hd := dist_yes ha (hb b (List.mem_cons_self ..)) hw
    have := least_step (p := []) ha hw q [b] (farI a b way) (fun c hc => hb c (List.mem_cons_of_mem _ hc)) ⟨⟨b, by simp, rfl⟩, fun x hx => by rw [List.mem_singleton] at hx; rw [hx]; exact Int.le_refl _⟩
    have e : farFromF a way (-1) (b :: q) = farFromF a way (farI a b way) q := by
      show farFromF a way (nearer (-1) (distI a b way)) q = _
      rw [hd]; unfold nearer; rw [if_pos (Or.inl (by omega))]
    rw [e]
    exact this
theorem farFromF_bad {a : Sp} {way : Int} (h : ∀ b, distI a b way = -1) : ∀ p : List Sp, farFromF a way (-1) p = -1
  | [] => rfl
  | b :: p => by
    show farFromF a way (nearer (-1) (distI a b way)) p = -1
    rw [h b]
    exact farFromF_bad h p
def farOk (p : List Sp) (a : Sp) (way : Int) : Bool := picB p && (nonE p && (picB [a] && wayOk way))
theorem farFrom_no {p : List Sp} {a : Sp} {way : Int} (h : farOk p a way = false) : farFromI p a way = -1 := by
  unfold farFromI
  rcases hp : picB p with _ | _
  · rfl
  · rw [if_pos rfl]
    unfold farOk at h
    rw [hp, Bool.true_and] at h
    rcases h0 : nonE p with _ | _
    · rw [nonE_no.1 h0]; rfl
    · rw [h0, Bool.true_and] at h
      rcases ha : picB [a] with _ | _
      · exact farFromF_bad (fun b => dist_no1 ha) p
      · rw [ha, Bool.true_and] at h
        exact farFromF_bad (fun b => dist_no3 h) p
structure FarOk (p : List Sp) (a : Sp) (way : Int) : Prop where
  pp : picB p = true
  p0 : p ≠ []
  pa : picB [a] = true
  pw : wayOk way = true
theorem farOk_is {p : List Sp} {a : Sp} {way : Int} (h : farOk p a way = true) : FarOk p a way := by
  unfold farOk at h
  simp only [Bool.and_eq_true] at h
  exact ⟨h.1, nonE_yes.1 h.2.1, h.2.2.1, h.2.2.2⟩
theorem farFrom_is {p : List Sp} {a : Sp} {way : Int} (h : farOk p a way = true) : Least p a way (farFromI p a way) := by
  have k := farOk_is h
  exact farFrom_least k.pp k.p0 k.pa k.pw
theorem farFrom_nonneg {p : List Sp} {a : Sp} {way : Int} (h : farOk p a way = true) : 0 ≤ farFromI p a way := by
  obtain ⟨b, _, e⟩ := (farFrom_is h).some'
  have := farI_nonneg a b way; omega
theorem farFrom_neg {p : List Sp} {a : Sp} {way : Int} : farFromI p a way < 0 ↔ farOk p a way = false := by
  rcases h : farOk p a way with _ | _
  · simp [farFrom_no h]
  · have := farFrom_nonneg h; simp; omega
/-- it is 0 exactly for spots of the picture -/
theorem farFrom_zero {p : List Sp} {a : Sp} {way : Int} (h : farOk p a way = true) : farFromI p a way = 0 ↔ a ∈ p := by
  have L := farFrom_is h
  constructor
  · intro e
    obtain ⟨b, hb, e2⟩ := L.some'
    rw [e] at e2
    rw [farI_zero.1 e2]; exact hb
  · intro ha
    have := L.all a ha
    rw [farI_zero.2 rfl] at this
    have := farFrom_nonneg h
    omega
/-- for the spot beside it, it is at most one more, and at least one less -/
theorem farFrom_step {p : List Sp} {a b : Sp} {way : Int} (h : farOk p a way = true) (k : farOk p b way = true) (hd : farI a b way ≤ 1) : farFromI p b way ≤ farFromI p a way + 1 ∧ farFromI p a way - 1 ≤ farFromI p b way := by
  obtain ⟨x, hx, e1⟩ := (farFrom_is h).some'
  obtain ⟨y, hy, e2⟩ := (farFrom_is k).some'
  have h1 := (farFrom_is h).all y hy
  have h2 := (farFrom_is k).all x hx
  have t1 := farI_tri b a x way
  have t2 := farI_tri a b y way
  rw [farI_swap b a] at t1
  omega
theorem far_right (a : Sp) (way : Int) : farI a (a.1 + 1, a.2) way ≤ 1 := by
  rw [farI_move]
  have e : ((a.1 - (a.1 + 1, a.2).1, a.2 - (a.1 + 1, a.2).2) : Sp) = (-1, 0) := by apply sp_ext <;> simp only [] <;> omega
  rw [e]
  unfold farI
  split
  · decide
  · split <;> decide

/-! ### grown by a ball -/
def grownBallOk (p : List Sp) (r way : Int) : Bool := ballOk r way && sumOk p (ballL r way)
def grownBallR (p : List Sp) (r way : Int) : List Sp := if ballOk r way then sumR p (ballL r way) else []
theorem grownBall_no {p : List Sp} {r way : Int} (h : ballOk r way = false) : grownBallOk p r way = false ∧ grownBallR p r way = [] := by unfold grownBallOk grownBallR; simp [h]
theorem grownBall_yes {p : List Sp} {r way : Int} (h : ballOk r way = true) : grownBallOk p r way = sumOk p (ballL r way) ∧ grownBallR p r way = sumR p (ballL r way) := by unfold grownBallOk grownBallR; simp [h]
/-- it has just the spots that are at most the radius from the picture -/
theorem grownBall_near {p : List Sp} {r way : Int} {a : Sp} (h : grownBallOk p r way = true) (ha : InR a) : (hasB (grownBallR p r way) a = true) ↔ (0 ≤ farFromI p a way ∧ farFromI p a way ≤ r) := by
  unfold grownBallOk at h
  rw [Bool.and_eq_true] at h
  have hs := sum_is h.2
  have hw : wayOk way = true := by have := h.1; unfold ballOk at this; rw [Bool.and_eq_true] at this; exact this.2
  rw [(grownBall_yes h.1).2, hs.eq, hasB_yes hs.ps, decide_eq_true_eq, mem_sumL]
  constructor
  · rintro ⟨b, c, hb, hc, rfl⟩
    have hf : farOk p (addS b c) way = true := by
      unfold farOk
      rw [hs.pp, nonE_yes.2 (fun e => by rw [e] at hb; cases hb), picB_one.2 ha, hw]; rfl
    have := (farFrom_is hf).all b hb
    have hcr := (mem_ball h.1).1 hc
    have e : farI (addS b c) b way = farI c (0, 0) way := by
      rw [farI_move]; congr 1
      unfold addS; apply sp_ext <;> simp only [] <;> omega
    have := farFrom_nonneg hf
    omega
  · rintro ⟨h1, h2⟩
    have hf : farOk p a way = true := by
      rcases k : farOk p a way with _ | _
      · rw [farFrom_no k] at h1; omega
      · rfl
    obtain ⟨b, hb, e⟩ := (farFrom_is hf).some'
    refine ⟨b, (a.1 - b.1, a.2 - b.2), hb, (mem_ball h.1).2 ?_, ?_⟩
    · rw [← farI_move]; omega
    · unfold addS; apply sp_ext <;> simp only [] <;> omega
/-! ### Patts -/
def small3 (p : List Sp) : Bool := decide (∀ a ∈ p, -3 ≤ a.1 ∧ a.1 ≤ 3 ∧ -3 ≤ a.2 ∧ a.2 ≤ 3)
/-- PatternOk's answer: t must be there, u must not -/
def patB (t u : List Sp) : Bool := small3 (t ++ u) && (picB t && (picB u && (decide (common t u = []) && (decide (1 ≤ t.length ∧ t.length ≤ 9) && decide (u.length ≤ 9)))))
structure PatOk (t u : List Sp) : Prop where
  small : ∀ a ∈ t ++ u, -3 ≤ a.1 ∧ a.1 ≤ 3 ∧ -3 ≤ a.2 ∧ a.2 ≤ 3
  pt : picB t = true
  pu : picB u = true
  apart : common t u = []
  t1 : 1 ≤ t.length
  t9 : t.length ≤ 9
  u9 : u.length ≤ 9
theorem patB_iff {t u : List Sp} : patB t u = true ↔ PatOk t u := by
  unfold patB small3
  simp only [Bool.and_eq_true, decide_eq_true_eq]
  exact ⟨fun ⟨h1, h2, h3, h4, ⟨h5, h6⟩, h7⟩ => ⟨h1, h2, h3, h4, h5, h6, h7⟩, fun h => ⟨h.small, h.pt, h.pu, h.apart, ⟨h.t1, h.t9⟩, h.u9⟩⟩
theorem PatOk.t0 {t u : List Sp} (h : PatOk t u) : t ≠ [] := fun e => by have := h.t1; rw [e] at this; simp at this
/-- a pattern without all that must not be there -/
theorem patB_there {t u : List Sp} (h : patB t u = true) : patB t [] = true := by
  have k := patB_iff.1 h
  refine patB_iff.2 ⟨fun a ha => k.small a ?_, k.pt, by decide, ?_, k.t1, k.t9, by simp⟩
  · rw [List.append_nil] at ha; exact List.mem_append_left _ ha
  · unfold common; rw [List.filter_eq_nil_iff]; intro a _; simp

/-- whether a pattern is found at a spot -/
def patAt (p t u : List Sp) (x : Sp) : Bool := decide (∀ d ∈ t, addS x d ∈ p) && decide (∀ d ∈ u, ¬ addS x d ∈ p)
theorem patAt_iff {p t u : List Sp} {x : Sp} : patAt p t u x = true ↔ (∀ d ∈ t, addS x d ∈ p) ∧ ∀ d ∈ u, ¬ addS x d ∈ p := by
  unfold patAt; rw [Bool.and_eq_true, decide_eq_true_eq, decide_eq_true_eq]
/-- all spots at which it is found -/
def foundL (p t u : List Sp) : List Sp := (shrinkL p t).filter (patAt p t u)
theorem mem_foundL {p t u : List Sp} (ht : t ≠ []) {x : Sp} : x ∈ foundL p t u ↔ patAt p t u x = true := by
  unfold foundL
  rw [List.mem_filter, mem_shrinkL ht]
  constructor
  · exact fun h => h.2
  · intro h
    exact ⟨fun d hd => by rw [addS_comm]; exact (patAt_iff.1 h).1 d hd, h⟩
theorem sorted_foundL {p t u : List Sp} (hp : Sorted p) : Sorted (foundL p t u) := sorted_filter (sorted_shrinkL hp t) _
theorem length_foundL_le (p t u : List Sp) : (foundL p t u).length ≤ p.length := Nat.le_trans (List.length_filter_le _ _) (length_shrinkL_le _ _)
theorem foundL_there {p t : List Sp} (hp : Sorted p) (ht : t ≠ []) : foundL p t [] = shrinkL p t :=
  sorted_ext (sorted_foundL hp) (sorted_shrinkL hp t) fun x => by
    rw [mem_foundL ht, mem_shrinkL ht, patAt_iff]
    constructor
    · exact fun h d hd => by rw [addS_comm]; exact h.1 d hd
    · exact fun h => ⟨fun d hd => by rw [addS_comm]; exact h d hd, fun d hd => by cases hd⟩
theorem foundL_sub {p t u : List Sp} (ht : t ≠ []) : Sub (foundL p t u) (foundL p t []) := fun _ hx => by
  rw [mem_foundL ht, patAt_iff] at hx ⊢
  exact ⟨hx.1, fun d hd => by cases hd⟩
theorem mem_moved {p : List Sp} {c x : Sp} : x ∈ moved p c ↔ (x.1 - c.1, x.2 - c.2) ∈ p := by
  unfold moved
  rw [List.mem_map]
  constructor
  · rintro ⟨b, hb, rfl⟩
    have : ((b.1 + c.1, b.2 + c.2).1 - c.1, (b.1 + c.1, b.2 + c.2).2 - c.2) = b := by apply sp_ext <;> simp only [] <;> omega
    rw [this]; exact hb
  · intro h
    exact ⟨_, h, by apply sp_ext <;> simp only [] <;> omega⟩
theorem patAt_moved (p t u : List Sp) (c x : Sp) : patAt (moved p c) t u x = patAt p t u (x.1 - c.1, x.2 - c.2) := by
  have e : ∀ d : Sp, addS x d ∈ moved p c ↔ addS (x.1 - c.1, x.2 - c.2) d ∈ p := fun d => by
    rw [mem_moved]
    have : ((addS x d).1 - c.1, (addS x d).2 - c.2) = addS (x.1 - c.1, x.2 - c.2) d := by unfold addS; apply sp_ext <;> simp only [] <;> omega
    rw [this]
  rw [Bool.eq_iff_iff, patAt_iff, patAt_iff]
  simp only [e]
/-- of the picture moved it is moved so -/
theorem foundL_moved {p t u : List Sp} (hp : Sorted p) (ht : t ≠ []) (c : Sp) : foundL (moved p c) t u = moved (foundL p t u) c :=
  sorted_ext (sorted_foundL (sorted_moved hp)) (sorted_moved (sorted_foundL hp)) fun x => by
    rw [mem_moved, mem_foundL ht, mem_foundL ht, patAt_moved]

/-- without all spots at which it is found -/
def thinL (p t u : List Sp) : List Sp := p.filter fun x => !patAt p t u x
theorem sorted_thinL {p t u : List Sp} (hp : Sorted p) : Sorted (thinL p t u) := sorted_filter hp _
theorem thinL_sub (p t u : List Sp) : Sub (thinL p t u) p := fun _ hx => (List.mem_filter.1 hx).1
theorem thin_apart {p t u : List Sp} (ht : t ≠ []) : common (thinL p t u) (foundL p t u) = [] := by
  unfold common
  rw [List.filter_eq_nil_iff]
  intro x hx
  have h1 := (List.mem_filter.1 hx).2
  simp only [decide_eq_true_eq]
  intro h2
  rw [mem_foundL ht] at h2
  rw [h2] at h1; cases h1
theorem length_split (p : List Sp) (f : Sp → Bool) : (p.filter f).length + (p.filter fun x => !f x).length = p.length := by
  induction p with
  | nil => rfl
  | cons a p ih =>
    rcases h : f a with _ | _
    · rw [List.filter_cons_of_neg (by simp [h]), List.filter_cons_of_pos (by simp [h]), List.length_cons, List.length_cons]; omega
    · rw [List.filter_cons_of_pos (by simp [h]), List.filter_cons_of_neg (by simp [h]), List.length_cons, List.length_cons]; omega
theorem thin_count {p t u : List Sp} (ht : t ≠ []) : (common p (foundL p t u)).length + (thinL p t u).length = p.length := by
  have e : common p (foundL p t u) = p.filter (patAt p t u) := by
    unfold common
    refine List.filter_congr fun x _ => ?_
    rw [Bool.eq_iff_iff, decide_eq_true_eq, mem_foundL ht]
  rw [e]
  exact length_split p _

/-! ### lone spots -/
def loneAt (p : List Sp) (a : Sp) : Bool := decide (∀ b ∈ p, b = a ∨ 1 < farI a b 1)
def loneL (p : List Sp) : List Sp := p.filter (loneAt p)
def ring8 : List Sp := [(-1, -1), (0, -1), (1, -1), (-1, 0), (1, 0), (-1, 1), (0, 1), (1, 1)]
theorem pat_ring : patB [(0, 0)] ring8 = true := by decide
theorem far1_le {a b : Sp} : farI a b 1 ≤ 1 ↔ -1 ≤ b.1 - a.1 ∧ b.1 - a.1 ≤ 1 ∧ -1 ≤ b.2 - a.2 ∧ b.2 - a.2 ≤ 1 := by
  unfold farI
  simp only [show ¬ (1 : Int) = 0 by decide, if_false, if_true]
  rw [maxI_le]
  unfold absI
  constructor
  · rintro ⟨h1, h2⟩
    split at h1 <;> split at h2 <;> omega
  · intro h
    constructor <;> split <;> omega
theorem mem_ring8 {d : Sp} : d ∈ ring8 ↔ d ≠ (0, 0) ∧ -1 ≤ d.1 ∧ d.1 ≤ 1 ∧ -1 ≤ d.2 ∧ d.2 ≤ 1 := by
  obtain ⟨x, y⟩ := d
  unfold ring8
  simp only [List.mem_cons, Prod.mk.injEq, List.not_mem_nil, or_false, ne_eq]
  omega
theorem lone_found {p : List Sp} (hp : Sorted p) : foundL p [(0, 0)] ring8 = loneL p := by
  refine sorted_ext (sorted_foundL hp) (sorted_filter hp _) fun x => ?_
  rw [mem_foundL (by simp), patAt_iff]
  unfold loneL loneAt
  rw [List.mem_filter, decide_eq_true_eq]
  have e0 : addS x (0, 0) = x := by unfold addS; apply sp_ext <;> simp
  constructor
  · rintro ⟨h1, h2⟩
    refine ⟨by have := h1 (0, 0) (by simp); rwa [e0] at this, fun b hb => ?_⟩
    by_cases hbx : b = x
    · exact Or.inl hbx
    · right
      rcases intCases 1 (farI x b 1) with k | k
      · exact k
      · exfalso
        have h := far1_le.1 k
        refine h2 (b.1 - x.1, b.2 - x.2) (mem_ring8.2 ⟨fun e => hbx ?_, h.1, h.2.1, h.2.2.1, h.2.2.2⟩) ?_
        · have := Prod.mk.inj e; exact sp_ext (by omega) (by omega)
        · have : addS x (b.1 - x.1, b.2 - x.2) = b := by unfold addS; apply sp_ext <;> simp only [] <;> omega
          rw [this]; exact hb
  · rintro ⟨h1, h2⟩
    refine ⟨fun d hd => by rw [List.mem_singleton] at hd; rw [hd, e0]; exact h1, fun d hd hm => ?_⟩
    obtain ⟨k0, k1, k2, k3, k4⟩ := mem_ring8.1 hd
    rcases h2 _ hm with e | e
    · apply k0
      have := Prod.mk.inj e
      apply sp_ext <;> simp only [] <;> omega
    · have : farI x (addS x d) 1 ≤ 1 := by rw [far1_le]; unfold addS; simp only []; omega
      omega
theorem loneL_sub (p : List Sp) : Sub (loneL p) p := fun _ hx => (List.mem_filter.1 hx).1

/-! ### borders -/
/-- the four spots beside a spot, in order -/
def ring4 (a : Sp) : List Sp := [(a.1, a.2 - 1), (a.1 - 1, a.2), (a.1 + 1, a.2), (a.1, a.2 + 1)]
theorem sorted_ring4 (a : Sp) : Sorted (ring4 a) := by
  unfold ring4
  refine List.pairwise_cons.2 ⟨fun b hb => ?_, List.pairwise_cons.2 ⟨fun b hb => ?_, List.pairwise_cons.2 ⟨fun b hb => ?_, List.pairwise_singleton _ _⟩⟩⟩
  all_goals
    simp only [List.mem_cons, List.not_mem_nil, or_false] at hb
    first
      | (rcases hb with rfl | rfl | rfl <;> (unfold Lt; dsimp only; omega))
      | (rcases hb with rfl | rfl <;> (unfold Lt; dsimp only; omega))
      | (subst hb; unfold Lt; dsimp only; omega)
theorem far0_one {a b : Sp} : farI a b 0 = 1 ↔ b ∈ ring4 a := by
  obtain ⟨x, y⟩ := a
  obtain ⟨u, v⟩ := b
  unfold ring4 farI absI
  simp only [if_true, List.mem_cons, List.not_mem_nil, or_false, Prod.mk.injEq]
  split <;> split <;> omega
def beside (p : List Sp) (a : Sp) : List Sp := p.filter fun b => decide (farI a b 0 = 1)
theorem beside_ring {p : List Sp} (hp : Sorted p) (a : Sp) : beside p a = common (ring4 a) p :=
  sorted_ext (sorted_filter hp _) (sorted_common (sorted_ring4 a)) fun x => by
    unfold beside
    rw [List.mem_filter, decide_eq_true_eq, far0_one, mem_common]
    exact And.comm
def borderAt (p : List Sp) (a : Sp) : Bool := decide ((beside p a).length < 4)
def borderL (p : List Sp) : List Sp := p.filter (borderAt p)
theorem border_at {p : List Sp} (hp : Sorted p) {a : Sp} : borderAt p a = false ↔ ∀ b ∈ ring4 a, b ∈ p := by
  unfold borderAt
  rw [decide_eq_false_iff_not, beside_ring hp]
  unfold common
  have h4 : (ring4 a).length = 4 := rfl
  constructor
  · intro h b hb
    have hle := List.length_filter_le (fun x => decide (x ∈ p)) (ring4 a)
    have : ((ring4 a).filter fun x => decide (x ∈ p)).length = (ring4 a).length := by omega
    have := List.length_filter_eq_length_iff.1 this b hb
    simpa using this
  · intro h
    have : ((ring4 a).filter fun x => decide (x ∈ p)).length = (ring4 a).length := List.length_filter_eq_length_iff.2 (fun b hb => by simpa using h b hb)
    omega
theorem borderL_sub (p : List Sp) : Sub (borderL p) p := fun _ hx => (List.mem_filter.1 hx).1
theorem sorted_borderL {p : List Sp} (hp : Sorted p) : Sorted (borderL p) := sorted_filter hp _
theorem ball_1_0 : ballL 1 0 = [(0, -1), (-1, 0), (0, 0), (1, 0), (0, 1)] := by decide +kernel
/-- what is not on the border is inside -/
theorem inside_is {p : List Sp} (hp : Sorted p) : shrinkL p (ballL 1 0) = p.filter fun a => !borderAt p a := by
  refine sorted_ext (sorted_shrinkL hp _) (sorted_filter hp _) fun x => ?_
  rw [mem_shrinkL (by rw [ball_1_0]; simp), List.mem_filter, Bool.not_eq_true', border_at hp, ball_1_0]
  unfold ring4 addS
  simp only [List.mem_cons, List.not_mem_nil, or_false, forall_eq_or_imp, forall_eq]
  have e0 : ((0 + x.1, -1 + x.2) : Sp) = (x.1, x.2 - 1) := by apply sp_ext <;> simp only [] <;> omega
  have e1 : ((-1 + x.1, 0 + x.2) : Sp) = (x.1 - 1, x.2) := by apply sp_ext <;> simp only [] <;> omega
  have e2 : ((0 + x.1, 0 + x.2) : Sp) = x := by apply sp_ext <;> simp only [] <;> omega
  have e3 : ((1 + x.1, 0 + x.2) : Sp) = (x.1 + 1, x.2) := by apply sp_ext <;> simp only [] <;> omega
  have e4 : ((0 + x.1, 1 + x.2) : Sp) = (x.1, x.2 + 1) := by apply sp_ext <;> simp only [] <;> omega
  rw [e0, e1, e2, e3, e4]
  exact ⟨fun h => ⟨h.2.2.1, h.1, h.2.1, h.2.2.2.1, h.2.2.2.2⟩, fun h => ⟨h.2.1, h.2.2.1, h.1, h.2.2.2.1, h.2.2.2.2⟩⟩
theorem inside_apart {p : List Sp} (hp : Sorted p) : common (borderL p) (shrinkL p (ballL 1 0)) = [] := by
  unfold common
  rw [List.filter_eq_nil_iff]
  intro x hx
  have h1 := (List.mem_filter.1 hx).2
  simp only [decide_eq_true_eq]
  rw [inside_is hp, List.mem_filter]
  rintro ⟨_, h2⟩
  rw [h1] at h2; cases h2
theorem inside_count {p : List Sp} (hp : Sorted p) : (borderL p).length + (shrinkL p (ballL 1 0)).length = p.length := by
  rw [inside_is hp]
  exact length_split p _
/-- no picture that is not empty is without a border -/
theorem border_some {p : List Sp} (hp : Sorted p) (h0 : p ≠ []) : borderL p ≠ [] := by
  match p, h0 with
  | a :: q, _ =>
    intro e
    have ha : a ∈ borderL (a :: q) := by
      refine List.mem_filter.2 ⟨List.mem_cons_self .., ?_⟩
      rcases h : borderAt (a :: q) a with _ | _
      · exfalso
        have := (border_at hp).1 h (a.1, a.2 - 1) (by unfold ring4; simp)
        rcases List.mem_cons.1 this with k | k
        · have := congrArg Prod.snd k; simp only at this; omega
        · have := (sorted_cons.1 hp).1 _ k
          unfold Lt at this; simp only at this; omega
      · rfl
    rw [e] at ha; cases ha
/-- lone spots are on the border -/
theorem lone_border {p : List Sp} (hp : Sorted p) : Sub (loneL p) (borderL p) := fun x hx => by
  obtain ⟨h1, h2⟩ := List.mem_filter.1 hx
  refine List.mem_filter.2 ⟨h1, ?_⟩
  rcases h : borderAt p x with _ | _
  · exfalso
    have hm := (border_at hp).1 h (x.1, x.2 - 1) (by unfold ring4; simp)
    unfold loneAt at h2
    rw [decide_eq_true_eq] at h2
    rcases h2 _ hm with e | e
    · have := congrArg Prod.snd e; simp only at this; omega
    · have : farI x (x.1, x.2 - 1) 1 ≤ 1 := by rw [far1_le]; simp only []; omega
      omega
  · rfl
/-- the answers -/
def foundOk (p t u : List Sp) : Bool := picB p && (patB t u && picB (foundL p t u))
def foundR (p t u : List Sp) : List Sp := if foundOk p t u then foundL p t u else []
def thinOk (p t u : List Sp) : Bool := picB p && patB t u
def thinR (p t u : List Sp) : List Sp := if thinOk p t u then thinL p t u else []
structure Found (p t u : List Sp) : Prop where
  pp : picB p = true
  pm : patB t u = true
  pf : picB (foundL p t u) = true
  eq : foundR p t u = foundL p t u
theorem found_is {p t u : List Sp} (h : foundOk p t u = true) : Found p t u := by
  have k := h
  unfold foundOk at k
  simp only [Bool.and_eq_true] at k
  exact ⟨k.1, k.2.1, k.2.2, by unfold foundR; simp [h]⟩
theorem found_no {p t u : List Sp} (h : foundOk p t u = false) : foundR p t u = [] := by unfold foundR; simp [h]
theorem thin_no {p t u : List Sp} (h : thinOk p t u = false) : thinR p t u = [] := by unfold thinR; simp [h]
theorem thin_yes {p t u : List Sp} (h : thinOk p t u = true) : thinR p t u = thinL p t u := by unfold thinR; simp [h]
/-! ### loops of LoneSpots and BorderOf -/

theorem filt_succ {p : List Sp} {f : Sp → Bool} {k : Nat} {a : Sp} (h : p[k]? = some a) : (p.take (k + 1)).filter f = (p.take k).filter f ++ (if f a then [a] else []) := by
  rw [List.take_add_one, h, List.filter_append]
  congr 1
  simp only [Option.toList_some, List.filter_cons, List.filter_nil]
theorem filt_yes {p : List Sp} {f : Sp → Bool} {k : Nat} {a : Sp} (h : p[k]? = some a) (hf : f a = true) : (p.take k).filter f ++ [a] = (p.take (k + 1)).filter f := by
  rw [filt_succ h, hf, if_pos rfl]
theorem filt_no {p : List Sp} {f : Sp → Bool} {k : Nat} {a : Sp} (h : p[k]? = some a) (hf : f a = false) : (p.take k).filter f = (p.take (k + 1)).filter f := by
  rw [filt_succ h, hf, if_neg (by simp), List.append_nil]
theorem filt_len (p : List Sp) (f : Sp → Bool) (k : Nat) : ((p.take k).filter f).length ≤ p.length := by
  refine Nat.le_trans (List.length_filter_le _ _) ?_
  rw [List.length_take]; omega
/-- whether none of the first j, but for number k, is beside a -/
def loneU (p : List Sp) (a : Sp) (k : Nat) : Nat → Bool
  | 0 => true
  | j + 1 => loneU p a k j && (decide (j = k) || decide (1 < farI a (p.getD j a) 1))
theorem loneU_iff {p : List Sp} {a : Sp} {k : Nat} : ∀ {j : Nat}, j ≤ p.length → (loneU p a k j = true ↔ ∀ i b, i < j → p[i]? = some b → i = k ∨ 1 < farI a b 1)
  | 0, _ => ⟨fun _ i b h => by omega, fun _ => rfl⟩
  | j + 1, hj => by
    unfold loneU
    rw [Bool.and_eq_true, Bool.or_eq_true, decide_eq_true_eq, decide_eq_true_eq, loneU_iff (by omega)]
    have hg : ∀ b, p[j]? = some b → p.getD j a = b := fun b hb => by rw [List.getD_eq_getElem?_getD, hb]; rfl
    constructor
    · rintro ⟨h1, h2⟩ i b hi hb
      by_cases e : i = j
      · subst e; rw [hg b hb] at h2; exact h2
      · exact h1 i b (by omega) hb
    · intro h
      refine ⟨fun i b hi hb => h i b (by omega) hb, ?_⟩
      obtain ⟨b, hb⟩ : ∃ b, p[j]? = some b := ⟨_, List.getElem?_eq_getElem (show j < p.length by omega)⟩
      rw [hg b hb]; exact h j b (by omega) hb
theorem loneU_zero (p : List Sp) (a : Sp) (k : Nat) : loneU p a k 0 = true := rfl
theorem loneU_no {p : List Sp} {a : Sp} {k j : Nat} (h : loneU p a k j = false) : loneU p a k (j + 1) = false := by
  unfold loneU; rw [h]; rfl
theorem loneU_same {p : List Sp} {a : Sp} {k : Nat} (h : loneU p a k k = true) : loneU p a k (k + 1) = true := by
  unfold loneU; rw [h]; simp
theorem loneU_far {p : List Sp} {a b : Sp} {k j : Nat} (h : loneU p a k j = true) (hj : j ≠ k) (hb : p[j]? = some b) : loneU p a k (j + 1) = decide (1 < farI a b 1) := by
  unfold loneU
  rw [h, decide_eq_false hj, Bool.true_and, Bool.false_or, List.getD_eq_getElem?_getD, hb]; rfl
theorem loneU_all {p : List Sp} {a : Sp} {k : Nat} (hs : Sorted p) (h : p[k]? = some a) : loneU p a k p.length = loneAt p a := by
  rw [Bool.eq_iff_iff, loneU_iff (Nat.le_refl _)]
  unfold loneAt
  rw [decide_eq_true_eq]
  constructor
  · intro hu b hb
    obtain ⟨i, hi⟩ := List.mem_iff_getElem?.1 hb
    rcases hu i b (List.getElem?_eq_some_iff.1 hi).1 hi with e | e
    · left; rw [e, h] at hi; cases hi; rfl
    · exact Or.inr e
  · intro hl i b _ hb
    rcases hl b (List.mem_of_getElem? hb) with e | e
    · left
      subst e
      rcases Nat.lt_trichotomy i k with hlt | heq | hgt
      · exact absurd (steps_of_sorted hs hlt hb h) (lt_irrefl _)
      · exact heq
      · exact absurd (steps_of_sorted hs hgt h hb) (lt_irrefl _)
    · exact Or.inr e
/-- how many of the first j are beside a -/
def besU (p : List Sp) (a : Sp) (j : Nat) : Nat := ((p.take j).filter fun b => decide (farI a b 0 = 1)).length
theorem besU_zero (p : List Sp) (a : Sp) : besU p a 0 = 0 := rfl
theorem besU_yes {p : List Sp} {a b : Sp} {j : Nat} (hb : p[j]? = some b) (h : farI a b 0 = 1) : besU p a (j + 1) = besU p a j + 1 := by
  unfold besU
  rw [filt_succ hb, List.length_append, decide_eq_true h]; rfl
theorem besU_no {p : List Sp} {a b : Sp} {j : Nat} (hb : p[j]? = some b) (h : ¬ farI a b 0 = 1) : besU p a (j + 1) = besU p a j := by
  unfold besU
  rw [filt_succ hb, List.length_append, decide_eq_false h]; rfl
theorem besU_all (p : List Sp) (a : Sp) : besU p a p.length = (beside p a).length := by
  unfold besU beside; rw [List.take_length]
theorem besU_le (p : List Sp) (a : Sp) (j : Nat) : besU p a j ≤ p.length := filt_len _ _ _
def loneP (p : List Sp) : List Sp := if picB p then loneL p else []
def borderP (p : List Sp) : List Sp := if picB p then borderL p else []
theorem loneP_yes {p : List Sp} (h : picB p = true) : loneP p = loneL p := by unfold loneP; rw [h]; rfl
theorem loneP_no {p : List Sp} (h : picB p = false) : loneP p = [] := by unfold loneP; rw [h]; rfl
theorem borderP_yes {p : List Sp} (h : picB p = true) : borderP p = borderL p := by unfold borderP; rw [h]; rfl
theorem borderP_no {p : List Sp} (h : picB p = false) : borderP p = [] := by unfold borderP; rw [h]; rfl
theorem pic_filter {p : List Sp} (h : picB p = true) (f : Sp → Bool) : picB (p.filter f) = true := by
  have k := picB_pic h
  exact decide_eq_true ⟨Nat.le_trans (List.length_filter_le _ _) k.1, fun a ha => k.2.1 a (List.mem_filter.1 ha).1, sorted_filter k.2.2 f⟩
theorem loneP_le (p : List Sp) : (loneP p).length ≤ 60 := by
  rcases h : picB p with _ | _
  · rw [loneP_no h]; simp
  · rw [loneP_yes h]; exact (picB_pic (pic_filter h _)).1
theorem borderP_le (p : List Sp) : (borderP p).length ≤ 60 := by
  rcases h : picB p with _ | _
  · rw [borderP_no h]; simp
  · rw [borderP_yes h]; exact (picB_pic (pic_filter h _)).1
/-! ### where a pattern is found, round by round -/

/-- where it is found, of the places that the first k spots allow -/
def foundUpto (p t u : List Sp) (c : Sp) (k : Nat) : List Sp := ((p.take k).map fun b => ((b.1 - c.1, b.2 - c.2) : Sp)).filter (patAt p t u)
theorem foundUpto_zero (p t u : List Sp) (c : Sp) : foundUpto p t u c 0 = [] := rfl
theorem foundUpto_yes {p t u : List Sp} {c : Sp} {k : Nat} {x y : Int} (h : p[k]? = some (x, y)) (hf : patAt p t u (x - c.1, y - c.2) = true) : foundUpto p t u c k ++ [(x - c.1, y - c.2)] = foundUpto p t u c (k + 1) := by
  unfold foundUpto
  rw [List.take_add_one, h, List.map_append, List.filter_append]
  congr 1
  simp only [Option.toList_some, List.map_cons, List.map_nil]
  rw [List.filter_cons_of_pos hf]; rfl
theorem foundUpto_no {p t u : List Sp} {c : Sp} {k : Nat} {x y : Int} (h : p[k]? = some (x, y)) (hf : patAt p t u (x - c.1, y - c.2) = false) : foundUpto p t u c k = foundUpto p t u c (k + 1) := by
  unfold foundUpto
  rw [List.take_add_one, h, List.map_append, List.filter_append]
  simp only [Option.toList_some, List.map_cons, List.map_nil]
  rw [List.filter_cons_of_neg (by simp [hf]), List.filter_nil, List.append_nil]
theorem foundUpto_all {p t u : List Sp} {c : Sp} (h : t[0]? = some c) : foundUpto p t u c p.length = foundL p t u := by
  have ht : t ≠ [] := fun e => by rw [e] at h; cases h
  have hs : foundL p t u = (shUpto p t c p.length).filter (patAt p t u) := by rw [shUpto_all h]; rfl
  rw [hs]
  unfold foundUpto shUpto
  rw [List.filter_filter]
  refine List.filter_congr fun a _ => ?_
  rw [Bool.eq_iff_iff, Bool.and_eq_true, decide_eq_true_eq]
  constructor
  · intro k
    exact ⟨k, fun d hd => by rw [addS_comm]; exact (patAt_iff.1 k).1 d hd⟩
  · exact fun k => k.1
theorem length_foundUpto_le (p t u : List Sp) (c : Sp) (k : Nat) : (foundUpto p t u c k).length ≤ p.length := by
  unfold foundUpto
  refine Nat.le_trans (List.length_filter_le _ _) ?_
  rw [List.length_map]; exact List.length_take_le' _ _
theorem found_no1 {p t u : List Sp} (h : picB p = false) : foundOk p t u = false ∧ foundR p t u = [] := by
  have : foundOk p t u = false := by unfold foundOk; rw [h]; rfl
  exact ⟨this, found_no this⟩
theorem found_no2 {p t u : List Sp} (h : patB t u = false) : foundOk p t u = false ∧ foundR p t u = [] := by
  have : foundOk p t u = false := by unfold foundOk; rw [h, Bool.false_and, Bool.and_false]
  exact ⟨this, found_no this⟩
theorem found_no3 {p t u : List Sp} (h : picB (foundL p t u) = false) : foundOk p t u = false ∧ foundR p t u = [] := by
  have : foundOk p t u = false := by unfold foundOk; rw [h, Bool.and_false, Bool.and_false]
  exact ⟨this, found_no this⟩
theorem found_yes {p t u : List Sp} (h : picB p = true) (k : patB t u = true) (l : picB (foundL p t u) = true) : foundOk p t u = true ∧ foundR p t u = foundL p t u := by
  have : foundOk p t u = true := by unfold foundOk; rw [h, k, l]; rfl
  exact ⟨this, by unfold foundR; rw [this, if_pos rfl]⟩
end Go.Proofs.Ytebgcmnajkophaa
