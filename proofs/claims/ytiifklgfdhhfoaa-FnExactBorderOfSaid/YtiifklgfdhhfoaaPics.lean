/-
  Plain facts on pictures as lists of pairs of integers: their order, that two lists in order with the same spots are equal, putting a spot in, unions, what is common, moves and half turns. No program is named. No conditions but those that stand in each theorem.
-/
namespace Go.Proofs.Ytiifklgfdhhfoaa
abbrev Sp := Int × Int

/-- a is before b -/
def Lt (a b : Sp) : Prop := a.2 < b.2 ∨ (a.2 = b.2 ∧ a.1 < b.1)
instance (a b : Sp) : Decidable (Lt a b) := by unfold Lt; exact inferInstance
def ltB (a b : Sp) : Bool := decide (a.2 < b.2) || (decide (a.2 = b.2) && decide (a.1 < b.1))
theorem ltB_iff {a b : Sp} : ltB a b = true ↔ Lt a b := by simp [ltB, Lt]
theorem ltB_no {a b : Sp} : ltB a b = false ↔ ¬ Lt a b := by rw [← ltB_iff]; simp
/-- the comparison: -1, 0, 1 -/
def cmpI (a b : Int) : Int := if a < b then -1 else if b < a then 1 else 0
def orI (x y : Int) : Int := if x = 0 then y else x
def ordI (a b : Sp) : Int := orI (cmpI a.2 b.2) (cmpI a.1 b.1)

theorem lt_irrefl (a : Sp) : ¬ Lt a a := by unfold Lt; omega
theorem lt_trans {a b c : Sp} (h : Lt a b) (k : Lt b c) : Lt a c := by unfold Lt at *; omega
theorem lt_asymm {a b : Sp} (h : Lt a b) : ¬ Lt b a := by unfold Lt at *; omega
theorem lt_ne {a b : Sp} (h : Lt a b) : a ≠ b := by rintro rfl; exact lt_irrefl _ h
theorem sp_ext {a b : Sp} (h : a.1 = b.1) (k : a.2 = b.2) : a = b := by cases a; cases b; simp_all
theorem lt_total (a b : Sp) : Lt a b ∨ a = b ∨ Lt b a := by
  rcases Int.lt_trichotomy a.2 b.2 with h | h | h
  · exact .inl (.inl h)
  · rcases Int.lt_trichotomy a.1 b.1 with k | k | k
    · exact .inl (.inr ⟨h, k⟩)
    · exact .inr (.inl (sp_ext k h))
    · exact .inr (.inr (.inr ⟨h.symm, k⟩))
  · exact .inr (.inr (.inl h))

theorem cmpI_neg {a b : Int} : cmpI a b < 0 ↔ a < b := by unfold cmpI; split <;> (try split) <;> omega
theorem cmpI_pos {a b : Int} : 0 < cmpI a b ↔ b < a := by unfold cmpI; split <;> (try split) <;> omega
theorem cmpI_zero {a b : Int} : cmpI a b = 0 ↔ a = b := by unfold cmpI; split <;> (try split) <;> omega
theorem cmpI_rng (a b : Int) : -1 ≤ cmpI a b ∧ cmpI a b ≤ 1 := by unfold cmpI; split <;> (try split) <;> omega
theorem ordI_neg {a b : Sp} : ordI a b < 0 ↔ Lt a b := by
  unfold ordI orI Lt
  split
  · rename_i h; rw [cmpI_zero] at h; rw [cmpI_neg]; omega
  · rename_i h; rw [cmpI_zero] at h; rw [cmpI_neg]; omega
theorem ordI_pos {a b : Sp} : 0 < ordI a b ↔ Lt b a := by
  unfold ordI orI Lt
  split
  · rename_i h; rw [cmpI_zero] at h; rw [cmpI_pos]; omega
  · rename_i h; rw [cmpI_zero] at h; rw [cmpI_pos]; omega
theorem ordI_zero {a b : Sp} : ordI a b = 0 ↔ a = b := by
  unfold ordI orI
  constructor
  · intro h
    split at h
    · rename_i k; exact sp_ext (cmpI_zero.1 h) (cmpI_zero.1 k)
    · rename_i k; exact absurd h k
  · rintro rfl
    rw [if_pos (cmpI_zero.2 rfl)]; exact cmpI_zero.2 rfl
theorem ordI_rng (a b : Sp) : -1 ≤ ordI a b ∧ ordI a b ≤ 1 := by unfold ordI orI; split <;> exact cmpI_rng _ _

theorem ordI_m1 {a b : Sp} (h : Lt a b) : ordI a b = -1 := by have := ordI_neg.2 h; have := ordI_rng a b; omega
theorem ordI_p1 {a b : Sp} (h : Lt b a) : ordI a b = 1 := by have := ordI_pos.2 h; have := ordI_rng a b; omega

def InR (a : Sp) : Prop := -30 ≤ a.1 ∧ a.1 ≤ 30 ∧ -30 ≤ a.2 ∧ a.2 ≤ 30
instance (a : Sp) : Decidable (InR a) := by unfold InR; exact inferInstance
def inB (x y f : Int) : Bool := decide (-f ≤ x ∧ x ≤ f ∧ -f ≤ y ∧ y ≤ f)
theorem inB_yes {x y : Int} (h : InR (x, y)) : inB x y 30 = true := by unfold InR at h; unfold inB; simp at *; omega
theorem inB_no {x y : Int} (h : ¬ InR (x, y)) : inB x y 30 = false := by unfold InR at h; unfold inB; simp at *; omega
def Sorted (ps : List Sp) : Prop := ps.Pairwise Lt
instance (ps : List Sp) : Decidable (Sorted ps) := by unfold Sorted; exact inferInstance
/-- a picture -/
def Pic (ps : List Sp) : Prop := ps.length ≤ 60 ∧ (∀ a ∈ ps, InR a) ∧ Sorted ps
instance (ps : List Sp) : Decidable (Pic ps) := by unfold Pic; exact inferInstance
def picB (ps : List Sp) : Bool := decide (Pic ps)

/-- what the loop asks at place k -/
def OkAt (ps : List Sp) (k : Nat) : Prop := ∀ a, ps[k]? = some a → InR a ∧ ∀ b, 0 < k → ps[k - 1]? = some b → Lt b a

theorem sorted_of_steps : ∀ (ps : List Sp), (∀ k a b, ps[k]? = some a → ps[k + 1]? = some b → Lt a b) → Sorted ps
  | [], _ => List.Pairwise.nil
  | [a], _ => List.pairwise_singleton _ _
  | a :: b :: ps, h => by
    have ih : Sorted (b :: ps) := sorted_of_steps (b :: ps) (fun k x y hx hy => h (k + 1) x y (by simpa using hx) (by simpa using hy))
    have hab : Lt a b := h 0 a b rfl rfl
    refine List.pairwise_cons.2 ⟨fun c hc => ?_, ih⟩
    rcases List.mem_cons.1 hc with rfl | hc
    · exact hab
    · exact lt_trans hab ((List.pairwise_cons.1 ih).1 c hc)

theorem steps_of_sorted {ps : List Sp} (h : Sorted ps) {i j : Nat} {a b : Sp} (hij : i < j) (ha : ps[i]? = some a) (hb : ps[j]? = some b) : Lt a b := by
  obtain ⟨hi, rfl⟩ := List.getElem?_eq_some_iff.1 ha
  obtain ⟨hj, rfl⟩ := List.getElem?_eq_some_iff.1 hb
  exact List.pairwise_iff_getElem.1 h i j hi hj hij

theorem pic_iff (ps : List Sp) : Pic ps ↔ ps.length ≤ 60 ∧ ∀ k, k < ps.length → OkAt ps k := by
  constructor
  · rintro ⟨h1, h2, h3⟩
    refine ⟨h1, fun k hk a ha => ⟨h2 a (List.mem_of_getElem? ha), fun b h0 hb => steps_of_sorted h3 (by omega) hb ha⟩⟩
  · rintro ⟨h1, h2⟩
    refine ⟨h1, fun a ha => ?_, sorted_of_steps _ fun k a b ha hb => ?_⟩
    · obtain ⟨k, hk⟩ := List.mem_iff_getElem?.1 ha
      exact (h2 k (List.getElem?_eq_some_iff.1 hk).1 a hk).1
    · exact (h2 (k + 1) (List.getElem?_eq_some_iff.1 hb).1 b hb).2 a (by omega) (by simpa using ha)

theorem pic_nil : Pic [] := by decide
theorem picB_yes {ps : List Sp} (h1 : ps.length ≤ 60) (h2 : ∀ j, j < ps.length → OkAt ps j) : picB ps = true := decide_eq_true ((pic_iff ps).2 ⟨h1, h2⟩)
theorem picB_no {ps : List Sp} {j : Nat} (h0 : j < ps.length) (h : ¬ OkAt ps j) : picB ps = false := decide_eq_false fun hp => h (((pic_iff ps).1 hp).2 j h0)
theorem okAt_zero {ps : List Sp} {k : Nat} {a : Sp} (hk : k ≤ 0) (h : ps[k]? = some a) (hi : InR a) : OkAt ps k := fun b hb => by
  rw [h] at hb; cases hb; exact ⟨hi, fun c h0 => by omega⟩
theorem okAt_succ {ps : List Sp} {k : Nat} {a b : Sp} (h : ps[k]? = some a) (hb : ps[k - 1]? = some b) (hi : InR a) (hl : Lt b a) : OkAt ps k := fun c hc => by
  rw [h] at hc; cases hc; exact ⟨hi, fun d _ hd => by rw [hb] at hd; cases hd; exact hl⟩
theorem okAt_not_in {ps : List Sp} {k : Nat} {a : Sp} (h : ps[k]? = some a) (hi : ¬ InR a) : ¬ OkAt ps k := fun hc => hi (hc a h).1
theorem okAt_not_lt {ps : List Sp} {k : Nat} {a b : Sp} (h : ps[k]? = some a) (h0 : 0 < k) (hb : ps[k - 1]? = some b) (hi : ¬ Lt b a) : ¬ OkAt ps k := fun hc => hi ((hc a h).2 b h0 hb)
theorem upto_succ {P : Nat → Prop} {k : Nat} (h : ∀ j, j < k → P j) (hk : P k) : ∀ j, j < k + 1 → P j := fun j hj => by
  by_cases e : j = k
  · rw [e]; exact hk
  · exact h j (by omega)

/-- two lists in order with the same spots are equal -/
theorem sorted_ext : ∀ {a b : List Sp}, Sorted a → Sorted b → (∀ x, x ∈ a ↔ x ∈ b) → a = b
  | [], [], _, _, _ => rfl
  | [], y :: b, _, _, h => absurd ((h y).2 (List.mem_cons_self ..)) (by simp)
  | x :: a, [], _, _, h => absurd ((h x).1 (List.mem_cons_self ..)) (by simp)
  | x :: a, y :: b, ha, hb, h => by
    obtain ⟨ha1, ha2⟩ := List.pairwise_cons.1 ha
    obtain ⟨hb1, hb2⟩ := List.pairwise_cons.1 hb
    have hxy : x = y := by
      rcases List.mem_cons.1 ((h x).1 (List.mem_cons_self ..)) with e | hx
      · exact e
      · rcases List.mem_cons.1 ((h y).2 (List.mem_cons_self ..)) with e | hy
        · exact e.symm
        · exact absurd (hb1 x hx) (lt_asymm (ha1 y hy))
    subst hxy
    have : a = b := sorted_ext ha2 hb2 fun z => by
      constructor
      · intro hz
        rcases List.mem_cons.1 ((h z).1 (List.mem_cons_of_mem _ hz)) with e | hz'
        · exact absurd (ha1 z hz) (by rw [e]; exact lt_irrefl _)
        · exact hz'
      · intro hz
        rcases List.mem_cons.1 ((h z).2 (List.mem_cons_of_mem _ hz)) with e | hz'
        · exact absurd (hb1 z hz) (by rw [e]; exact lt_irrefl _)
        · exact hz'
    rw [this]

theorem sorted_nodup {a : List Sp} (h : Sorted a) : a.Nodup := h.imp fun h => lt_ne h
theorem sorted_filter {a : List Sp} (h : Sorted a) (p : Sp → Bool) : Sorted (a.filter p) := List.Pairwise.sublist List.filter_sublist h
theorem sorted_take {a : List Sp} (h : Sorted a) (n : Nat) : Sorted (a.take n) := List.Pairwise.sublist (List.take_sublist n a) h
theorem sorted_drop {a : List Sp} (h : Sorted a) (n : Nat) : Sorted (a.drop n) := List.Pairwise.sublist (List.drop_sublist n a) h

/-- where a further spot goes: the loop goes down from k -/
def atOf (ps : List Sp) (a : Sp) : Nat → Nat
  | 0 => 0
  | k + 1 => if Lt a (ps.getD k (0, 0)) then atOf ps a k else k + 1
theorem atOf_le (ps : List Sp) (a : Sp) : ∀ k, atOf ps a k ≤ k
  | 0 => Nat.le_refl _
  | k + 1 => by
    unfold atOf
    split
    · exact Nat.le_succ_of_le (atOf_le ps a k)
    · exact Nat.le_refl _
/-- a list in order with a further spot -/
def put (ps : List Sp) (a : Sp) : List Sp :=
  let t := atOf ps a ps.length
  if 0 < t ∧ ps.getD (t - 1) (0, 0) = a then ps else ps.take t ++ a :: ps.drop t

theorem atOf_hi (ps : List Sp) (a : Sp) : ∀ k, k ≤ ps.length → ∀ j, atOf ps a k ≤ j → j < k → Lt a (ps.getD j (0, 0))
  | 0, _, j, _, hj => by omega
  | k + 1, hk, j, h1, h2 => by
    unfold atOf at h1
    split at h1
    · rename_i hl
      by_cases e : j = k
      · subst e; exact hl
      · exact atOf_hi ps a k (by omega) j h1 (by omega)
    · omega
theorem atOf_lo (ps : List Sp) (a : Sp) : ∀ k, 0 < atOf ps a k → ¬ Lt a (ps.getD (atOf ps a k - 1) (0, 0))
  | 0, h => by simp [atOf] at h
  | k + 1, h => by
    unfold atOf at h ⊢
    split
    · rename_i hl
      rw [if_pos hl] at h
      exact atOf_lo ps a k h
    · rename_i hl; simpa using hl

theorem getD_mem {ps : List Sp} {j : Nat} (h : j < ps.length) : ps.getD j (0, 0) ∈ ps := by
  rw [List.getD_eq_getElem?_getD, List.getElem?_eq_getElem h]; exact List.getElem_mem h
theorem getD_some {ps : List Sp} {j : Nat} (h : j < ps.length) : ps[j]? = some (ps.getD j (0, 0)) := by
  rw [List.getD_eq_getElem?_getD, List.getElem?_eq_getElem h]; rfl

theorem mem_put {ps : List Sp} {a x : Sp} : x ∈ put ps a ↔ x = a ∨ x ∈ ps := by
  unfold put
  simp only []
  split
  · rename_i h
    have hm : a ∈ ps := by
      rw [← h.2]
      exact getD_mem (by have := atOf_le ps a ps.length; omega)
    constructor
    · exact .inr
    · rintro (rfl | h)
      · exact hm
      · exact h
  · rw [List.mem_append, List.mem_cons]
    constructor
    · rintro (h | h | h)
      · exact .inr (List.mem_of_mem_take h)
      · exact .inl h
      · exact .inr (List.mem_of_mem_drop h)
    · rintro (h | h)
      · exact .inr (.inl h)
      · rw [← List.take_append_drop (atOf ps a ps.length) ps, List.mem_append] at h
        rcases h with h | h
        · exact .inl h
        · exact .inr (.inr h)

theorem sorted_put {ps : List Sp} {a : Sp} (hs : Sorted ps) : Sorted (put ps a) := by
  unfold put
  simp only []
  split
  · exact hs
  · rename_i h
    have hle := atOf_le ps a ps.length
    generalize ht : atOf ps a ps.length = t at *
    have hlo : ∀ x ∈ ps.take t, Lt x a := by
      intro x hx
      obtain ⟨j, hj⟩ := List.mem_iff_getElem?.1 hx
      have hjt : j < t := by
        have := (List.getElem?_eq_some_iff.1 hj).1
        simp at this; omega
      have hj' : ps[j]? = some x := by rw [List.getElem?_take] at hj; simpa [hjt] using hj
      have h1 : ¬ Lt a (ps.getD (t - 1) (0, 0)) := by
        have := atOf_lo ps a ps.length (by omega)
        rwa [ht] at this
      have h2 : ps.getD (t - 1) (0, 0) ≠ a := fun e => h ⟨by omega, e⟩
      have h3 : Lt (ps.getD (t - 1) (0, 0)) a := by
        rcases lt_total a (ps.getD (t - 1) (0, 0)) with k | k | k
        · exact absurd k h1
        · exact absurd k.symm h2
        · exact k
      by_cases e : j = t - 1
      · subst e
        rw [getD_some (by omega)] at hj'
        cases hj'
        exact h3
      · exact lt_trans (steps_of_sorted hs (by omega : j < t - 1) hj' (getD_some (by omega))) h3
    have hhi : ∀ x ∈ ps.drop t, Lt a x := by
      intro x hx
      obtain ⟨j, hj⟩ := List.mem_iff_getElem?.1 hx
      rw [List.getElem?_drop] at hj
      have hjl := (List.getElem?_eq_some_iff.1 hj).1
      have := atOf_hi ps a ps.length (Nat.le_refl _) (t + j) (by omega) hjl
      rw [getD_some hjl] at hj
      cases hj
      exact this
    refine List.pairwise_append.2 ⟨sorted_take hs t, List.pairwise_cons.2 ⟨hhi, sorted_drop hs t⟩, fun x hx y hy => ?_⟩
    rcases List.mem_cons.1 hy with rfl | hy
    · exact hlo x hx
    · exact lt_trans (hlo x hx) (hhi y hy)

theorem length_put_le (ps : List Sp) (a : Sp) : (put ps a).length ≤ ps.length + 1 := by
  unfold put
  simp only []
  split
  · omega
  · simp; omega
theorem length_le_put (ps : List Sp) (a : Sp) : ps.length ≤ (put ps a).length := by
  unfold put
  simp only []
  split
  · omega
  · simp; omega

/-- all of q put into p, one after the other -/
def puts (p q : List Sp) : List Sp := q.foldl put p
theorem mem_puts : ∀ {q p : List Sp} {x : Sp}, x ∈ puts p q ↔ x ∈ p ∨ x ∈ q
  | [], p, x => by simp [puts]
  | a :: q, p, x => by
    have : puts p (a :: q) = puts (put p a) q := rfl
    rw [this, mem_puts, mem_put, List.mem_cons]
    constructor
    · rintro ((h | h) | h)
      · exact .inr (.inl h)
      · exact .inl h
      · exact .inr (.inr h)
    · rintro (h | h | h)
      · exact .inl (.inr h)
      · exact .inl (.inl h)
      · exact .inr h
theorem sorted_puts : ∀ {q p : List Sp}, Sorted p → Sorted (puts p q)
  | [], _, h => h
  | a :: q, p, h => by
    have : puts p (a :: q) = puts (put p a) q := rfl
    rw [this]; exact sorted_puts (sorted_put h)
theorem length_puts_le : ∀ (q p : List Sp), (puts p q).length ≤ p.length + q.length
  | [], p => by simp [puts]
  | a :: q, p => by
    have h1 : puts p (a :: q) = puts (put p a) q := rfl
    have := length_puts_le q (put p a)
    have := length_put_le p a
    rw [h1]; simp; omega

/-- what is common -/
def common (p q : List Sp) : List Sp := p.filter fun a => decide (a ∈ q)
theorem mem_common {p q : List Sp} {x : Sp} : x ∈ common p q ↔ x ∈ p ∧ x ∈ q := by simp [common]
theorem sorted_common {p q : List Sp} (h : Sorted p) : Sorted (common p q) := sorted_filter h _
theorem common_comm {p q : List Sp} (hp : Sorted p) (hq : Sorted q) : common p q = common q p :=
  sorted_ext (sorted_common hp) (sorted_common hq) fun x => by rw [mem_common, mem_common]; exact And.comm
theorem length_common_le (p q : List Sp) : (common p q).length ≤ p.length := List.length_filter_le _ _

end Go.Proofs.Ytiifklgfdhhfoaa
