/-
  Plain facts on the three ways to tell distances, balls, and how far a spot is from a list of spots. No program is named. No conditions but those that stand in each theorem.
-/
import Derived.Test.YtiifklgfdhhfoaaBetw
import Derived.Test.YtiifklgfdhhfoaaShrinkP
import Derived.Test.YtiifklgfdhhfoaaAns
namespace Go.Proofs.Ytiifklgfdhhfoaa

theorem intCases (a b : Int) : a < b ∨ b ≤ a := by omega
def absI (d : Int) : Int := if d < -d then -d else d
def maxI (x y : Int) : Int := if x < y then y else x
/-- how far two spots are apart in a way (every other way than 0 and 1 is as the way 2) -/
def farI (a b : Sp) (way : Int) : Int :=
  if way = 0 then absI (a.1 - b.1) + absI (a.2 - b.2)
  else if way = 1 then maxI (absI (a.1 - b.1)) (absI (a.2 - b.2))
  else maxI (maxI (absI (a.1 - b.1)) (absI (a.2 - b.2))) ((2 * (absI (a.1 - b.1) + absI (a.2 - b.2)) + 2) / 3)
theorem absI_nonneg (d : Int) : 0 ≤ absI d := by unfold absI; split <;> omega
theorem absI_swap (x y : Int) : absI (x - y) = absI (y - x) := by unfold absI; split <;> split <;> omega
theorem absI_zero {x y : Int} : absI (x - y) = 0 ↔ x = y := by unfold absI; split <;> omega
theorem absI_tri (x y z : Int) : absI (x - z) ≤ absI (x - y) + absI (y - z) := by unfold absI; split <;> split <;> split <;> omega
theorem maxI_le {x y z : Int} : maxI x y ≤ z ↔ x ≤ z ∧ y ≤ z := by unfold maxI; split <;> omega
theorem le_maxI_left (x y : Int) : x ≤ maxI x y := by unfold maxI; split <;> omega
theorem le_maxI_right (x y : Int) : y ≤ maxI x y := by unfold maxI; split <;> omega
theorem farI_swap (a b : Sp) (way : Int) : farI a b way = farI b a way := by unfold farI; rw [absI_swap a.1 b.1, absI_swap a.2 b.2]
theorem farI_nonneg (a b : Sp) (way : Int) : 0 ≤ farI a b way := by
  have h1 := absI_nonneg (a.1 - b.1)
  have h2 := absI_nonneg (a.2 - b.2)
  unfold farI maxI
  split
  · omega
  · split
    · split <;> omega
    · split <;> split <;> omega
theorem farI_zero {a b : Sp} {way : Int} : farI a b way = 0 ↔ a = b := by
  have h1 := absI_nonneg (a.1 - b.1)
  have h2 := absI_nonneg (a.2 - b.2)
  have z1 := absI_zero (x := a.1) (y := b.1)
  have z2 := absI_zero (x := a.2) (y := b.2)
  constructor
  · intro h
    have : absI (a.1 - b.1) = 0 ∧ absI (a.2 - b.2) = 0 := by
      unfold farI maxI at h
      split at h
      · omega
      · split at h
        · split at h <;> omega
        · split at h <;> split at h <;> omega
    exact sp_ext (z1.1 this.1) (z2.1 this.2)
  · rintro rfl
    have e1 := z1.2 rfl
    have e2 := z2.2 rfl
    unfold farI maxI
    rw [e1, e2]
    split
    · rfl
    · split <;> simp
theorem farI_tri (a b c : Sp) (way : Int) : farI a c way ≤ farI a b way + farI b c way := by
  have h1 := absI_tri a.1 b.1 c.1
  have h2 := absI_tri a.2 b.2 c.2
  have p1 := absI_nonneg (a.1 - b.1)
  have p2 := absI_nonneg (a.2 - b.2)
  have p3 := absI_nonneg (b.1 - c.1)
  have p4 := absI_nonneg (b.2 - c.2)
  unfold farI
  generalize absI (a.1 - c.1) = x at *
  generalize absI (a.2 - c.2) = y at *
  generalize absI (a.1 - b.1) = x1 at *
  generalize absI (a.2 - b.2) = y1 at *
  generalize absI (b.1 - c.1) = x2 at *
  generalize absI (b.2 - c.2) = y2 at *
  split
  · omega
  · split
    · rw [maxI_le]
      have := le_maxI_left x1 y1
      have := le_maxI_right x1 y1
      have := le_maxI_left x2 y2
      have := le_maxI_right x2 y2
      omega
    · have a1 := le_maxI_left (maxI x1 y1) ((2 * (x1 + y1) + 2) / 3)
      have a2 := le_maxI_right (maxI x1 y1) ((2 * (x1 + y1) + 2) / 3)
      have a3 := le_maxI_left (maxI x2 y2) ((2 * (x2 + y2) + 2) / 3)
      have a4 := le_maxI_right (maxI x2 y2) ((2 * (x2 + y2) + 2) / 3)
      have := le_maxI_left x1 y1
      have := le_maxI_right x1 y1
      have := le_maxI_left x2 y2
      have := le_maxI_right x2 y2
      rw [maxI_le, maxI_le]
      omega
theorem far_1_2 (a b : Sp) : farI a b 1 ≤ farI a b 2 := by
  unfold farI; simp only [show ¬ (1 : Int) = 0 by decide, show ¬ (2 : Int) = 0 by decide, show ¬ (2 : Int) = 1 by decide, if_false, if_true]
  exact le_maxI_left _ _
theorem far_2_0 (a b : Sp) : farI a b 2 ≤ farI a b 0 := by
  have h1 := absI_nonneg (a.1 - b.1)
  have h2 := absI_nonneg (a.2 - b.2)
  unfold farI; simp only [show ¬ (2 : Int) = 0 by decide, show ¬ (2 : Int) = 1 by decide, if_false, if_true]
  rw [maxI_le, maxI_le]
  omega
theorem farI_le (a b : Sp) (way : Int) {n : Int} (h1 : absI (a.1 - b.1) ≤ n) (h2 : absI (a.2 - b.2) ≤ n) : farI a b way ≤ 2 * n := by
  have p1 := absI_nonneg (a.1 - b.1)
  have p2 := absI_nonneg (a.2 - b.2)
  unfold farI maxI
  split
  · omega
  · split
    · split <;> omega
    · split <;> split <;> omega
theorem farI_move (a b : Sp) (way : Int) : farI a b way = farI (a.1 - b.1, a.2 - b.2) (0, 0) way := by
  unfold farI; simp only [Int.sub_zero]

def wayOk (way : Int) : Bool := decide (0 ≤ way ∧ way ≤ 2)
/-- DistanceOf's answer -/
def distOk (a b : Sp) (way : Int) : Bool := picB [a] && (picB [b] && wayOk way)
def distI (a b : Sp) (way : Int) : Int := if distOk a b way then farI a b way else -1
theorem picB_one {a : Sp} : picB [a] = true ↔ InR a := by
  unfold picB
  rw [decide_eq_true_eq]
  exact ⟨fun h => h.2.1 a (List.mem_singleton.2 rfl), fun h => ⟨by simp, fun b hb => by rw [List.mem_singleton] at hb; rw [hb]; exact h, List.pairwise_singleton _ _⟩⟩
theorem picB_one_no {a : Sp} : picB [a] = false ↔ ¬ InR a := by rw [← picB_one]; simp
theorem dist_yes {a b : Sp} {way : Int} (h : picB [a] = true) (k : picB [b] = true) (l : wayOk way = true) : distI a b way = farI a b way := by
  unfold distI distOk; rw [h, k, l]; rfl
theorem dist_no1 {a b : Sp} {way : Int} (h : picB [a] = false) : distI a b way = -1 := by unfold distI distOk; rw [h]; rfl
theorem dist_no2 {a b : Sp} {way : Int} (h : picB [b] = false) : distI a b way = -1 := by unfold distI distOk; rw [h, Bool.false_and, Bool.and_false]; rfl
theorem dist_no3 {a b : Sp} {way : Int} (h : wayOk way = false) : distI a b way = -1 := by unfold distI distOk; rw [h, Bool.and_false, Bool.and_false]; rfl
theorem dist_neg {a b : Sp} {way : Int} : distI a b way < 0 ↔ distOk a b way = false := by
  unfold distI
  have := farI_nonneg a b way
  rcases h : distOk a b way with _ | _ <;> simp <;> omega
theorem dist_cases (a b : Sp) (way : Int) : (distOk a b way = true ∧ distI a b way = farI a b way) ∨ (distOk a b way = false ∧ distI a b way = -1) := by
  unfold distI
  rcases h : distOk a b way with _ | _
  · exact Or.inr ⟨rfl, rfl⟩
  · exact Or.inl ⟨rfl, rfl⟩
structure DistOk (a b : Sp) (way : Int) : Prop where
  pa : picB [a] = true
  pb : picB [b] = true
  pw : wayOk way = true
theorem distOk_iff {a b : Sp} {way : Int} : distOk a b way = true ↔ DistOk a b way := by
  unfold distOk
  rw [Bool.and_eq_true, Bool.and_eq_true]
  exact ⟨fun h => ⟨h.1, h.2.1, h.2.2⟩, fun h => ⟨h.pa, h.pb, h.pw⟩⟩

/-! ### balls -/
def ballOk (r way : Int) : Bool := decide (0 ≤ r ∧ r ≤ 3) && wayOk way
def ballL (r way : Int) : List Sp := if ballOk r way then betw (fun a => decide (farI a (0, 0) way ≤ r)) (-r, -r) (r, r) else []
theorem ball_no {r way : Int} (h : ballOk r way = false) : ballL r way = [] := by unfold ballL; rw [h]; rfl
theorem ball_yes {r way : Int} (h : ballOk r way = true) : ballL r way = betw (fun a => decide (farI a (0, 0) way ≤ r)) (-r, -r) (r, r) := by unfold ballL; rw [h]; rfl
theorem far_coord {a : Sp} {way r : Int} (h : farI a (0, 0) way ≤ r) : -r ≤ a.1 ∧ a.1 ≤ r ∧ -r ≤ a.2 ∧ a.2 ≤ r := by
  have p1 := absI_nonneg (a.1 - 0)
  have p2 := absI_nonneg (a.2 - 0)
  have : absI (a.1 - 0) ≤ r ∧ absI (a.2 - 0) ≤ r := by
    unfold farI at h
    split at h
    · simp only at h; omega
    · split at h
      · exact maxI_le.1 h
      · exact maxI_le.1 (maxI_le.1 h).1
  unfold absI at this
  split at this <;> split at this <;> omega
theorem mem_ball {r way : Int} (h : ballOk r way = true) {a : Sp} : a ∈ ballL r way ↔ farI a (0, 0) way ≤ r := by
  rw [ball_yes h, mem_betw]
  constructor
  · rintro ⟨_, _, _, _, k⟩; exact of_decide_eq_true k
  · intro k
    have := far_coord k
    exact ⟨this.1, this.2.1, this.2.2.1, this.2.2.2, decide_eq_true k⟩
theorem sorted_ball (r way : Int) : Sorted (ballL r way) := by
  rcases h : ballOk r way with _ | _
  · rw [ball_no h]; exact List.Pairwise.nil
  · rw [ball_yes h]; exact sorted_betw _ _ _
theorem ball_cases {r way : Int} (h : ballOk r way = true) : (r = 0 ∨ r = 1 ∨ r = 2 ∨ r = 3) ∧ (way = 0 ∨ way = 1 ∨ way = 2) := by
  unfold ballOk wayOk at h
  rw [Bool.and_eq_true, decide_eq_true_eq, decide_eq_true_eq] at h
  omega
/-- all that is asked of the twelve balls, one by one -/
def ballAll (r way : Int) : Bool :=
  picB (ballL r way) && decide (turned (ballL r way) = ballL r way) && decide ((0, 0) ∈ ballL r way)
    && (decide (ballL (r + 1) way = []) || withinB (ballL r way) (ballL (r + 1) way) && (decide (way = 2) || decide (sumOk (ballL r way) (ballL 1 way) = true) && decide (sumR (ballL r way) (ballL 1 way) = ballL (r + 1) way)))
def countAll (r way : Int) : Bool :=
  decide ((way = 0 → ((ballL r way).length : Int) = r * r + (r + 1) * (r + 1)) ∧ (way = 1 → ((ballL r way).length : Int) = (2 * r + 1) * (2 * r + 1)) ∧ r * r + (r + 1) * (r + 1) ≤ ((ballL r way).length : Int) ∧ ((ballL r way).length : Int) ≤ (2 * r + 1) * (2 * r + 1))
theorem ballAll_yes {r way : Int} (h : ballOk r way = true) : ballAll r way = true := by
  obtain ⟨rfl | rfl | rfl | rfl, rfl | rfl | rfl⟩ := ball_cases h <;> decide +kernel
theorem countAll_yes {r way : Int} (h : ballOk r way = true) : countAll r way = true := by
  obtain ⟨rfl | rfl | rfl | rfl, rfl | rfl | rfl⟩ := ball_cases h <;> decide +kernel
theorem picB_ball {r way : Int} : picB (ballL r way) = true := by
  rcases h : ballOk r way with _ | _
  · rw [ball_no h]; decide
  · have := ballAll_yes h
    unfold ballAll at this
    simp only [Bool.and_eq_true] at this
    exact this.1.1.1
theorem ball_nil {r way : Int} : ballL r way = [] ↔ ballOk r way = false := by
  rcases h : ballOk r way with _ | _
  · simp [ball_no h]
  · have := ballAll_yes h
    unfold ballAll at this
    simp only [Bool.and_eq_true, decide_eq_true_eq] at this
    have h0 := this.1.2
    constructor
    · intro e; rw [e] at h0; cases h0
    · intro e; cases e

/-! ### how far from a list -/
/-- the lesser one, if there is one -/
def nearer (best d : Int) : Int := if best < 0 ∨ d < best then d else best
def farFromF (a : Sp) (way : Int) : Int → List Sp → Int
  | best, [] => best
  | best, b :: p => farFromF a way (nearer best (distI a b way)) p
def farFromI (p : List Sp) (a : Sp) (way : Int) : Int := if picB p then farFromF a way (-1) p else -1
theorem farFromF_append (a : Sp) (way : Int) : ∀ (p q : List Sp) (best : Int), farFromF a way best (p ++ q) = farFromF a way (farFromF a way best p) q
  | [], _, _ => rfl
  | _ :: p, q, _ => farFromF_append a way p q _
theorem farFromF_succ {p : List Sp} {a b : Sp} {way : Int} {k : Nat} (h : p[k]? = some b) : farFromF a way (-1) (p.take (k + 1)) = nearer (farFromF a way (-1) (p.take k)) (distI a b way) := by
  rw [List.take_add_one, h, farFromF_append]; rfl
theorem farFromF_rng (a : Sp) (way : Int) : ∀ (p : List Sp) (best : Int), (∀ b ∈ p, distI a b way ≤ 1000) → -1 ≤ best → best ≤ 1000 → -1 ≤ farFromF a way best p ∧ farFromF a way best p ≤ 1000
  | [], best, _, h1, h2 => ⟨h1, h2⟩
  | b :: p, best, h, h1, h2 => by
    have hb := h b (List.mem_cons_self ..)
    have hd : -1 ≤ distI a b way := by
      rcases dist_cases a b way with ⟨_, e⟩ | ⟨_, e⟩ <;> rw [e]
      · have := farI_nonneg a b way; omega
      · omega
    refine farFromF_rng a way p _ (fun c hc => h c (List.mem_cons_of_mem _ hc)) ?_ ?_
    · unfold nearer; split <;> omega
    · unfold nearer; split <;> omega
/-- what the least distance is: one of them, and not more than any -/
structure Least (p : List Sp) (a : Sp) (way n : Int) : Prop where
  some' : ∃ b ∈ p, farI a b way = n
  all : ∀ b ∈ p, n ≤ farI a b way
theorem least_step {p : List Sp} {a : Sp} {way : Int} (ha : picB [a] = true) (hw : wayOk way = true) : ∀ (q r : List Sp) (best : Int), (∀ b ∈ q, picB [b] = true) → Least r a way best → Least (r ++ q) a way (farFromF a way best q)
  | [], r, best, _, h => by rw [List.append_nil]; exact h
  | b :: q, r, best, hq, h => by
    have hd := dist_yes ha (hq b (List.mem_cons_self ..)) hw
    have h' : Least (r ++ [b]) a way (nearer best (distI a b way)) := by
      have hn := farI_nonneg a b way
      obtain ⟨c, hc, e⟩ := h.some'
      have hbn := farI_nonneg a c way
      rw [hd]
      unfold nearer
      by_cases hlt : best < 0 ∨ farI a b way < best
      · rw [if_pos hlt]
        refine ⟨⟨b, by simp, rfl⟩, fun x hx => ?_⟩
        rcases List.mem_append.1 hx with hx | hx
        · have := h.all x hx; omega
        · rw [List.mem_singleton] at hx; subst hx; exact Int.le_refl _
      · rw [if_neg hlt]
        refine ⟨⟨c, List.mem_append_left _ hc, e⟩, fun x hx => ?_⟩
        rcases List.mem_append.1 hx with hx | hx
        · exact h.all x hx
        · rw [List.mem_singleton] at hx; subst hx; omega
    have := least_step (p := p) ha hw q (r ++ [b]) _ (fun c hc => hq c (List.mem_cons_of_mem _ hc)) h'
    rw [List.append_assoc] at this
    exact this
theorem pic_one {p : List Sp} (h : picB p = true) : ∀ b ∈ p, picB [b] = true := fun b hb => picB_one.2 ((picB_pic h).2.1 b hb)
theorem farFrom_least {p : List Sp} {a : Sp} {way : Int} (hp : picB p = true) (h0 : p ≠ []) (ha : picB [a] = true) (hw : wayOk way = true) : Least p a way (farFromI p a way) := by
  unfold farFromI
  rw [hp, if_pos rfl]
  match p, h0 with
  | b :: q, _ =>
    have hb := pic_one hp
    have hd := dist_yes ha (hb b (List.mem_cons_self ..)) hw
    have := least_step (p := []) ha hw q [b] (farI a b way) (fun c hc => hb c (List.mem_cons_of_mem _ hc)) ⟨⟨b, by simp, rfl⟩, fun x hx => by rw [List.mem_singleton] at hx; rw [hx]; exact Int.le_refl _⟩
    have e : farFromF a way (-1) (b :: q) = farFromF a way (farI a b way) q := by
      show farFromF a way (nearer (-1) (distI a b way)) q = _
      rw [hd]; unfold nearer; rw [if_pos (Or.inl (by omega))]
    rw [e]
    exact this
theorem farFromF_bad {a : Sp} {way : Int} (h : ∀ b, distI a b way = -1) : ∀ p : List Sp, farFromF a way (-1) p = -1
  | [] => rfl
  | b :: p => by
    show farFromF a way (nearer (-1) (distI a b way)) p = -1
    rw [h b]
    exact farFromF_bad h p
def farOk (p : List Sp) (a : Sp) (way : Int) : Bool := picB p && (nonE p && (picB [a] && wayOk way))
theorem farFrom_no {p : List Sp} {a : Sp} {way : Int} (h : farOk p a way = false) : farFromI p a way = -1 := by
  unfold farFromI
  rcases hp : picB p with _ | _
  · rfl
  · rw [if_pos rfl]
    unfold farOk at h
    rw [hp, Bool.true_and] at h
    rcases h0 : nonE p with _ | _
    · rw [nonE_no.1 h0]; rfl
    · rw [h0, Bool.true_and] at h
      rcases ha : picB [a] with _ | _
      · exact farFromF_bad (fun b => dist_no1 ha) p
      · rw [ha, Bool.true_and] at h
        exact farFromF_bad (fun b => dist_no3 h) p
structure FarOk (p : List Sp) (a : Sp) (way : Int) : Prop where
  pp : picB p = true
  p0 : p ≠ []
  pa : picB [a] = true
  pw : wayOk way = true
theorem farOk_is {p : List Sp} {a : Sp} {way : Int} (h : farOk p a way = true) : FarOk p a way := by
  unfold farOk at h
  simp only [Bool.and_eq_true] at h
  exact ⟨h.1, nonE_yes.1 h.2.1, h.2.2.1, h.2.2.2⟩
theorem farFrom_is {p : List Sp} {a : Sp} {way : Int} (h : farOk p a way = true) : Least p a way (farFromI p a way) := by
  have k := farOk_is h
  exact farFrom_least k.pp k.p0 k.pa k.pw
theorem farFrom_nonneg {p : List Sp} {a : Sp} {way : Int} (h : farOk p a way = true) : 0 ≤ farFromI p a way := by
  obtain ⟨b, _, e⟩ := (farFrom_is h).some'
  have := farI_nonneg a b way; omega
theorem farFrom_neg {p : List Sp} {a : Sp} {way : Int} : farFromI p a way < 0 ↔ farOk p a way = false := by
  rcases h : farOk p a way with _ | _
  · simp [farFrom_no h]
  · have := farFrom_nonneg h; simp; omega
/-- it is 0 exactly for spots of the picture -/
theorem farFrom_zero {p : List Sp} {a : Sp} {way : Int} (h : farOk p a way = true) : farFromI p a way = 0 ↔ a ∈ p := by
  have L := farFrom_is h
  constructor
  · intro e
    obtain ⟨b, hb, e2⟩ := L.some'
    rw [e] at e2
    rw [farI_zero.1 e2]; exact hb
  · intro ha
    have := L.all a ha
    rw [farI_zero.2 rfl] at this
    have := farFrom_nonneg h
    omega
/-- for the spot beside it, it is at most one more, and at least one less -/
theorem farFrom_step {p : List Sp} {a b : Sp} {way : Int} (h : farOk p a way = true) (k : farOk p b way = true) (hd : farI a b way ≤ 1) : farFromI p b way ≤ farFromI p a way + 1 ∧ farFromI p a way - 1 ≤ farFromI p b way := by
  obtain ⟨x, hx, e1⟩ := (farFrom_is h).some'
  obtain ⟨y, hy, e2⟩ := (farFrom_is k).some'
  have h1 := (farFrom_is h).all y hy
  have h2 := (farFrom_is k).all x hx
  have t1 := farI_tri b a x way
  have t2 := farI_tri a b y way
  rw [farI_swap b a] at t1
  omega
theorem far_right (a : Sp) (way : Int) : farI a (a.1 + 1, a.2) way ≤ 1 := by
  rw [farI_move]
  have e : ((a.1 - (a.1 + 1, a.2).1, a.2 - (a.1 + 1, a.2).2) : Sp) = (-1, 0) := by apply sp_ext <;> simp only [] <;> omega
  rw [e]
  unfold farI
  split
  · decide
  · split <;> decide

/-! ### grown by a ball -/
def grownBallOk (p : List Sp) (r way : Int) : Bool := ballOk r way && sumOk p (ballL r way)
def grownBallR (p : List Sp) (r way : Int) : List Sp := if ballOk r way then sumR p (ballL r way) else []
theorem grownBall_no {p : List Sp} {r way : Int} (h : ballOk r way = false) : grownBallOk p r way = false ∧ grownBallR p r way = [] := by unfold grownBallOk grownBallR; simp [h]
theorem grownBall_yes {p : List Sp} {r way : Int} (h : ballOk r way = true) : grownBallOk p r way = sumOk p (ballL r way) ∧ grownBallR p r way = sumR p (ballL r way) := by unfold grownBallOk grownBallR; simp [h]
/-- it has just the spots that are at most the radius from the picture -/
theorem grownBall_near {p : List Sp} {r way : Int} {a : Sp} (h : grownBallOk p r way = true) (ha : InR a) : (hasB (grownBallR p r way) a = true) ↔ (0 ≤ farFromI p a way ∧ farFromI p a way ≤ r) := by
  unfold grownBallOk at h
  rw [Bool.and_eq_true] at h
  have hs := sum_is h.2
  have hw : wayOk way = true := by have := h.1; unfold ballOk at this; rw [Bool.and_eq_true] at this; exact this.2
  rw [(grownBall_yes h.1).2, hs.eq, hasB_yes hs.ps, decide_eq_true_eq, mem_sumL]
  constructor
  · rintro ⟨b, c, hb, hc, rfl⟩
    have hf : farOk p (addS b c) way = true := by
      unfold farOk
      rw [hs.pp, nonE_yes.2 (fun e => by rw [e] at hb; cases hb), picB_one.2 ha, hw]; rfl
    have := (farFrom_is hf).all b hb
    have hcr := (mem_ball h.1).1 hc
    have e : farI (addS b c) b way = farI c (0, 0) way := by
      rw [farI_move]; congr 1
      unfold addS; apply sp_ext <;> simp only [] <;> omega
    have := farFrom_nonneg hf
    omega
  · rintro ⟨h1, h2⟩
    have hf : farOk p a way = true := by
      rcases k : farOk p a way with _ | _
      · rw [farFrom_no k] at h1; omega
      · rfl
    obtain ⟨b, hb, e⟩ := (farFrom_is hf).some'
    refine ⟨b, (a.1 - b.1, a.2 - b.2), hb, (mem_ball h.1).2 ?_, ?_⟩
    · rw [← farI_move]; omega
    · unfold addS; apply sp_ext <;> simp only [] <;> omega
end Go.Proofs.Ytiifklgfdhhfoaa
