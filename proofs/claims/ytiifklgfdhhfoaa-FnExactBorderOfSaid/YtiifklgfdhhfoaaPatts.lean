/-
  Plain facts on patterns: where they are found, what is thinned, lone spots, and borders. No program is named. No conditions but those that stand in each theorem.
-/
import Derived.Test.YtiifklgfdhhfoaaBalls
namespace Go.Proofs.Ytiifklgfdhhfoaa

def small3 (p : List Sp) : Bool := decide (∀ a ∈ p, -3 ≤ a.1 ∧ a.1 ≤ 3 ∧ -3 ≤ a.2 ∧ a.2 ≤ 3)
/-- PatternOk's answer: t must be there, u must not -/
def patB (t u : List Sp) : Bool := small3 (t ++ u) && (picB t && (picB u && (decide (common t u = []) && (decide (1 ≤ t.length ∧ t.length ≤ 9) && decide (u.length ≤ 9)))))
structure PatOk (t u : List Sp) : Prop where
  small : ∀ a ∈ t ++ u, -3 ≤ a.1 ∧ a.1 ≤ 3 ∧ -3 ≤ a.2 ∧ a.2 ≤ 3
  pt : picB t = true
  pu : picB u = true
  apart : common t u = []
  t1 : 1 ≤ t.length
  t9 : t.length ≤ 9
  u9 : u.length ≤ 9
theorem patB_iff {t u : List Sp} : patB t u = true ↔ PatOk t u := by
  unfold patB small3
  simp only [Bool.and_eq_true, decide_eq_true_eq]
  exact ⟨fun ⟨h1, h2, h3, h4, ⟨h5, h6⟩, h7⟩ => ⟨h1, h2, h3, h4, h5, h6, h7⟩, fun h => ⟨h.small, h.pt, h.pu, h.apart, ⟨h.t1, h.t9⟩, h.u9⟩⟩
theorem PatOk.t0 {t u : List Sp} (h : PatOk t u) : t ≠ [] := fun e => by have := h.t1; rw [e] at this; simp at this
/-- a pattern without all that must not be there -/
theorem patB_there {t u : List Sp} (h : patB t u = true) : patB t [] = true := by
  have k := patB_iff.1 h
  refine patB_iff.2 ⟨fun a ha => k.small a ?_, k.pt, by decide, ?_, k.t1, k.t9, by simp⟩
  · rw [List.append_nil] at ha; exact List.mem_append_left _ ha
  · unfold common; rw [List.filter_eq_nil_iff]; intro a _; simp

/-- whether a pattern is found at a spot -/
def patAt (p t u : List Sp) (x : Sp) : Bool := decide (∀ d ∈ t, addS x d ∈ p) && decide (∀ d ∈ u, ¬ addS x d ∈ p)
theorem patAt_iff {p t u : List Sp} {x : Sp} : patAt p t u x = true ↔ (∀ d ∈ t, addS x d ∈ p) ∧ ∀ d ∈ u, ¬ addS x d ∈ p := by
  unfold patAt; rw [Bool.and_eq_true, decide_eq_true_eq, decide_eq_true_eq]
/-- all spots at which it is found -/
def foundL (p t u : List Sp) : List Sp := (shrinkL p t).filter (patAt p t u)
theorem mem_foundL {p t u : List Sp} (ht : t ≠ []) {x : Sp} : x ∈ foundL p t u ↔ patAt p t u x = true := by
  unfold foundL
  rw [List.mem_filter, mem_shrinkL ht]
  constructor
  · exact fun h => h.2
  · intro h
    exact ⟨fun d hd => by rw [addS_comm]; exact (patAt_iff.1 h).1 d hd, h⟩
theorem sorted_foundL {p t u : List Sp} (hp : Sorted p) : Sorted (foundL p t u) := sorted_filter (sorted_shrinkL hp t) _
theorem length_foundL_le (p t u : List Sp) : (foundL p t u).length ≤ p.length := Nat.le_trans (List.length_filter_le _ _) (length_shrinkL_le _ _)
theorem foundL_there {p t : List Sp} (hp : Sorted p) (ht : t ≠ []) : foundL p t [] = shrinkL p t :=
  sorted_ext (sorted_foundL hp) (sorted_shrinkL hp t) fun x => by
    rw [mem_foundL ht, mem_shrinkL ht, patAt_iff]
    constructor
    · exact fun h d hd => by rw [addS_comm]; exact h.1 d hd
    · exact fun h => ⟨fun d hd => by rw [addS_comm]; exact h d hd, fun d hd => by cases hd⟩
theorem foundL_sub {p t u : List Sp} (ht : t ≠ []) : Sub (foundL p t u) (foundL p t []) := fun _ hx => by
  rw [mem_foundL ht, patAt_iff] at hx ⊢
  exact ⟨hx.1, fun d hd => by cases hd⟩
theorem mem_moved {p : List Sp} {c x : Sp} : x ∈ moved p c ↔ (x.1 - c.1, x.2 - c.2) ∈ p := by
  unfold moved
  rw [List.mem_map]
  constructor
  · rintro ⟨b, hb, rfl⟩
    have : ((b.1 + c.1, b.2 + c.2).1 - c.1, (b.1 + c.1, b.2 + c.2).2 - c.2) = b := by apply sp_ext <;> simp only [] <;> omega
    rw [this]; exact hb
  · intro h
    exact ⟨_, h, by apply sp_ext <;> simp only [] <;> omega⟩
theorem patAt_moved (p t u : List Sp) (c x : Sp) : patAt (moved p c) t u x = patAt p t u (x.1 - c.1, x.2 - c.2) := by
  have e : ∀ d : Sp, addS x d ∈ moved p c ↔ addS (x.1 - c.1, x.2 - c.2) d ∈ p := fun d => by
    rw [mem_moved]
    have : ((addS x d).1 - c.1, (addS x d).2 - c.2) = addS (x.1 - c.1, x.2 - c.2) d := by unfold addS; apply sp_ext <;> simp only [] <;> omega
    rw [this]
  rw [Bool.eq_iff_iff, patAt_iff, patAt_iff]
  simp only [e]
/-- of the picture moved it is moved so -/
theorem foundL_moved {p t u : List Sp} (hp : Sorted p) (ht : t ≠ []) (c : Sp) : foundL (moved p c) t u = moved (foundL p t u) c :=
  sorted_ext (sorted_foundL (sorted_moved hp)) (sorted_moved (sorted_foundL hp)) fun x => by
    rw [mem_moved, mem_foundL ht, mem_foundL ht, patAt_moved]

/-- without all spots at which it is found -/
def thinL (p t u : List Sp) : List Sp := p.filter fun x => !patAt p t u x
theorem sorted_thinL {p t u : List Sp} (hp : Sorted p) : Sorted (thinL p t u) := sorted_filter hp _
theorem thinL_sub (p t u : List Sp) : Sub (thinL p t u) p := fun _ hx => (List.mem_filter.1 hx).1
theorem thin_apart {p t u : List Sp} (ht : t ≠ []) : common (thinL p t u) (foundL p t u) = [] := by
  unfold common
  rw [List.filter_eq_nil_iff]
  intro x hx
  have h1 := (List.mem_filter.1 hx).2
  simp only [decide_eq_true_eq]
  intro h2
  rw [mem_foundL ht] at h2
  rw [h2] at h1; cases h1
theorem length_split (p : List Sp) (f : Sp → Bool) : (p.filter f).length + (p.filter fun x => !f x).length = p.length := by
  induction p with
  | nil => rfl
  | cons a p ih =>
    rcases h : f a with _ | _
    · rw [List.filter_cons_of_neg (by simp [h]), List.filter_cons_of_pos (by simp [h]), List.length_cons, List.length_cons]; omega
    · rw [List.filter_cons_of_pos (by simp [h]), List.filter_cons_of_neg (by simp [h]), List.length_cons, List.length_cons]; omega
theorem thin_count {p t u : List Sp} (ht : t ≠ []) : (common p (foundL p t u)).length + (thinL p t u).length = p.length := by
  have e : common p (foundL p t u) = p.filter (patAt p t u) := by
    unfold common
    refine List.filter_congr fun x _ => ?_
    rw [Bool.eq_iff_iff, decide_eq_true_eq, mem_foundL ht]
  rw [e]
  exact length_split p _

/-! ### lone spots -/
def loneAt (p : List Sp) (a : Sp) : Bool := decide (∀ b ∈ p, b = a ∨ 1 < farI a b 1)
def loneL (p : List Sp) : List Sp := p.filter (loneAt p)
def ring8 : List Sp := [(-1, -1), (0, -1), (1, -1), (-1, 0), (1, 0), (-1, 1), (0, 1), (1, 1)]
theorem pat_ring : patB [(0, 0)] ring8 = true := by decide
theorem far1_le {a b : Sp} : farI a b 1 ≤ 1 ↔ -1 ≤ b.1 - a.1 ∧ b.1 - a.1 ≤ 1 ∧ -1 ≤ b.2 - a.2 ∧ b.2 - a.2 ≤ 1 := by
  unfold farI
  simp only [show ¬ (1 : Int) = 0 by decide, if_false, if_true]
  rw [maxI_le]
  unfold absI
  constructor
  · rintro ⟨h1, h2⟩
    split at h1 <;> split at h2 <;> omega
  · intro h
    constructor <;> split <;> omega
theorem mem_ring8 {d : Sp} : d ∈ ring8 ↔ d ≠ (0, 0) ∧ -1 ≤ d.1 ∧ d.1 ≤ 1 ∧ -1 ≤ d.2 ∧ d.2 ≤ 1 := by
  obtain ⟨x, y⟩ := d
  unfold ring8
  simp only [List.mem_cons, Prod.mk.injEq, List.not_mem_nil, or_false, ne_eq]
  omega
theorem lone_found {p : List Sp} (hp : Sorted p) : foundL p [(0, 0)] ring8 = loneL p := by
  refine sorted_ext (sorted_foundL hp) (sorted_filter hp _) fun x => ?_
  rw [mem_foundL (by simp), patAt_iff]
  unfold loneL loneAt
  rw [List.mem_filter, decide_eq_true_eq]
  have e0 : addS x (0, 0) = x := by unfold addS; apply sp_ext <;> simp
  constructor
  · rintro ⟨h1, h2⟩
    refine ⟨by have := h1 (0, 0) (by simp); rwa [e0] at this, fun b hb => ?_⟩
    by_cases hbx : b = x
    · exact Or.inl hbx
    · right
      rcases intCases 1 (farI x b 1) with k | k
      · exact k
      · exfalso
        have h := far1_le.1 k
        refine h2 (b.1 - x.1, b.2 - x.2) (mem_ring8.2 ⟨fun e => hbx ?_, h.1, h.2.1, h.2.2.1, h.2.2.2⟩) ?_
        · have := Prod.mk.inj e; exact sp_ext (by omega) (by omega)
        · have : addS x (b.1 - x.1, b.2 - x.2) = b := by unfold addS; apply sp_ext <;> simp only [] <;> omega
          rw [this]; exact hb
  · rintro ⟨h1, h2⟩
    refine ⟨fun d hd => by rw [List.mem_singleton] at hd; rw [hd, e0]; exact h1, fun d hd hm => ?_⟩
    obtain ⟨k0, k1, k2, k3, k4⟩ := mem_ring8.1 hd
    rcases h2 _ hm with e | e
    · apply k0
      have := Prod.mk.inj e
      apply sp_ext <;> simp only [] <;> omega
    · have : farI x (addS x d) 1 ≤ 1 := by rw [far1_le]; unfold addS; simp only []; omega
      omega
theorem loneL_sub (p : List Sp) : Sub (loneL p) p := fun _ hx => (List.mem_filter.1 hx).1

/-! ### borders -/
/-- the four spots beside a spot, in order -/
def ring4 (a : Sp) : List Sp := [(a.1, a.2 - 1), (a.1 - 1, a.2), (a.1 + 1, a.2), (a.1, a.2 + 1)]
theorem sorted_ring4 (a : Sp) : Sorted (ring4 a) := by
  unfold ring4
  refine List.pairwise_cons.2 ⟨fun b hb => ?_, List.pairwise_cons.2 ⟨fun b hb => ?_, List.pairwise_cons.2 ⟨fun b hb => ?_, List.pairwise_singleton _ _⟩⟩⟩
  all_goals
    simp only [List.mem_cons, List.not_mem_nil, or_false] at hb
    first
      | (rcases hb with rfl | rfl | rfl <;> (unfold Lt; dsimp only; omega))
      | (rcases hb with rfl | rfl <;> (unfold Lt; dsimp only; omega))
      | (subst hb; unfold Lt; dsimp only; omega)
theorem far0_one {a b : Sp} : farI a b 0 = 1 ↔ b ∈ ring4 a := by
  obtain ⟨x, y⟩ := a
  obtain ⟨u, v⟩ := b
  unfold ring4 farI absI
  simp only [if_true, List.mem_cons, List.not_mem_nil, or_false, Prod.mk.injEq]
  split <;> split <;> omega
def beside (p : List Sp) (a : Sp) : List Sp := p.filter fun b => decide (farI a b 0 = 1)
theorem beside_ring {p : List Sp} (hp : Sorted p) (a : Sp) : beside p a = common (ring4 a) p :=
  sorted_ext (sorted_filter hp _) (sorted_common (sorted_ring4 a)) fun x => by
    unfold beside
    rw [List.mem_filter, decide_eq_true_eq, far0_one, mem_common]
    exact And.comm
def borderAt (p : List Sp) (a : Sp) : Bool := decide ((beside p a).length < 4)
def borderL (p : List Sp) : List Sp := p.filter (borderAt p)
theorem border_at {p : List Sp} (hp : Sorted p) {a : Sp} : borderAt p a = false ↔ ∀ b ∈ ring4 a, b ∈ p := by
  unfold borderAt
  rw [decide_eq_false_iff_not, beside_ring hp]
  unfold common
  have h4 : (ring4 a).length = 4 := rfl
  constructor
  · intro h b hb
    have hle := List.length_filter_le (fun x => decide (x ∈ p)) (ring4 a)
    have : ((ring4 a).filter fun x => decide (x ∈ p)).length = (ring4 a).length := by omega
    have := List.length_filter_eq_length_iff.1 this b hb
    simpa using this
  · intro h
    have : ((ring4 a).filter fun x => decide (x ∈ p)).length = (ring4 a).length := List.length_filter_eq_length_iff.2 (fun b hb => by simpa using h b hb)
    omega
theorem borderL_sub (p : List Sp) : Sub (borderL p) p := fun _ hx => (List.mem_filter.1 hx).1
theorem sorted_borderL {p : List Sp} (hp : Sorted p) : Sorted (borderL p) := sorted_filter hp _
theorem ball_1_0 : ballL 1 0 = [(0, -1), (-1, 0), (0, 0), (1, 0), (0, 1)] := by decide +kernel
/-- what is not on the border is inside -/
theorem inside_is {p : List Sp} (hp : Sorted p) : shrinkL p (ballL 1 0) = p.filter fun a => !borderAt p a := by
  refine sorted_ext (sorted_shrinkL hp _) (sorted_filter hp _) fun x => ?_
  rw [mem_shrinkL (by rw [ball_1_0]; simp), List.mem_filter, Bool.not_eq_true', border_at hp, ball_1_0]
  unfold ring4 addS
  simp only [List.mem_cons, List.not_mem_nil, or_false, forall_eq_or_imp, forall_eq]
  have e0 : ((0 + x.1, -1 + x.2) : Sp) = (x.1, x.2 - 1) := by apply sp_ext <;> simp only [] <;> omega
  have e1 : ((-1 + x.1, 0 + x.2) : Sp) = (x.1 - 1, x.2) := by apply sp_ext <;> simp only [] <;> omega
  have e2 : ((0 + x.1, 0 + x.2) : Sp) = x := by apply sp_ext <;> simp only [] <;> omega
  have e3 : ((1 + x.1, 0 + x.2) : Sp) = (x.1 + 1, x.2) := by apply sp_ext <;> simp only [] <;> omega
  have e4 : ((0 + x.1, 1 + x.2) : Sp) = (x.1, x.2 + 1) := by apply sp_ext <;> simp only [] <;> omega
  rw [e0, e1, e2, e3, e4]
  exact ⟨fun h => ⟨h.2.2.1, h.1, h.2.1, h.2.2.2.1, h.2.2.2.2⟩, fun h => ⟨h.2.1, h.2.2.1, h.1, h.2.2.2.1, h.2.2.2.2⟩⟩
theorem inside_apart {p : List Sp} (hp : Sorted p) : common (borderL p) (shrinkL p (ballL 1 0)) = [] := by
  unfold common
  rw [List.filter_eq_nil_iff]
  intro x hx
  have h1 := (List.mem_filter.1 hx).2
  simp only [decide_eq_true_eq]
  rw [inside_is hp, List.mem_filter]
  rintro ⟨_, h2⟩
  rw [h1] at h2; cases h2
theorem inside_count {p : List Sp} (hp : Sorted p) : (borderL p).length + (shrinkL p (ballL 1 0)).length = p.length := by
  rw [inside_is hp]
  exact length_split p _
/-- no picture that is not empty is without a border -/
theorem border_some {p : List Sp} (hp : Sorted p) (h0 : p ≠ []) : borderL p ≠ [] := by
  match p, h0 with
  | a :: q, _ =>
    intro e
    have ha : a ∈ borderL (a :: q) := by
      refine List.mem_filter.2 ⟨List.mem_cons_self .., ?_⟩
      rcases h : borderAt (a :: q) a with _ | _
      · exfalso
        have := (border_at hp).1 h (a.1, a.2 - 1) (by unfold ring4; simp)
        rcases List.mem_cons.1 this with k | k
        · have := congrArg Prod.snd k; simp only at this; omega
        · have := (sorted_cons.1 hp).1 _ k
          unfold Lt at this; simp only at this; omega
      · rfl
    rw [e] at ha; cases ha
/-- lone spots are on the border -/
theorem lone_border {p : List Sp} (hp : Sorted p) : Sub (loneL p) (borderL p) := fun x hx => by
  obtain ⟨h1, h2⟩ := List.mem_filter.1 hx
  refine List.mem_filter.2 ⟨h1, ?_⟩
  rcases h : borderAt p x with _ | _
  · exfalso
    have hm := (border_at hp).1 h (x.1, x.2 - 1) (by unfold ring4; simp)
    unfold loneAt at h2
    rw [decide_eq_true_eq] at h2
    rcases h2 _ hm with e | e
    · have := congrArg Prod.snd e; simp only at this; omega
    · have : farI x (x.1, x.2 - 1) 1 ≤ 1 := by rw [far1_le]; simp only []; omega
      omega
  · rfl
/-- the answers -/
def foundOk (p t u : List Sp) : Bool := picB p && (patB t u && picB (foundL p t u))
def foundR (p t u : List Sp) : List Sp := if foundOk p t u then foundL p t u else []
def thinOk (p t u : List Sp) : Bool := picB p && patB t u
def thinR (p t u : List Sp) : List Sp := if thinOk p t u then thinL p t u else []
structure Found (p t u : List Sp) : Prop where
  pp : picB p = true
  pm : patB t u = true
  pf : picB (foundL p t u) = true
  eq : foundR p t u = foundL p t u
theorem found_is {p t u : List Sp} (h : foundOk p t u = true) : Found p t u := by
  have k := h
  unfold foundOk at k
  simp only [Bool.and_eq_true] at k
  exact ⟨k.1, k.2.1, k.2.2, by unfold foundR; simp [h]⟩
theorem found_no {p t u : List Sp} (h : foundOk p t u = false) : foundR p t u = [] := by unfold foundR; simp [h]
theorem thin_no {p t u : List Sp} (h : thinOk p t u = false) : thinR p t u = [] := by unfold thinR; simp [h]
theorem thin_yes {p t u : List Sp} (h : thinOk p t u = true) : thinR p t u = thinL p t u := by unfold thinR; simp [h]
/-! ### loops of LoneSpots and BorderOf -/

theorem filt_succ {p : List Sp} {f : Sp → Bool} {k : Nat} {a : Sp} (h : p[k]? = some a) : (p.take (k + 1)).filter f = (p.take k).filter f ++ (if f a then [a] else []) := by
  rw [List.take_add_one, h, List.filter_append]
  congr 1
  simp only [Option.toList_some, List.filter_cons, List.filter_nil]
theorem filt_yes {p : List Sp} {f : Sp → Bool} {k : Nat} {a : Sp} (h : p[k]? = some a) (hf : f a = true) : (p.take k).filter f ++ [a] = (p.take (k + 1)).filter f := by
  rw [filt_succ h, hf, if_pos rfl]
theorem filt_no {p : List Sp} {f : Sp → Bool} {k : Nat} {a : Sp} (h : p[k]? = some a) (hf : f a = false) : (p.take k).filter f = (p.take (k + 1)).filter f := by
  rw [filt_succ h, hf, if_neg (by simp), List.append_nil]
theorem filt_len (p : List Sp) (f : Sp → Bool) (k : Nat) : ((p.take k).filter f).length ≤ p.length := by
  refine Nat.le_trans (List.length_filter_le _ _) ?_
  rw [List.length_take]; omega
/-- whether none of the first j, but for number k, is beside a -/
def loneU (p : List Sp) (a : Sp) (k : Nat) : Nat → Bool
  | 0 => true
  | j + 1 => loneU p a k j && (decide (j = k) || decide (1 < farI a (p.getD j a) 1))
theorem loneU_iff {p : List Sp} {a : Sp} {k : Nat} : ∀ {j : Nat}, j ≤ p.length → (loneU p a k j = true ↔ ∀ i b, i < j → p[i]? = some b → i = k ∨ 1 < farI a b 1)
  | 0, _ => ⟨fun _ i b h => by omega, fun _ => rfl⟩
  | j + 1, hj => by
    unfold loneU
    rw [Bool.and_eq_true, Bool.or_eq_true, decide_eq_true_eq, decide_eq_true_eq, loneU_iff (by omega)]
    have hg : ∀ b, p[j]? = some b → p.getD j a = b := fun b hb => by rw [List.getD_eq_getElem?_getD, hb]; rfl
    constructor
    · rintro ⟨h1, h2⟩ i b hi hb
      by_cases e : i = j
      · subst e; rw [hg b hb] at h2; exact h2
      · exact h1 i b (by omega) hb
    · intro h
      refine ⟨fun i b hi hb => h i b (by omega) hb, ?_⟩
      obtain ⟨b, hb⟩ : ∃ b, p[j]? = some b := ⟨_, List.getElem?_eq_getElem (show j < p.length by omega)⟩
      rw [hg b hb]; exact h j b (by omega) hb
theorem loneU_zero (p : List Sp) (a : Sp) (k : Nat) : loneU p a k 0 = true := rfl
theorem loneU_no {p : List Sp} {a : Sp} {k j : Nat} (h : loneU p a k j = false) : loneU p a k (j + 1) = false := by
  unfold loneU; rw [h]; rfl
theorem loneU_same {p : List Sp} {a : Sp} {k : Nat} (h : loneU p a k k = true) : loneU p a k (k + 1) = true := by
  unfold loneU; rw [h]; simp
theorem loneU_far {p : List Sp} {a b : Sp} {k j : Nat} (h : loneU p a k j = true) (hj : j ≠ k) (hb : p[j]? = some b) : loneU p a k (j + 1) = decide (1 < farI a b 1) := by
  unfold loneU
  rw [h, decide_eq_false hj, Bool.true_and, Bool.false_or, List.getD_eq_getElem?_getD, hb]; rfl
theorem loneU_all {p : List Sp} {a : Sp} {k : Nat} (hs : Sorted p) (h : p[k]? = some a) : loneU p a k p.length = loneAt p a := by
  rw [Bool.eq_iff_iff, loneU_iff (Nat.le_refl _)]
  unfold loneAt
  rw [decide_eq_true_eq]
  constructor
  · intro hu b hb
    obtain ⟨i, hi⟩ := List.mem_iff_getElem?.1 hb
    rcases hu i b (List.getElem?_eq_some_iff.1 hi).1 hi with e | e
    · left; rw [e, h] at hi; cases hi; rfl
    · exact Or.inr e
  · intro hl i b _ hb
    rcases hl b (List.mem_of_getElem? hb) with e | e
    · left
      subst e
      rcases Nat.lt_trichotomy i k with hlt | heq | hgt
      · exact absurd (steps_of_sorted hs hlt hb h) (lt_irrefl _)
      · exact heq
      · exact absurd (steps_of_sorted hs hgt h hb) (lt_irrefl _)
    · exact Or.inr e
/-- how many of the first j are beside a -/
def besU (p : List Sp) (a : Sp) (j : Nat) : Nat := ((p.take j).filter fun b => decide (farI a b 0 = 1)).length
theorem besU_zero (p : List Sp) (a : Sp) : besU p a 0 = 0 := rfl
theorem besU_yes {p : List Sp} {a b : Sp} {j : Nat} (hb : p[j]? = some b) (h : farI a b 0 = 1) : besU p a (j + 1) = besU p a j + 1 := by
  unfold besU
  rw [filt_succ hb, List.length_append, decide_eq_true h]; rfl
theorem besU_no {p : List Sp} {a b : Sp} {j : Nat} (hb : p[j]? = some b) (h : ¬ farI a b 0 = 1) : besU p a (j + 1) = besU p a j := by
  unfold besU
  rw [filt_succ hb, List.length_append, decide_eq_false h]; rfl
theorem besU_all (p : List Sp) (a : Sp) : besU p a p.length = (beside p a).length := by
  unfold besU beside; rw [List.take_length]
theorem besU_le (p : List Sp) (a : Sp) (j : Nat) : besU p a j ≤ p.length := filt_len _ _ _
def loneP (p : List Sp) : List Sp := if picB p then loneL p else []
def borderP (p : List Sp) : List Sp := if picB p then borderL p else []
theorem loneP_yes {p : List Sp} (h : picB p = true) : loneP p = loneL p := by unfold loneP; rw [h]; rfl
theorem loneP_no {p : List Sp} (h : picB p = false) : loneP p = [] := by unfold loneP; rw [h]; rfl
theorem borderP_yes {p : List Sp} (h : picB p = true) : borderP p = borderL p := by unfold borderP; rw [h]; rfl
theorem borderP_no {p : List Sp} (h : picB p = false) : borderP p = [] := by unfold borderP; rw [h]; rfl
theorem pic_filter {p : List Sp} (h : picB p = true) (f : Sp → Bool) : picB (p.filter f) = true := by
  have k := picB_pic h
  exact decide_eq_true ⟨Nat.le_trans (List.length_filter_le _ _) k.1, fun a ha => k.2.1 a (List.mem_filter.1 ha).1, sorted_filter k.2.2 f⟩
theorem loneP_le (p : List Sp) : (loneP p).length ≤ 60 := by
  rcases h : picB p with _ | _
  · rw [loneP_no h]; simp
  · rw [loneP_yes h]; exact (picB_pic (pic_filter h _)).1
theorem borderP_le (p : List Sp) : (borderP p).length ≤ 60 := by
  rcases h : picB p with _ | _
  · rw [borderP_no h]; simp
  · rw [borderP_yes h]; exact (picB_pic (pic_filter h _)).1
/-! ### where a pattern is found, round by round -/

/-- where it is found, of the places that the first k spots allow -/
def foundUpto (p t u : List Sp) (c : Sp) (k : Nat) : List Sp := ((p.take k).map fun b => ((b.1 - c.1, b.2 - c.2) : Sp)).filter (patAt p t u)
theorem foundUpto_zero (p t u : List Sp) (c : Sp) : foundUpto p t u c 0 = [] := rfl
theorem foundUpto_yes {p t u : List Sp} {c : Sp} {k : Nat} {x y : Int} (h : p[k]? = some (x, y)) (hf : patAt p t u (x - c.1, y - c.2) = true) : foundUpto p t u c k ++ [(x - c.1, y - c.2)] = foundUpto p t u c (k + 1) := by
  unfold foundUpto
  rw [List.take_add_one, h, List.map_append, List.filter_append]
  congr 1
  simp only [Option.toList_some, List.map_cons, List.map_nil]
  rw [List.filter_cons_of_pos hf]; rfl
theorem foundUpto_no {p t u : List Sp} {c : Sp} {k : Nat} {x y : Int} (h : p[k]? = some (x, y)) (hf : patAt p t u (x - c.1, y - c.2) = false) : foundUpto p t u c k = foundUpto p t u c (k + 1) := by
  unfold foundUpto
  rw [List.take_add_one, h, List.map_append, List.filter_append]
  simp only [Option.toList_some, List.map_cons, List.map_nil]
  rw [List.filter_cons_of_neg (by simp [hf]), List.filter_nil, List.append_nil]
theorem foundUpto_all {p t u : List Sp} {c : Sp} (h : t[0]? = some c) : foundUpto p t u c p.length = foundL p t u := by
  have ht : t ≠ [] := fun e => by rw [e] at h; cases h
  have hs : foundL p t u = (shUpto p t c p.length).filter (patAt p t u) := by rw [shUpto_all h]; rfl
  rw [hs]
  unfold foundUpto shUpto
  rw [List.filter_filter]
  refine List.filter_congr fun a _ => ?_
  rw [Bool.eq_iff_iff, Bool.and_eq_true, decide_eq_true_eq]
  constructor
  · intro k
    exact ⟨k, fun d hd => by rw [addS_comm]; exact (patAt_iff.1 k).1 d hd⟩
  · exact fun k => k.1
theorem length_foundUpto_le (p t u : List Sp) (c : Sp) (k : Nat) : (foundUpto p t u c k).length ≤ p.length := by
  unfold foundUpto
  refine Nat.le_trans (List.length_filter_le _ _) ?_
  rw [List.length_map]; exact List.length_take_le' _ _
theorem found_no1 {p t u : List Sp} (h : picB p = false) : foundOk p t u = false ∧ foundR p t u = [] := by
  have : foundOk p t u = false := by unfold foundOk; rw [h]; rfl
  exact ⟨this, found_no this⟩
theorem found_no2 {p t u : List Sp} (h : patB t u = false) : foundOk p t u = false ∧ foundR p t u = [] := by
  have : foundOk p t u = false := by unfold foundOk; rw [h, Bool.false_and, Bool.and_false]
  exact ⟨this, found_no this⟩
theorem found_no3 {p t u : List Sp} (h : picB (foundL p t u) = false) : foundOk p t u = false ∧ foundR p t u = [] := by
  have : foundOk p t u = false := by unfold foundOk; rw [h, Bool.and_false, Bool.and_false]
  exact ⟨this, found_no this⟩
theorem found_yes {p t u : List Sp} (h : picB p = true) (k : patB t u = true) (l : picB (foundL p t u) = true) : foundOk p t u = true ∧ foundR p t u = foundL p t u := by
  have : foundOk p t u = true := by unfold foundOk; rw [h, k, l]; rfl
  exact ⟨this, by unfold foundR; rw [this, if_pos rfl]⟩
end Go.Proofs.Ytiifklgfdhhfoaa
