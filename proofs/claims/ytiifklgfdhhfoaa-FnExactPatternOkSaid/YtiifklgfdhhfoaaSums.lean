/-
  Plain facts on sums of pictures as lists of pairs of integers: both ways round, brackets, how many spots, doubled ones, differences, boxes. No program is named. No conditions but those that stand in each theorem.
-/
import Derived.Test.YtiifklgfdhhfoaaPics2
namespace Go.Proofs.Ytiifklgfdhhfoaa

def addS (a b : Sp) : Sp := (a.1 + b.1, a.2 + b.2)
theorem addS_comm (a b : Sp) : addS a b = addS b a := by unfold addS; apply sp_ext <;> simp only [] <;> omega
theorem addS_assoc (a b c : Sp) : addS (addS a b) c = addS a (addS b c) := by unfold addS; apply sp_ext <;> simp only [] <;> omega
/-- all sums, one after the other -/
def sumRaw (p q : List Sp) : List Sp := p.flatMap fun a => q.map (addS a)
/-- all sums, in order, each of them once -/
def sumL (p q : List Sp) : List Sp := puts [] (sumRaw p q)

theorem mem_sumRaw {p q : List Sp} {x : Sp} : x ∈ sumRaw p q ↔ ∃ a b, a ∈ p ∧ b ∈ q ∧ x = addS a b := by
  unfold sumRaw
  rw [List.mem_flatMap]
  constructor
  · rintro ⟨a, ha, h⟩
    obtain ⟨b, hb, rfl⟩ := List.mem_map.1 h
    exact ⟨a, b, ha, hb, rfl⟩
  · rintro ⟨a, b, ha, hb, rfl⟩
    exact ⟨a, ha, List.mem_map.2 ⟨b, hb, rfl⟩⟩
theorem mem_sumL {p q : List Sp} {x : Sp} : x ∈ sumL p q ↔ ∃ a b, a ∈ p ∧ b ∈ q ∧ x = addS a b := by
  unfold sumL
  rw [mem_puts, mem_sumRaw]
  simp
theorem sorted_sumL (p q : List Sp) : Sorted (sumL p q) := sorted_puts List.Pairwise.nil
theorem sumL_comm (p q : List Sp) : sumL p q = sumL q p := sorted_ext (sorted_sumL _ _) (sorted_sumL _ _) fun x => by
  rw [mem_sumL, mem_sumL]
  constructor
  · rintro ⟨a, b, ha, hb, rfl⟩; exact ⟨b, a, hb, ha, addS_comm _ _⟩
  · rintro ⟨a, b, ha, hb, rfl⟩; exact ⟨b, a, hb, ha, addS_comm _ _⟩
theorem sumL_assoc (p q t : List Sp) : sumL (sumL p q) t = sumL p (sumL q t) := sorted_ext (sorted_sumL _ _) (sorted_sumL _ _) fun x => by
  rw [mem_sumL, mem_sumL]
  constructor
  · rintro ⟨a, b, ha, hb, rfl⟩
    obtain ⟨c, d, hc, hd, rfl⟩ := mem_sumL.1 ha
    exact ⟨c, addS d b, hc, mem_sumL.2 ⟨d, b, hd, hb, rfl⟩, addS_assoc _ _ _⟩
  · rintro ⟨a, b, ha, hb, rfl⟩
    obtain ⟨c, d, hc, hd, rfl⟩ := mem_sumL.1 hb
    exact ⟨addS a c, d, mem_sumL.2 ⟨a, c, ha, hc, rfl⟩, hd, (addS_assoc _ _ _).symm⟩
theorem length_sumRaw (p q : List Sp) : (sumRaw p q).length = p.length * q.length := by
  induction p with
  | nil => simp [sumRaw]
  | cons a p ih =>
    have : sumRaw (a :: p) q = q.map (addS a) ++ sumRaw p q := rfl
    rw [this, List.length_append, List.length_map, ih, List.length_cons, Nat.add_mul, Nat.one_mul, Nat.add_comm]
theorem length_sumL_le (p q : List Sp) : (sumL p q).length ≤ p.length * q.length := by
  have := length_puts_le (sumRaw p q) []
  rw [length_sumRaw] at this
  simpa [sumL] using this
theorem sumL_nil_left (q : List Sp) : sumL [] q = [] := rfl
theorem sumRaw_nil_right : ∀ p : List Sp, sumRaw p [] = []
  | [] => rfl
  | a :: p => by
    have : sumRaw (a :: p) [] = [] ++ sumRaw p [] := rfl
    rw [this, sumRaw_nil_right p]; rfl

/-- a list in order whose spots are all in another one is no longer -/
theorem length_le_of_sub {c s : List Sp} (hc : Sorted c) (hs : Sorted s) (h : ∀ x ∈ c, x ∈ s) : c.length ≤ s.length := by
  have e : c = common s c := sorted_ext hc (sorted_common hs) fun x => by
    rw [mem_common]
    exact ⟨fun hx => ⟨h x hx, hx⟩, fun hx => hx.2⟩
  rw [e]
  exact length_common_le s c
theorem lt_add_left {a b c : Sp} (h : Lt b c) : Lt (addS a b) (addS a c) := by unfold Lt addS at *; simp only []; omega
theorem lt_add_right {a b c : Sp} (h : Lt b c) : Lt (addS b a) (addS c a) := by unfold Lt addS at *; simp only []; omega
theorem last_ge : ∀ {q : List Sp} (hq : q ≠ []), Sorted q → ∀ b ∈ q, b = q.getLast hq ∨ Lt b (q.getLast hq)
  | [a], _, _, b, hb => by
    rw [List.mem_singleton] at hb; exact .inl hb
  | a :: c :: q, hq, hs, b, hb => by
    rw [List.getLast_cons (by simp)]
    have hs' := List.pairwise_cons.1 hs
    rcases List.mem_cons.1 hb with rfl | hb
    · exact .inr (hs'.1 _ (List.getLast_mem _))
    · exact last_ge (by simp) hs'.2 b hb
theorem length_sumL_ge {p q : List Sp} (hp : Sorted p) (hq : Sorted q) (p0 : p ≠ []) (q0 : q ≠ []) : p.length + q.length ≤ (sumL p q).length + 1 := by
  match p, p0, hp with
  | a :: p, _, hp =>
    obtain ⟨hp1, hp2⟩ := List.pairwise_cons.1 hp
    have hc : Sorted (q.map (addS a) ++ p.map fun x => addS x (q.getLast q0)) := by
      refine List.pairwise_append.2 ⟨List.Pairwise.map _ (fun _ _ h => lt_add_left h) hq, List.Pairwise.map _ (fun _ _ h => lt_add_right h) hp2, fun x hx y hy => ?_⟩
      obtain ⟨b, hb, rfl⟩ := List.mem_map.1 hx
      obtain ⟨c, hc, rfl⟩ := List.mem_map.1 hy
      have h2 := lt_add_right (a := q.getLast q0) (hp1 c hc)
      rcases last_ge q0 hq b hb with e | h
      · rw [← e] at h2 ⊢; exact h2
      · exact lt_trans (lt_add_left h) h2
    have := length_le_of_sub hc (sorted_sumL (a :: p) q) fun x hx => by
      rw [mem_sumL]
      rcases List.mem_append.1 hx with hx | hx
      · obtain ⟨b, hb, rfl⟩ := List.mem_map.1 hx
        exact ⟨a, b, List.mem_cons_self .., hb, rfl⟩
      · obtain ⟨c, hc, rfl⟩ := List.mem_map.1 hx
        exact ⟨c, _, List.mem_cons_of_mem _ hc, List.getLast_mem q0, rfl⟩
    simp at this ⊢
    omega

/-- each two, not told which comes first -/
def pairs : List Sp → List Sp
  | [] => []
  | a :: p => (a :: p).map (addS a) ++ pairs p
theorem mem_pairs : ∀ {p : List Sp} {x : Sp}, x ∈ pairs p ↔ ∃ a b, a ∈ p ∧ b ∈ p ∧ x = addS a b
  | [], x => by simp [pairs]
  | c :: p, x => by
    unfold pairs
    rw [List.mem_append, mem_pairs]
    constructor
    · rintro (h | ⟨a, b, ha, hb, rfl⟩)
      · obtain ⟨b, hb, rfl⟩ := List.mem_map.1 h
        exact ⟨c, b, List.mem_cons_self .., hb, rfl⟩
      · exact ⟨a, b, List.mem_cons_of_mem _ ha, List.mem_cons_of_mem _ hb, rfl⟩
    · rintro ⟨a, b, ha, hb, rfl⟩
      rcases List.mem_cons.1 ha with e | ha2
      · rw [e]; exact .inl (List.mem_map.2 ⟨b, hb, rfl⟩)
      · rcases List.mem_cons.1 hb with e | hb2
        · rw [e]; exact .inl (List.mem_map.2 ⟨a, List.mem_cons_of_mem _ ha2, addS_comm _ _⟩)
        · exact .inr ⟨a, b, ha2, hb2, rfl⟩
theorem length_pairs : ∀ p : List Sp, (pairs p).length * 2 = p.length * (p.length + 1)
  | [] => rfl
  | a :: p => by
    have ih := length_pairs p
    unfold pairs
    rw [List.length_append, List.length_map, Nat.add_mul, ih, List.length_cons]
    generalize p.length = n
    show (n + 1) * 2 + n * (n + 1) = (n + 1) * (n + 2)
    have e1 := Nat.mul_add (n + 1) n 2
    have e2 := Nat.mul_comm n (n + 1)
    omega
theorem length_doubled_le (p : List Sp) : (sumL p p).length ≤ p.length * (p.length + 1) / 2 := by
  have e : sumL p p = puts [] (pairs p) := sorted_ext (sorted_sumL _ _) (sorted_puts List.Pairwise.nil) fun x => by
    rw [mem_sumL, mem_puts, mem_pairs]; simp
  have h := length_puts_le (pairs p) []
  have h2 := length_pairs p
  rw [e, ← h2]
  simp at h
  omega
theorem mem_doubled {p : List Sp} {a : Sp} (h : a ∈ p) : (2 * a.1, 2 * a.2) ∈ sumL p p :=
  mem_sumL.2 ⟨a, a, h, h, by unfold addS; apply sp_ext <;> simp only [] <;> omega⟩
theorem length_doubled_one {p : List Sp} (h : p.length = 1) : (sumL p p).length = 1 := by
  have h1 := length_sumL_le p p
  match p, h with
  | [a], _ =>
    have := List.length_pos_of_mem (mem_doubled (p := [a]) (a := a) (List.mem_cons_self ..))
    simp at h1
    omega

/-! ### differences -/
def diffL (p : List Sp) : List Sp := sumL p (turned p)
theorem mem_turned {p : List Sp} {x : Sp} : x ∈ turned p ↔ ∃ a ∈ p, x = (-a.1, -a.2) := by
  unfold turned
  rw [List.mem_reverse, List.mem_map]
  exact ⟨fun ⟨a, h, e⟩ => ⟨a, h, e.symm⟩, fun ⟨a, h, e⟩ => ⟨a, h, e.symm⟩⟩
theorem mem_diffL {p : List Sp} {x : Sp} : x ∈ diffL p ↔ ∃ a b, a ∈ p ∧ b ∈ p ∧ x = (a.1 - b.1, a.2 - b.2) := by
  unfold diffL
  rw [mem_sumL]
  constructor
  · rintro ⟨a, b, ha, hb, rfl⟩
    obtain ⟨c, hc, rfl⟩ := mem_turned.1 hb
    exact ⟨a, c, ha, hc, rfl⟩
  · rintro ⟨a, b, ha, hb, rfl⟩
    exact ⟨a, _, ha, mem_turned.2 ⟨b, hb, rfl⟩, rfl⟩
theorem sorted_diffL (p : List Sp) : Sorted (diffL p) := sorted_sumL _ _
theorem turned_diffL (p : List Sp) : turned (diffL p) = diffL p := sorted_ext (sorted_turned (sorted_diffL p)) (sorted_diffL p) fun x => by
  rw [mem_turned]
  constructor
  · rintro ⟨c, hc, rfl⟩
    obtain ⟨a, b, ha, hb, rfl⟩ := mem_diffL.1 hc
    exact mem_diffL.2 ⟨b, a, hb, ha, by apply sp_ext <;> simp only [] <;> omega⟩
  · intro h
    obtain ⟨a, b, ha, hb, rfl⟩ := mem_diffL.1 h
    exact ⟨_, mem_diffL.2 ⟨b, a, hb, ha, rfl⟩, by apply sp_ext <;> simp only [] <;> omega⟩
theorem diffL_moved (p : List Sp) (c : Sp) : diffL (moved p c) = diffL p := sorted_ext (sorted_diffL _) (sorted_diffL _) fun x => by
  rw [mem_diffL, mem_diffL]
  unfold moved
  constructor
  · rintro ⟨a, b, ha, hb, rfl⟩
    obtain ⟨a2, ha2, rfl⟩ := List.mem_map.1 ha
    obtain ⟨b2, hb2, rfl⟩ := List.mem_map.1 hb
    exact ⟨a2, b2, ha2, hb2, by apply sp_ext <;> simp only [] <;> omega⟩
  · rintro ⟨a, b, ha, hb, rfl⟩
    exact ⟨_, _, List.mem_map.2 ⟨a, ha, rfl⟩, List.mem_map.2 ⟨b, hb, rfl⟩, by apply sp_ext <;> simp only [] <;> omega⟩
theorem zero_diffL {p : List Sp} : (0, 0) ∈ diffL p ↔ p ≠ [] := by
  rw [mem_diffL]
  constructor
  · rintro ⟨a, b, ha, hb, _⟩ e
    rw [e] at ha; cases ha
  · intro h
    match p, h with
    | a :: p, _ => exact ⟨a, a, List.mem_cons_self .., List.mem_cons_self .., by apply sp_ext <;> simp only [] <;> omega⟩
/-- what is the same turned, and has the spot 0, 0, has an odd number of spots -/
theorem odd_of_turned {l : List Sp} (hs : Sorted l) (ht : turned l = l) (h0 : (0, 0) ∈ l) : l.length % 2 = 1 := by
  obtain ⟨i, hi⟩ := List.mem_iff_getElem?.1 h0
  have hil := (List.getElem?_eq_some_iff.1 hi).1
  have hj : l[l.length - 1 - i]? = some (0, 0) := by
    have h1 : (turned l)[l.length - 1 - i]? = some (0, 0) := by
      unfold turned
      rw [List.getElem?_reverse (by simp; omega), List.length_map, List.getElem?_map, show l.length - 1 - (l.length - 1 - i) = i by omega, hi]
      rfl
    rwa [ht] at h1
  rcases Nat.lt_trichotomy i (l.length - 1 - i) with h | h | h
  · exact absurd (steps_of_sorted hs h hi hj) (lt_irrefl _)
  · omega
  · exact absurd (steps_of_sorted hs h hj hi) (lt_irrefl _)
theorem diffL_nil : diffL [] = [] := rfl
theorem length_diffL (p : List Sp) : (diffL p).length % 2 = min p.length 1 := by
  by_cases h : p = []
  · subst h; rfl
  · have := odd_of_turned (sorted_diffL p) (turned_diffL p) (zero_diffL.2 h)
    have : 0 < p.length := List.length_pos_iff.2 h
    omega

/-! ### boxes -/
def lowS (a b : Sp) : Sp := (min a.1 b.1, min a.2 b.2)
def highS (a b : Sp) : Sp := (max a.1 b.1, max a.2 b.2)
/-- lo and hi are the corners of p -/
structure IsBox (p : List Sp) (lo hi : Sp) : Prop where
  all : ∀ a ∈ p, lo.1 ≤ a.1 ∧ lo.2 ≤ a.2 ∧ a.1 ≤ hi.1 ∧ a.2 ≤ hi.2
  lx : ∃ a ∈ p, a.1 = lo.1
  ly : ∃ a ∈ p, a.2 = lo.2
  hx : ∃ a ∈ p, a.1 = hi.1
  hy : ∃ a ∈ p, a.2 = hi.2
theorem IsBox.one {p : List Sp} {lo hi lo' hi' : Sp} (h : IsBox p lo hi) (k : IsBox p lo' hi') : lo = lo' ∧ hi = hi' := by
  obtain ⟨a, ha, e1⟩ := h.lx
  obtain ⟨b, hb, e2⟩ := h.ly
  obtain ⟨c, hc, e3⟩ := h.hx
  obtain ⟨d, hd, e4⟩ := h.hy
  obtain ⟨a', ha', e1'⟩ := k.lx
  obtain ⟨b', hb', e2'⟩ := k.ly
  obtain ⟨c', hc', e3'⟩ := k.hx
  obtain ⟨d', hd', e4'⟩ := k.hy
  have := h.all _ ha'; have := h.all _ hb'; have := h.all _ hc'; have := h.all _ hd'
  have := k.all _ ha; have := k.all _ hb; have := k.all _ hc; have := k.all _ hd
  exact ⟨sp_ext (by omega) (by omega), sp_ext (by omega) (by omega)⟩
theorem IsBox.start (a : Sp) : IsBox [a] a a :=
  ⟨fun b hb => by rw [List.mem_singleton] at hb; subst hb; omega, ⟨a, by simp, rfl⟩, ⟨a, by simp, rfl⟩, ⟨a, by simp, rfl⟩, ⟨a, by simp, rfl⟩⟩
theorem IsBox.more {p : List Sp} {lo hi : Sp} (h : IsBox p lo hi) (b : Sp) : IsBox (p ++ [b]) (lowS lo b) (highS hi b) := by
  obtain ⟨a1, ha1, e1⟩ := h.lx
  obtain ⟨a2, ha2, e2⟩ := h.ly
  obtain ⟨a3, ha3, e3⟩ := h.hx
  obtain ⟨a4, ha4, e4⟩ := h.hy
  have m : ∀ {x}, x ∈ p → x ∈ p ++ [b] := fun hx => List.mem_append_left _ hx
  have mb : b ∈ p ++ [b] := by simp
  unfold lowS highS
  refine ⟨fun a ha => ?_, ?_, ?_, ?_, ?_⟩
  · simp only []
    rcases List.mem_append.1 ha with ha | ha
    · have := h.all a ha; omega
    · rw [List.mem_singleton] at ha; subst ha; omega
  · rcases Int.le_total lo.1 b.1 with k | k
    · exact ⟨a1, m ha1, by simp only []; omega⟩
    · exact ⟨b, mb, by simp only []; omega⟩
  · rcases Int.le_total lo.2 b.2 with k | k
    · exact ⟨a2, m ha2, by simp only []; omega⟩
    · exact ⟨b, mb, by simp only []; omega⟩
  · rcases Int.le_total b.1 hi.1 with k | k
    · exact ⟨a3, m ha3, by simp only []; omega⟩
    · exact ⟨b, mb, by simp only []; omega⟩
  · rcases Int.le_total b.2 hi.2 with k | k
    · exact ⟨a4, m ha4, by simp only []; omega⟩
    · exact ⟨b, mb, by simp only []; omega⟩
theorem IsBox.sum {p q : List Sp} {lo hi lo' hi' : Sp} (h : IsBox p lo hi) (k : IsBox q lo' hi') : IsBox (sumL p q) (addS lo lo') (addS hi hi') := by
  obtain ⟨a1, ha1, e1⟩ := h.lx
  obtain ⟨a2, ha2, e2⟩ := h.ly
  obtain ⟨a3, ha3, e3⟩ := h.hx
  obtain ⟨a4, ha4, e4⟩ := h.hy
  obtain ⟨b1, hb1, f1⟩ := k.lx
  obtain ⟨b2, hb2, f2⟩ := k.ly
  obtain ⟨b3, hb3, f3⟩ := k.hx
  obtain ⟨b4, hb4, f4⟩ := k.hy
  refine ⟨fun x hx => ?_, ⟨_, mem_sumL.2 ⟨a1, b1, ha1, hb1, rfl⟩, ?_⟩, ⟨_, mem_sumL.2 ⟨a2, b2, ha2, hb2, rfl⟩, ?_⟩, ⟨_, mem_sumL.2 ⟨a3, b3, ha3, hb3, rfl⟩, ?_⟩, ⟨_, mem_sumL.2 ⟨a4, b4, ha4, hb4, rfl⟩, ?_⟩⟩
  · obtain ⟨a, b, ha, hb, rfl⟩ := mem_sumL.1 hx
    have := h.all a ha
    have := k.all b hb
    unfold addS
    simp only []
    omega
  all_goals (unfold addS; simp only []; omega)
/-- the corners, by going through the list -/
def boxF : Sp → Sp → List Sp → Sp × Sp
  | lo, hi, [] => (lo, hi)
  | lo, hi, a :: p => boxF (lowS lo a) (highS hi a) p
theorem isBox_boxF : ∀ (p r : List Sp) (lo hi : Sp), IsBox r lo hi → IsBox (r ++ p) (boxF lo hi p).1 (boxF lo hi p).2
  | [], r, lo, hi, h => by rw [List.append_nil]; exact h
  | a :: p, r, lo, hi, h => by
    have := isBox_boxF p (r ++ [a]) (lowS lo a) (highS hi a) (h.more a)
    rw [List.append_assoc] at this
    exact this
def boxL : List Sp → Sp × Sp
  | [] => ((0, 0), (0, 0))
  | a :: p => boxF a a p
theorem isBox_boxL {p : List Sp} (h : p ≠ []) : IsBox p (boxL p).1 (boxL p).2 := by
  match p, h with
  | a :: p, _ => exact isBox_boxF p [a] a a (IsBox.start a)
theorem boxL_sum {p q : List Sp} (hp : p ≠ []) (hq : q ≠ []) : boxL (sumL p q) = (addS (boxL p).1 (boxL q).1, addS (boxL p).2 (boxL q).2) := by
  have h := (isBox_boxL hp).sum (isBox_boxL hq)
  have h0 : sumL p q ≠ [] := by
    obtain ⟨a, ha, _⟩ := h.lx
    intro e; rw [e] at ha; cases ha
  obtain ⟨e1, e2⟩ := (isBox_boxL h0).one h
  rw [← e1, ← e2]
end Go.Proofs.Ytiifklgfdhhfoaa
