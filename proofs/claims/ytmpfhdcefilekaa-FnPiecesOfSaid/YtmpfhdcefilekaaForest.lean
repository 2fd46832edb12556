/-
  Plain facts on lists of parents (each place leads to another one, up to one that leads to itself), and how many pieces a list of spots has by joining neighbours. No program is named. No conditions but those that stand in each theorem.
-/
import Derived.Test.YtmpfhdcefilekaaReachP
namespace Go.Proofs.Ytmpfhdcefilekaa

/-- r is at the top of i -/
inductive Top (us : List Nat) : Nat → Nat → Prop
  | root {i : Nat} (h : us[i]? = some i) : Top us i i
  | step {i j r : Nat} (h : us[i]? = some j) (k : Top us j r) : Top us i r
theorem Top.is_root {us : List Nat} {i r : Nat} (h : Top us i r) : us[r]? = some r := by
  induction h with
  | root h => exact h
  | step _ _ ih => exact ih
theorem Top.of_root {us : List Nat} {i r : Nat} (h : Top us i r) (h0 : us[i]? = some i) : r = i := by
  induction h with
  | root _ => rfl
  | step hj _ ih =>
    rw [h0] at hj
    cases hj
    exact ih h0
theorem Top.one {us : List Nat} {i r r' : Nat} (h : Top us i r) (h' : Top us i r') : r = r' := by
  induction h with
  | root h0 => exact (h'.of_root h0).symm
  | step hj k ih =>
    cases h' with
    | root h0 =>
      rw [h0] at hj
      cases hj
      exact k.of_root h0
    | step hj' k' =>
      rw [hj] at hj'
      cases hj'
      exact ih k'
/-- each place leads on within the first n, and comes to an end -/
def Ends (us : List Nat) (n : Nat) : Prop := ∃ d : Nat → Nat, ∀ i, i < n → ∃ j, us[i]? = some j ∧ j < n ∧ (j ≠ i → d j < d i)
theorem Ends.top {us : List Nat} {n : Nat} (h : Ends us n) : ∀ i, i < n → ∃ r, r < n ∧ Top us i r := by
  obtain ⟨d, hd⟩ := h
  have key : ∀ (m : Nat) (i : Nat), d i ≤ m → i < n → ∃ r, r < n ∧ Top us i r := by
    intro m
    induction m with
    | zero =>
      intro i hm hi
      obtain ⟨j, hj, hjn, hlt⟩ := hd i hi
      by_cases e : j = i
      · subst e; exact ⟨j, hjn, .root hj⟩
      · have := hlt e; omega
    | succ m ih =>
      intro i hm hi
      obtain ⟨j, hj, hjn, hlt⟩ := hd i hi
      by_cases e : j = i
      · subst e; exact ⟨j, hjn, .root hj⟩
      · have := hlt e
        obtain ⟨r, hr, ht⟩ := ih j (by omega) hjn
        exact ⟨r, hr, .step hj ht⟩
  exact fun i hi => key (d i) i (Nat.le_refl _) hi
theorem Top.join {us : List Nat} {s f : Nat} (hs : us[s]? = some s) (hf : us[f]? = some f) (hne : f ≠ s) {i r : Nat} (h : Top us i r) : Top (us.set s f) i (if r = s then f else r) := by
  have hsl := (List.getElem?_eq_some_iff.1 hs).1
  have h1 : (us.set s f)[s]? = some f := by rw [List.getElem?_set_self hsl]
  have h2 : (us.set s f)[f]? = some f := by rw [List.getElem?_set_ne (fun e => hne e.symm)]; exact hf
  have h3 : ∀ j, j ≠ s → (us.set s f)[j]? = us[j]? := fun j hj => List.getElem?_set_ne (fun e => hj e.symm)
  induction h with
  | root h =>
    rename_i i
    by_cases e : i = s
    · subst e; rw [if_pos rfl]; exact .step h1 (.root h2)
    · rw [if_neg e]; exact .root ((h3 i e).trans h)
  | step h k ih =>
    rename_i i j r
    by_cases e : i = s
    · subst e
      rw [hs] at h
      cases h
      exact ih
    · exact .step ((h3 i e).trans h) ih
open Classical in
theorem Ends.join {us : List Nat} {n s f : Nat} (h : Ends us n) (hs : us[s]? = some s) (hf : us[f]? = some f) (hne : f ≠ s) (hfn : f < n) : Ends (us.set s f) n := by
  obtain ⟨d, hd⟩ := h
  refine ⟨fun i => if Top us i s then d i + d f + 1 else d i, fun i hi => ?_⟩
  have hsl := (List.getElem?_eq_some_iff.1 hs).1
  by_cases e : i = s
  · subst e
    refine ⟨f, by rw [List.getElem?_set_self hsl], hfn, fun _ => ?_⟩
    have h1 : Top us i i := .root hs
    have h2 : ¬ Top us f i := fun k => hne (k.of_root hf).symm
    simp only [if_pos h1, if_neg h2]
    omega
  · obtain ⟨j, hj, hjn, hlt⟩ := hd i hi
    refine ⟨j, by rw [List.getElem?_set_ne (fun k => e k.symm)]; exact hj, hjn, fun hji => ?_⟩
    have hl := hlt hji
    by_cases ht : Top us j s
    · have h1 : Top us i s := .step hj ht
      simp only [if_pos ht, if_pos h1]
      omega
    · have h1 : ¬ Top us i s := fun k => by
        cases k with
        | root h0 => exact e rfl
        | step h' k' => rw [hj] at h'; cases h'; exact ht k'
      simp only [if_neg ht, if_neg h1]
      omega
/-- two places with one top -/
def Same (us : List Nat) (i j : Nat) : Prop := ∃ r, Top us i r ∧ Top us j r
theorem Same.join {us : List Nat} {s f i j : Nat} (hs : us[s]? = some s) (hf : us[f]? = some f) (hne : f ≠ s) (h : Same us i j) : Same (us.set s f) i j := by
  obtain ⟨r, h1, h2⟩ := h
  exact ⟨_, h1.join hs hf hne, h2.join hs hf hne⟩
theorem same_joined {us : List Nat} {s f i j : Nat} (hs : us[s]? = some s) (hf : us[f]? = some f) (hne : f ≠ s) (hi : Top us i f) (hj : Top us j s) : Same (us.set s f) i j := by
  have h1 := hi.join hs hf hne
  have h2 := hj.join hs hf hne
  rw [if_neg hne] at h1
  rw [if_pos rfl] at h2
  exact ⟨f, h1, h2⟩
def rootsL (us : List Nat) (n : Nat) : List Nat := (List.range n).filter fun i => decide (us[i]? = some i)
theorem filter_less {l : List Nat} {P Q : Nat → Bool} {s : Nat} (hn : l.Nodup) (hs : s ∈ l) (h1 : P s = true) (h2 : Q s = false) (h3 : ∀ i, i ≠ s → Q i = P i) : (l.filter Q).length + 1 = (l.filter P).length := by
  induction l with
  | nil => cases hs
  | cons a l ih =>
    obtain ⟨ha, hn'⟩ := List.nodup_cons.1 hn
    by_cases e : a = s
    · subst e
      have e1 : (a :: l).filter P = a :: l.filter P := List.filter_cons_of_pos h1
      have e2 : (a :: l).filter Q = l.filter Q := List.filter_cons_of_neg (by rw [h2]; exact Bool.false_ne_true)
      have e3 : l.filter Q = l.filter P := List.filter_congr fun x hx => h3 x fun e => by rw [e] at hx; exact ha hx
      rw [e1, e2, e3, List.length_cons]
    · have hsl : s ∈ l := by
        rcases List.mem_cons.1 hs with k | k
        · exact absurd k.symm e
        · exact k
      have := ih hn' hsl
      have ea := h3 a e
      rcases hp : P a with _ | _
      · have e1 : (a :: l).filter P = l.filter P := List.filter_cons_of_neg (by rw [hp]; exact Bool.false_ne_true)
        have e2 : (a :: l).filter Q = l.filter Q := List.filter_cons_of_neg (by rw [ea, hp]; exact Bool.false_ne_true)
        rw [e1, e2]
        exact this
      · have e1 : (a :: l).filter P = a :: l.filter P := List.filter_cons_of_pos hp
        have e2 : (a :: l).filter Q = a :: l.filter Q := List.filter_cons_of_pos (by rw [ea, hp])
        rw [e1, e2, List.length_cons, List.length_cons]
        omega
theorem roots_join {us : List Nat} {n s f : Nat} (hs : us[s]? = some s) (hne : f ≠ s) (hsn : s < n) : (rootsL (us.set s f) n).length + 1 = (rootsL us n).length := by
  have hsl := (List.getElem?_eq_some_iff.1 hs).1
  refine filter_less List.nodup_range (List.mem_range.2 hsn) (decide_eq_true hs) (decide_eq_false ?_) (fun i hi => ?_)
  · rw [List.getElem?_set_self hsl]
    intro e
    injection e with e
    exact hne e
  · rw [List.getElem?_set_ne (fun e => hi e.symm)]

/-! ### spots that are joined -/
/-- places of one tree are of one piece, and there are c trees -/
structure Forest (e : Bool) (p : List Sp) (us : List Nat) (c : Nat) : Prop where
  ends : Ends us p.length
  conn : ∀ (i j : Nat) a b, us[i]? = some j → p[i]? = some a → p[j]? = some b → Reach e p a b
  cnt : (rootsL us p.length).length = c
theorem Forest.top_reach {e : Bool} {p : List Sp} {us : List Nat} {c : Nat} (F : Forest e p us c) {i r : Nat} (h : Top us i r) : ∀ {a b}, i < p.length → p[i]? = some a → p[r]? = some b → Reach e p a b := by
  induction h with
  | root h => intro a b hi ha hb; exact F.conn _ _ _ _ h ha hb
  | step h k ih =>
    rename_i i j r
    intro a b hi ha hb
    obtain ⟨d, hd⟩ := F.ends
    obtain ⟨j', hj', hjn, _⟩ := hd i hi
    rw [h] at hj'
    cases hj'
    have hc := List.getElem?_eq_getElem hjn
    exact (F.conn _ _ _ _ h ha hc).trans (ih hjn hc hb)
theorem Forest.join {e : Bool} {p : List Sp} {us : List Nat} {c : Nat} (F : Forest e p us c) {i j f s : Nat} {a b : Sp} (ha : p[i]? = some a) (hb : p[j]? = some b) (hn : nearB e a b = true) (hi : Top us i f) (hj : Top us j s) (hne : f ≠ s) (hfn : f < p.length) (hsn : s < p.length) : Forest e p (us.set s f) (c - 1) := by
  have hs := hj.is_root
  have hf := hi.is_root
  refine ⟨F.ends.join hs hf hne hfn, fun i' j' a' b' h ha' hb' => ?_, ?_⟩
  · by_cases es : i' = s
    · subst es
      have hsl := (List.getElem?_eq_some_iff.1 hs).1
      rw [List.getElem?_set_self hsl] at h
      cases h
      have h1 := F.top_reach hi (List.getElem?_eq_some_iff.1 ha).1 ha hb'
      have h2 := F.top_reach hj (List.getElem?_eq_some_iff.1 hb).1 hb ha'
      have h3 : Reach e p a b := Reach.step (.refl (List.mem_of_getElem? ha)) (List.mem_of_getElem? hb) hn
      exact (h2.symm.trans h3.symm).trans h1
    · rw [List.getElem?_set_ne (fun k => es k.symm)] at h
      exact F.conn _ _ _ _ h ha' hb'
  · have := roots_join (f := f) hs hne hsn
    have := F.cnt
    omega
theorem Forest.pos {e : Bool} {p : List Sp} {us : List Nat} {c : Nat} (F : Forest e p us c) {i r : Nat} (h : Top us i r) (hr : r < p.length) : 0 < c := by
  rw [← F.cnt]
  exact List.length_pos_of_mem (List.mem_filter.2 ⟨List.mem_range.2 hr, decide_eq_true h.is_root⟩)
/-- in the end there are as many trees as pieces -/
theorem Forest.count {e : Bool} {p : List Sp} {us : List Nat} {c : Nat} (F : Forest e p us c) (hs : Sorted p) (hE : ∀ (i j : Nat) a b, p[i]? = some a → p[j]? = some b → nearB e a b = true → Same us i j) : c = (piecesL e p).length := by
  rw [length_piecesL, ← F.cnt]
  have hreach : ∀ a b, Reach e p a b → ∀ i j : Nat, p[i]? = some a → p[j]? = some b → Same us i j := by
    intro a b h
    refine h.ind (M := fun b => ∀ i j : Nat, p[i]? = some a → p[j]? = some b → Same us i j) (fun _ i j hi hj => ?_) fun x y hx ih hy hn i j hi hj => ?_
    · obtain rfl := idx_unique hs hi hj
      obtain ⟨r, _, hr⟩ := F.ends.top i (List.getElem?_eq_some_iff.1 hi).1
      exact ⟨r, hr, hr⟩
    · obtain ⟨k, hk⟩ := List.mem_iff_getElem?.1 hx.right
      obtain ⟨r, h1, h2⟩ := ih i k hi hk
      obtain ⟨r', h3, h4⟩ := hE k j x y hk hj hn
      obtain rfl := h2.one h3
      exact ⟨r, h1, h4⟩
  refine Nat.le_antisymm (rel_length (R := fun (i : Nat) (f : Sp) => ∃ a, p[i]? = some a ∧ Reach e p a f) (List.Nodup.sublist List.filter_sublist List.nodup_range) (fun i hi => ?_) (fun i hi i' hi' f h h' => ?_)) (rel_length (R := fun (f : Sp) (i : Nat) => ∃ a, p[i]? = some a ∧ Reach e p a f) (nodup_sorted (sorted_firsts hs)) (fun f hf => ?_) (fun f hf f' hf' i h h' => ?_))
  · obtain ⟨h1, h2⟩ := List.mem_filter.1 hi
    have hil := List.mem_range.1 h1
    have ha := List.getElem?_eq_getElem hil
    obtain ⟨f, hf, hr⟩ := firsts_all (e := e) hs (List.mem_of_getElem? ha)
    exact ⟨f, hf, _, ha, hr.symm⟩
  · obtain ⟨a, ha, hr⟩ := h
    obtain ⟨a', ha', hr'⟩ := h'
    have r1 := of_decide_eq_true (List.mem_filter.1 hi).2
    have r2 := of_decide_eq_true (List.mem_filter.1 hi').2
    obtain ⟨r, h1, h2⟩ := hreach a a' (hr.trans hr'.symm) i i' ha ha'
    rw [← h1.of_root r1, ← h2.of_root r2]
  · have hff := mem_firsts.1 hf
    obtain ⟨i, hi⟩ := List.mem_iff_getElem?.1 hff.1
    have hil := (List.getElem?_eq_some_iff.1 hi).1
    obtain ⟨r, hrn, hr⟩ := F.ends.top i hil
    have hb := List.getElem?_eq_getElem hrn
    exact ⟨r, List.mem_filter.2 ⟨List.mem_range.2 hrn, decide_eq_true hr.is_root⟩, _, hb, (F.top_reach hr hil hi hb).symm⟩
  · obtain ⟨a, ha, hr⟩ := h
    obtain ⟨a', ha', hr'⟩ := h'
    rw [ha] at ha'
    cases ha'
    exact firsts_one hf hf' (hr.symm.trans hr')
/-- at the start each is alone -/
theorem Forest.begin (e : Bool) {p : List Sp} {us : List Nat} (h : ∀ i, i < p.length → us[i]? = some i) : Forest e p us p.length := by
  refine ⟨⟨fun _ => 0, fun i hi => ⟨i, h i hi, hi, fun k => absurd rfl k⟩⟩, fun i j a b hij ha hb => ?_, ?_⟩
  · rw [h i (List.getElem?_eq_some_iff.1 ha).1] at hij
    cases hij
    rw [ha] at hb; cases hb
    exact .refl (List.mem_of_getElem? ha)
  · unfold rootsL
    rw [List.filter_eq_self.2 (fun i hi => decide_eq_true (h i (List.mem_range.1 hi))), List.length_range]
/-- neighbours that were looked at have one top: those of the places ahead of i, and of i those of the first t ways -/
def Joined (e : Bool) (p : List Sp) (us : List Nat) (steps : List Sp) (i t : Nat) : Prop := ∀ (i' j : Nat) a b, p[i']? = some a → p[j]? = some b → nearB e a b = true → (i' < i ∨ i' = i ∧ b ∈ (steps.take t).map (addS a)) → Same us i' j
theorem Joined.begin {e : Bool} {p : List Sp} {us : List Nat} {steps : List Sp} : Joined e p us steps 0 0 := fun i' j a b _ _ _ h => by
  rcases h with h | ⟨_, h⟩
  · omega
  · rw [List.take_zero] at h; cases h
theorem Joined.next {e : Bool} {p : List Sp} {us : List Nat} {steps : List Sp} {i : Nat} (h : Joined e p us steps i steps.length) (hst : ∀ a b, nearB e a b = true → b ∈ steps.map (addS a)) : Joined e p us steps (i + 1) 0 := fun i' j a b ha hb hn k => by
  refine h i' j a b ha hb hn ?_
  rcases k with k | ⟨_, k⟩
  · by_cases e1 : i' = i
    · exact .inr ⟨e1, by rw [List.take_length]; exact hst a b hn⟩
    · exact .inl (by omega)
  · rw [List.take_zero] at k; cases k
theorem Joined.step {e : Bool} {p : List Sp} {us us' : List Nat} {steps : List Sp} {i t : Nat} {a d : Sp} (h : Joined e p us steps i t) (ha : p[i]? = some a) (hd : steps[t]? = some d) (hm : ∀ i' j, Same us i' j → Same us' i' j) (hj : ∀ j : Nat, p[j]? = some (addS a d) → Same us' i j) : Joined e p us' steps i (t + 1) := fun i' j a' b ha' hb hn k => by
  rcases k with k | ⟨rfl, k⟩
  · exact hm _ _ (h i' j a' b ha' hb hn (.inl k))
  · rw [ha] at ha'; cases ha'
    rw [List.take_add_one, hd, List.map_append] at k
    rcases List.mem_append.1 k with k | k
    · exact hm _ _ (h i' j a b ha hb hn (.inr ⟨rfl, k⟩))
    · simp only [Option.toList_some, List.map_cons, List.map_nil, List.mem_singleton] at k
      subst k
      exact hj j hb
theorem Joined.all {e : Bool} {p : List Sp} {us : List Nat} {steps : List Sp} (h : Joined e p us steps p.length 0) : ∀ (i j : Nat) a b, p[i]? = some a → p[j]? = some b → nearB e a b = true → Same us i j := fun i j a b ha hb hn => h i j a b ha hb hn (.inl (List.getElem?_eq_some_iff.1 ha).1)
end Go.Proofs.Ytmpfhdcefilekaa
