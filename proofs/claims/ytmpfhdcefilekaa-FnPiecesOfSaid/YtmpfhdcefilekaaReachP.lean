/-
  Plain facts for the walks of chapter 7: marks over a list of spots, in the model's way and in the program's. No program is named. No conditions but those that stand in each theorem.
-/
import Derived.Test.YtmpfhdcefilekaaReach
namespace Go.Proofs.Ytmpfhdcefilekaa

/-! ### marks -/
def falses (l : List Bool) : Nat := l.count false
theorem falses_set {l : List Bool} {k : Nat} (h : l[k]? = some false) : falses (l.set k true) + 1 = falses l := by
  unfold falses
  induction l generalizing k with
  | nil => cases h
  | cons b l ih =>
    cases k with
    | zero =>
      rw [List.getElem?_cons_zero] at h
      cases h
      rw [List.set_cons_zero, List.count_cons_self, List.count_cons_of_ne (by decide)]
    | succ k =>
      rw [List.getElem?_cons_succ] at h
      have := ih h
      rw [List.set_cons_succ, List.count_cons, List.count_cons]
      omega
theorem set_true {l : List Bool} {k j : Nat} (h : (l.set k true)[j]? = some true) : l[j]? = some true ∨ j = k := by
  by_cases e : j = k
  · exact .inr e
  · rw [List.getElem?_set_ne (fun h => e h.symm)] at h; exact .inl h
theorem set_keeps {l : List Bool} {k j : Nat} (h : l[j]? = some true) : (l.set k true)[j]? = some true := by
  by_cases e : k = j
  · subst e
    have := (List.getElem?_eq_some_iff.1 h).1
    rw [List.getElem?_set_self this]
  · rw [List.getElem?_set_ne e]; exact h
theorem set_there {l : List Bool} {k : Nat} (h : k < l.length) : (l.set k true)[k]? = some true := by rw [List.getElem?_set_self h]
/-- the number of a neighbour's place around a spot -/
def offI (a b : Sp) : Int := (b.2 - a.2 + 1) * 3 + (b.1 - a.1 + 1)
theorem near_off {e : Bool} {a b : Sp} (h : nearB e a b = true) : 0 ≤ offI a b ∧ offI a b ≤ 8 := by
  have h8 : nearB true a b = true := by
    cases e
    · exact near_more h
    · exact h
  have := (near8_iff.1 h8).2
  unfold offI; omega

/-- what is marked so far: those of before, and what is reached from s; k is being looked at, from its m-th neighbour on -/
structure MarkI (e : Bool) (p : List Sp) (sn0 : List Bool) (s : Sp) (sn : List Bool) (td : List Nat) (k : Nat) (m : Int) : Prop where
  len : sn.length = p.length
  old : ∀ j : Nat, sn0[j]? = some true → sn[j]? = some true
  sound : ∀ (j : Nat) b, p[j]? = some b → sn[j]? = some true → sn0[j]? = some true ∨ Reach e p s b
  todo : ∀ i ∈ td, ∃ a, p[i]? = some a ∧ Reach e p s a
  start : ∃ i : Nat, p[i]? = some s ∧ sn[i]? = some true
  close : ∀ (i j : Nat) a b, sn[i]? = some true → p[i]? = some a → p[j]? = some b → nearB e a b = true → sn[j]? = some true ∨ i ∈ td ∨ (i = k ∧ m ≤ offI a b)
/-- those of before have all their neighbours among them -/
def Closed (e : Bool) (p : List Sp) (sn : List Bool) : Prop := ∀ (i j : Nat) a b, sn[i]? = some true → p[i]? = some a → p[j]? = some b → nearB e a b = true → sn[j]? = some true
theorem MarkI.begin {e : Bool} {p : List Sp} {sn0 : List Bool} {s : Sp} {at' : Nat} (hl : sn0.length = p.length) (hs : p[at']? = some s) (hc : Closed e p sn0) : MarkI e p sn0 s (sn0.set at' true) [at'] 0 9 := by
  have hlt : at' < sn0.length := by have := (List.getElem?_eq_some_iff.1 hs).1; omega
  refine ⟨by rw [List.length_set]; exact hl, fun j h => set_keeps h, fun j b hb h => ?_, fun i hi => ?_, ⟨at', hs, set_there hlt⟩, fun i j a b hi ha hb hn => ?_⟩
  · rcases set_true h with h | rfl
    · exact .inl h
    · rw [hs] at hb; cases hb
      exact .inr (.refl (List.mem_of_getElem? hs))
  · rw [List.mem_singleton] at hi; subst hi
    exact ⟨s, hs, .refl (List.mem_of_getElem? hs)⟩
  · rcases set_true hi with h | rfl
    · exact .inl (set_keeps (hc i j a b h ha hb hn))
    · exact .inr (.inl (List.mem_singleton.2 rfl))
theorem MarkI.pop {e : Bool} {p : List Sp} {sn0 sn : List Bool} {s : Sp} {td : List Nat} {k k' : Nat} (I : MarkI e p sn0 s sn (td ++ [k]) k' 9) : MarkI e p sn0 s sn td k 0 :=
  ⟨I.len, I.old, I.sound, fun i hi => I.todo i (List.mem_append_left _ hi), I.start, fun i j a b hi ha hb hn => by
    rcases I.close i j a b hi ha hb hn with h | h | ⟨_, h⟩
    · exact .inl h
    · rcases List.mem_append.1 h with h | h
      · exact .inr (.inl h)
      · rw [List.mem_singleton] at h
        exact .inr (.inr ⟨h, (near_off hn).1⟩)
    · have := (near_off hn).2; omega⟩
theorem MarkI.popped {e : Bool} {p : List Sp} {sn0 sn : List Bool} {s : Sp} {td : List Nat} {k k' : Nat} {m : Int} (I : MarkI e p sn0 s sn (td ++ [k]) k' m) : ∃ a, p[k]? = some a ∧ Reach e p s a := I.todo k (by simp)
theorem idx_unique {p : List Sp} (hs : Sorted p) {i j : Nat} {a : Sp} (hi : p[i]? = some a) (hj : p[j]? = some a) : i = j := by
  rcases Nat.lt_trichotomy i j with h | h | h
  · exact absurd (steps_of_sorted hs h hi hj) (lt_irrefl _)
  · exact h
  · exact absurd (steps_of_sorted hs h hj hi) (lt_irrefl _)
theorem near_all {e : Bool} {a b : Sp} (hn : nearB e a b = true) : -1 ≤ b.1 - a.1 ∧ b.1 - a.1 ≤ 1 ∧ -1 ≤ b.2 - a.2 ∧ b.2 - a.2 ≤ 1 := by
  have hr : nearB true a b = true := by
    cases e
    · exact near_more hn
    · exact hn
  exact (near8_iff.1 hr).2
/-- the spot at the m-th place around another one -/
theorem off_one {a b c : Sp} (h : offI a b = offI a c) (hb : -1 ≤ b.1 - a.1 ∧ b.1 - a.1 ≤ 1) (hc : -1 ≤ c.1 - a.1 ∧ c.1 - a.1 ≤ 1) : b = c := by
  unfold offI at h
  apply sp_ext <;> omega
/-- the next place has nothing new -/
theorem MarkI.skip {e : Bool} {p : List Sp} {sn0 sn : List Bool} {s : Sp} {td : List Nat} {k : Nat} {m : Int} {a c : Sp} (I : MarkI e p sn0 s sn td k m) (hs : Sorted p) (ha : p[k]? = some a) (hc : offI a c = m) (hcc : -1 ≤ c.1 - a.1 ∧ c.1 - a.1 ≤ 1) (h : nearB e a c = false ∨ (¬ c ∈ p) ∨ ∃ j : Nat, p[j]? = some c ∧ sn[j]? = some true) : MarkI e p sn0 s sn td k (m + 1) :=
  ⟨I.len, I.old, I.sound, I.todo, I.start, fun i j a' b hi ha' hb hn => by
    rcases I.close i j a' b hi ha' hb hn with k1 | k1 | ⟨rfl, k1⟩
    · exact .inl k1
    · exact .inr (.inl k1)
    · rw [ha] at ha'; cases ha'
      by_cases e1 : offI a b = m
      · have hna := near_all hn
        obtain rfl := off_one (e1.trans hc.symm) ⟨hna.1, hna.2.1⟩ hcc
        rcases h with h | h | ⟨j', hj', h⟩
        · rw [hn] at h; cases h
        · exact absurd (List.mem_of_getElem? hb) h
        · obtain rfl := idx_unique hs hb hj'
          exact .inl h
      · exact .inr (.inr ⟨rfl, by omega⟩)⟩
/-- the next place is new -/
theorem MarkI.push {e : Bool} {p : List Sp} {sn0 sn : List Bool} {s : Sp} {td : List Nat} {k : Nat} {m : Int} {a c : Sp} {j : Nat} (I : MarkI e p sn0 s sn td k m) (hs : Sorted p) (ha : p[k]? = some a) (hr : Reach e p s a) (hc : offI a c = m) (hn : nearB e a c = true) (hj : p[j]? = some c) : MarkI e p sn0 s (sn.set j true) (td ++ [j]) k (m + 1) := by
  have hjl : j < sn.length := by have := (List.getElem?_eq_some_iff.1 hj).1; have := I.len; omega
  have hrc := hr.step (List.mem_of_getElem? hj) hn
  refine ⟨by rw [List.length_set]; exact I.len, fun i h => set_keeps (I.old i h), fun i b hb h => ?_, fun i hi => ?_, ?_, fun i i' a' b hi ha' hb hn' => ?_⟩
  · rcases set_true h with h | rfl
    · exact I.sound i b hb h
    · rw [hj] at hb; cases hb; exact .inr hrc
  · rcases List.mem_append.1 hi with hi | hi
    · exact I.todo i hi
    · rw [List.mem_singleton] at hi; subst hi
      exact ⟨c, hj, hrc⟩
  · obtain ⟨i, h1, h2⟩ := I.start
    exact ⟨i, h1, set_keeps h2⟩
  · rcases set_true hi with hi | rfl
    · rcases I.close i i' a' b hi ha' hb hn' with k1 | k1 | ⟨rfl, k1⟩
      · exact .inl (set_keeps k1)
      · exact .inr (.inl (List.mem_append_left _ k1))
      · rw [ha] at ha'; cases ha'
        by_cases e1 : offI a b = m
        · have h1 := near_all hn'
          have h2 := near_all hn
          obtain rfl := off_one (e1.trans hc.symm) ⟨h1.1, h1.2.1⟩ ⟨h2.1, h2.2.1⟩
          obtain rfl := idx_unique hs hb hj
          exact .inl (set_there hjl)
        · exact .inr (.inr ⟨rfl, by omega⟩)
    · exact .inr (.inl (List.mem_append_right _ (List.mem_singleton.2 rfl)))
/-- in the end -/
theorem MarkI.done {e : Bool} {p : List Sp} {sn0 sn : List Bool} {s : Sp} {k : Nat} (I : MarkI e p sn0 s sn [] k 9) (hs : Sorted p) {j : Nat} {b : Sp} (hb : p[j]? = some b) : sn[j]? = some true ↔ sn0[j]? = some true ∨ Reach e p s b := by
  have hcl : ∀ (i j : Nat) a b, sn[i]? = some true → p[i]? = some a → p[j]? = some b → nearB e a b = true → sn[j]? = some true := fun i j a b hi ha hb hn => by
    rcases I.close i j a b hi ha hb hn with h | h | ⟨_, h⟩
    · exact h
    · cases h
    · have := (near_off hn).2; omega
  constructor
  · exact I.sound j b hb
  · rintro (h | h)
    · exact I.old j h
    · obtain ⟨i, hi, hsn⟩ := I.start
      obtain ⟨j', hj', hbj⟩ := h.ind (M := fun c => ∃ j' : Nat, sn[j']? = some true ∧ p[j']? = some c) (fun _ => ⟨i, hsn, hi⟩) fun x y _ ⟨i', h1, h2⟩ hy hn => by
        obtain ⟨j', hj'⟩ := List.mem_iff_getElem?.1 hy
        exact ⟨j', hcl i' j' x y h1 h2 hj' hn, hj'⟩
      obtain rfl := idx_unique hs hbj hb
      exact hj'
open Classical in
/-- whether a spot is reached from a mark -/
noncomputable def reachB (e : Bool) (p m : List Sp) (b : Sp) : Bool := decide (∃ a ∈ m, Reach e p a b)
open Classical in
theorem reachB_iff {e : Bool} {p m : List Sp} {b : Sp} : reachB e p m b = true ↔ ∃ a ∈ m, Reach e p a b := by
  unfold reachB; rw [decide_eq_true_eq]
theorem reachL_is (e : Bool) (p m : List Sp) : reachL e p m = p.filter (reachB e p m) := rfl
/-- what the truths beside a list say of its spots -/
def Says (p : List Sp) (sn : List Bool) (f : Sp → Bool) : Prop := sn.length = p.length ∧ ∀ (j : Nat) b, p[j]? = some b → sn[j]? = some (f b)
theorem says_of {p : List Sp} {sn : List Bool} {f : Sp → Bool} (hl : sn.length = p.length) (h : ∀ (j : Nat) b, p[j]? = some b → (sn[j]? = some true ↔ f b = true)) : Says p sn f := ⟨hl, fun j b hb => by
  have hj := (List.getElem?_eq_some_iff.1 hb).1
  have e := List.getElem?_eq_getElem (show j < sn.length by omega)
  have := h j b hb
  rw [e] at this ⊢
  rcases hx : sn[j] with _ | _
  · rw [hx] at this
    rcases hf : f b with _ | _
    · rfl
    · have := this.2 hf; cases this
  · rw [hx] at this
    rw [this.1 rfl]⟩
theorem Says.iff {p : List Sp} {sn : List Bool} {f : Sp → Bool} (h : Says p sn f) {j : Nat} {b : Sp} (hb : p[j]? = some b) : sn[j]? = some true ↔ f b = true := by
  rw [h.2 j b hb]
  exact ⟨fun h => by injection h, fun h => by rw [h]⟩
theorem Says.at {p : List Sp} {sn : List Bool} {f : Sp → Bool} (h : Says p sn f) {j : Nat} (hj : j < sn.length) : ∃ b, p[j]? = some b ∧ sn[j]? = some (f b) := by
  have hl := h.1
  exact ⟨_, List.getElem?_eq_getElem (by omega), h.2 j _ (List.getElem?_eq_getElem (by omega))⟩
theorem says_none {e : Bool} {p : List Sp} : Says p (List.replicate p.length false) (reachB e p []) := by
  refine says_of List.length_replicate fun j b hb => ?_
  rw [List.getElem?_replicate, reachB_iff]
  constructor
  · intro h
    split at h <;> cases h
  · rintro ⟨a, ha, _⟩; cases ha
theorem reachB_closed {e : Bool} {p m : List Sp} {sn : List Bool} (h : Says p sn (reachB e p m)) : Closed e p sn := fun i j a b hi ha hb hn => by
  rw [h.iff hb, reachB_iff]
  obtain ⟨c, hc, hr⟩ := reachB_iff.1 ((h.iff ha).1 hi)
  exact ⟨c, hc, hr.step (List.mem_of_getElem? hb) hn⟩
/-- the next mark is one of what is reached -/
theorem says_skip {e : Bool} {p m : List Sp} {sn : List Bool} {j k : Nat} {a : Sp} (h : Says p sn (reachB e p (m.take k))) (ha : m[k]? = some a) (hj : p[j]? = some a) (hs : sn[j]? = some true) : Says p sn (reachB e p (m.take (k + 1))) := by
  refine says_of h.1 fun i b hb => ?_
  rw [h.iff hb, reachB_iff, reachB_iff, List.take_add_one, ha]
  simp only [Option.toList_some, List.mem_append, List.mem_singleton]
  constructor
  · rintro ⟨c, hc, hr⟩; exact ⟨c, .inl hc, hr⟩
  · rintro ⟨c, hc | rfl, hr⟩
    · exact ⟨c, hc, hr⟩
    · obtain ⟨d, hd, hr'⟩ := reachB_iff.1 ((h.iff hj).1 hs)
      exact ⟨d, hd, hr'.trans hr⟩
/-- the next mark is new -/
theorem says_mark {e : Bool} {p m : List Sp} {sn sn' : List Bool} {i k : Nat} {a : Sp} (h : Says p sn (reachB e p (m.take k))) (hs : Sorted p) (ha : m[k]? = some a) (I : MarkI e p sn a sn' [] i 9) : Says p sn' (reachB e p (m.take (k + 1))) := by
  refine says_of I.len fun j b hb => ?_
  rw [I.done hs hb, h.iff hb, reachB_iff, reachB_iff, List.take_add_one, ha]
  simp only [Option.toList_some, List.mem_append, List.mem_singleton]
  constructor
  · rintro (⟨c, hc, hr⟩ | hr)
    · exact ⟨c, .inl hc, hr⟩
    · exact ⟨a, .inr rfl, hr⟩
  · rintro ⟨c, hc | rfl, hr⟩
    · exact .inl ⟨c, hc, hr⟩
    · exact .inr hr

/-! ### the program's way: spots on a stack -/
/-- what is visited so far, and what is still to be looked at -/
structure VisI (e : Bool) (p m : List Sp) (vis : List Bool) (st : List Sp) : Prop where
  len : vis.length = p.length
  sound : ∀ (j : Nat) b, p[j]? = some b → vis[j]? = some true → ∃ a ∈ m, Reach e p a b
  stack : ∀ b ∈ st, b ∈ p → ∃ a ∈ m, Reach e p a b
  mark : ∀ a ∈ m, ∀ j : Nat, p[j]? = some a → vis[j]? = some true ∨ a ∈ st
  close : ∀ (i j : Nat) a b, vis[i]? = some true → p[i]? = some a → p[j]? = some b → nearB e a b = true → vis[j]? = some true ∨ b ∈ st
theorem rep_no {n j : Nat} (h : (List.replicate n false)[j]? = some true) : False := by
  rw [List.getElem?_replicate] at h
  split at h <;> cases h
theorem VisI.begin (e : Bool) (p m : List Sp) : VisI e p m (List.replicate p.length false) m :=
  ⟨List.length_replicate, fun _ _ _ h => (rep_no h).elim, fun b hb hp => ⟨b, hb, .refl hp⟩, fun _ ha _ _ => .inr ha, fun _ _ _ _ h => (rep_no h).elim⟩
/-- the last one on the stack is none of the list, or it is visited -/
theorem VisI.drop {e : Bool} {p m : List Sp} {vis : List Bool} {st : List Sp} {c : Sp} (I : VisI e p m vis (st ++ [c])) (h : ∀ j : Nat, p[j]? = some c → vis[j]? = some true) : VisI e p m vis st :=
  ⟨I.len, I.sound, fun b hb => I.stack b (List.mem_append_left _ hb), fun a ha j hj => by
    rcases I.mark a ha j hj with k | k
    · exact .inl k
    · rcases List.mem_append.1 k with k | k
      · exact .inr k
      · rw [List.mem_singleton] at k; subst k; exact .inl (h j hj), fun i j a b hi ha hb hn => by
    rcases I.close i j a b hi ha hb hn with k | k
    · exact .inl k
    · rcases List.mem_append.1 k with k | k
      · exact .inr k
      · rw [List.mem_singleton] at k; subst k; exact .inl (h j hb)⟩
/-- it is new: all its neighbours are put on the stack -/
theorem VisI.new {e : Bool} {p m : List Sp} {vis : List Bool} {st l : List Sp} {c : Sp} {k : Nat} (I : VisI e p m vis (st ++ [c])) (hk : p[k]? = some c) (hl : ∀ b, b ∈ l ↔ nearB e c b = true) (hs : Sorted p) : VisI e p m (vis.set k true) (st ++ l) := by
  have hkl : k < vis.length := by have := (List.getElem?_eq_some_iff.1 hk).1; have := I.len; omega
  obtain ⟨a0, ha0, hr0⟩ := I.stack c (by simp) (List.mem_of_getElem? hk)
  refine ⟨by rw [List.length_set]; exact I.len, fun j b hb h => ?_, fun b hb hp => ?_, fun a ha j hj => ?_, fun i j a b hi ha hb hn => ?_⟩
  · rcases set_true h with h | rfl
    · exact I.sound j b hb h
    · rw [hk] at hb; cases hb; exact ⟨a0, ha0, hr0⟩
  · rcases List.mem_append.1 hb with hb | hb
    · exact I.stack b (List.mem_append_left _ hb) hp
    · exact ⟨a0, ha0, hr0.step hp ((hl b).1 hb)⟩
  · rcases I.mark a ha j hj with h | h
    · exact .inl (set_keeps h)
    · rcases List.mem_append.1 h with h | h
      · exact .inr (List.mem_append_left _ h)
      · rw [List.mem_singleton] at h; subst h
        obtain rfl := idx_unique hs hj hk
        exact .inl (set_there hkl)
  · rcases set_true hi with hi | rfl
    · rcases I.close i j a b hi ha hb hn with h | h
      · exact .inl (set_keeps h)
      · rcases List.mem_append.1 h with h | h
        · exact .inr (List.mem_append_left _ h)
        · rw [List.mem_singleton] at h; subst h
          obtain rfl := idx_unique hs hb hk
          exact .inl (set_there hkl)
    · rw [hk] at ha; cases ha
      exact .inr (List.mem_append_right _ ((hl b).2 hn))
theorem VisI.done {e : Bool} {p m : List Sp} {vis : List Bool} (I : VisI e p m vis []) : Says p vis (reachB e p m) := by
  refine says_of I.len fun j b hb => ?_
  rw [reachB_iff]
  refine ⟨I.sound j b hb, ?_⟩
  rintro ⟨a, ha, hr⟩
  have key : ∀ j' : Nat, p[j']? = some b → vis[j']? = some true := hr.ind (M := fun c => ∀ j' : Nat, p[j']? = some c → vis[j']? = some true) (fun _ j' hj' => by
      rcases I.mark a ha j' hj' with h | h
      · exact h
      · cases h) fun x y hx ih hy hn j' hj' => by
      obtain ⟨i, hi⟩ := List.mem_iff_getElem?.1 hx.right
      rcases I.close i j' x y (ih i hi) hi hj' hn with h | h
      · exact h
      · cases h
  exact key j hb

/-! ### pieces, one after the other -/
def lessL (l m : List Sp) : List Sp := l.filter fun x => !decide (x ∈ m)
theorem mem_lessL {l m : List Sp} {x : Sp} : x ∈ lessL l m ↔ x ∈ l ∧ ¬ x ∈ m := by unfold lessL; simp
theorem sorted_lessL {l : List Sp} (h : Sorted l) (m : List Sp) : Sorted (lessL l m) := sorted_filter h _
open Classical in
noncomputable def firstB (e : Bool) (p : List Sp) (a : Sp) : Bool := decide (∀ b, Reach e p a b → ¬ Lt b a)
open Classical in
theorem firstB_iff {e : Bool} {p : List Sp} {a : Sp} : firstB e p a = true ↔ ∀ b, Reach e p a b → ¬ Lt b a := by unfold firstB; rw [decide_eq_true_eq]
theorem firsts_is (e : Bool) (p : List Sp) : firsts e p = p.filter (firstB e p) := rfl
/-- a part of a list that nothing leads out of has its own pieces -/
theorem closed_pieces {e : Bool} {q : List Sp} (hq : Sorted q) {g : Sp → Bool} (hg : ∀ a b, Reach e q a b → g a = true → g b = true) : piecesL e (q.filter g) = ((firsts e q).filter g).map (pieceL e q) := by
  have hsub : Sub (q.filter g) q := fun x hx => (List.mem_filter.1 hx).1
  have hR : ∀ a b, Reach e (q.filter g) a b ↔ (g a = true ∧ Reach e q a b) := fun a b => by
    constructor
    · intro h; exact ⟨(List.mem_filter.1 h.left).2, h.sub hsub⟩
    · rintro ⟨h1, h2⟩
      exact h2.within fun c hc => List.mem_filter.2 ⟨hc.right, hg a c hc h1⟩
  have hF : firsts e (q.filter g) = (firsts e q).filter g := by
    refine sorted_ext (sorted_firsts (sorted_filter hq g)) (sorted_filter (sorted_firsts hq) g) fun x => ?_
    rw [mem_firsts, List.mem_filter, List.mem_filter, mem_firsts]
    constructor
    · rintro ⟨⟨h1, h2⟩, h3⟩
      exact ⟨⟨h1, fun b hb => h3 b ((hR x b).2 ⟨h2, hb⟩)⟩, h2⟩
    · rintro ⟨⟨h1, h2⟩, h3⟩
      exact ⟨⟨h1, h3⟩, fun b hb => h2 b ((hR x b).1 hb).2⟩
  unfold piecesL
  rw [hF]
  refine List.map_congr_left fun f hf => ?_
  have hgf := (List.mem_filter.1 hf).2
  refine sorted_ext (sorted_reachL (sorted_filter hq g)) (sorted_reachL hq) fun x => ?_
  show x ∈ pieceL e (q.filter g) f ↔ x ∈ pieceL e q f
  rw [mem_pieceL, mem_pieceL, hR]
  exact ⟨fun h => h.2, fun h => ⟨hgf, h⟩⟩
/-- the first spot of a list is the first one of its piece -/
theorem firsts_head {e : Bool} {a : Sp} {l : List Sp} (hs : Sorted (a :: l)) : firsts e (a :: l) = a :: l.filter (firstB e (a :: l)) := by
  rw [firsts_is, List.filter_cons_of_pos]
  rw [firstB_iff]
  intro b hb hlt
  rcases List.mem_cons.1 hb.right with rfl | h
  · exact lt_irrefl _ hlt
  · exact lt_asymm ((sorted_cons.1 hs).1 _ h) hlt
theorem pieces_step {e : Bool} {a : Sp} {l : List Sp} (hs : Sorted (a :: l)) : piecesL e (a :: l) = reachL e (a :: l) [a] :: piecesL e (lessL (a :: l) (reachL e (a :: l) [a])) := by
  have hcl : ∀ x y, Reach e (a :: l) x y → (!decide (x ∈ reachL e (a :: l) [a])) = true → (!decide (y ∈ reachL e (a :: l) [a])) = true := fun x y h hx => by
    simp only [Bool.not_eq_true', decide_eq_false_iff_not] at hx ⊢
    intro hy
    exact hx (mem_pieceL.2 ((mem_pieceL.1 hy).trans h.symm))
  have := closed_pieces hs hcl
  unfold lessL
  rw [this]
  unfold piecesL
  rw [firsts_head hs, List.map_cons]
  have ha : a ∈ reachL e (a :: l) [a] := mem_pieceL.2 (.refl (List.mem_cons_self ..))
  have hout : (!decide (a ∈ reachL e (a :: l) [a])) = false := by simp [ha]
  rw [List.filter_cons_of_neg (by rw [hout]; exact Bool.false_ne_true)]
  congr 2
  symm
  rw [List.filter_eq_self]
  intro x hx
  have hxl := (List.mem_filter.1 hx).1
  have hxf : x ∈ firsts e (a :: l) := by rw [firsts_head hs]; exact List.mem_cons_of_mem _ hx
  have haf : a ∈ firsts e (a :: l) := by rw [firsts_head hs]; exact List.mem_cons_self ..
  simp only [Bool.not_eq_true', decide_eq_false_iff_not]
  intro h
  have := firsts_one haf hxf (mem_pieceL.1 h)
  subst this
  exact lt_irrefl _ ((sorted_cons.1 hs).1 _ hxl)
theorem length_lessL_piece {e : Bool} {a : Sp} {l : List Sp} : (lessL (a :: l) (reachL e (a :: l) [a])).length < (a :: l).length := by
  have ha : a ∈ reachL e (a :: l) [a] := mem_pieceL.2 (.refl (List.mem_cons_self ..))
  unfold lessL
  have hout : (!decide (a ∈ reachL e (a :: l) [a])) = false := by simp [ha]
  rw [List.filter_cons_of_neg (by rw [hout]; exact Bool.false_ne_true), List.length_cons]
  have := List.length_filter_le (fun x => !decide (x ∈ reachL e (a :: l) [a])) l
  omega
/-- a spot is a first one just if it is not reached from those ahead of it -/
theorem first_reached {e : Bool} {p : List Sp} (hs : Sorted p) {k : Nat} {a : Sp} (ha : p[k]? = some a) : firstB e p a = !reachB e p (p.take k) a := by
  rw [Bool.eq_iff_iff, firstB_iff, Bool.not_eq_true', ← Bool.not_eq_true, reachB_iff]
  constructor
  · rintro h ⟨b, hb, hr⟩
    obtain ⟨i, hi⟩ := List.mem_iff_getElem?.1 hb
    rw [List.getElem?_take] at hi
    split at hi
    · exact h b hr.symm (steps_of_sorted hs (by assumption) hi ha)
    · cases hi
  · intro h b hr hlt
    refine h ⟨b, ?_, hr.symm⟩
    obtain ⟨i, hi⟩ := List.mem_iff_getElem?.1 hr.right
    have hik : i < k := by
      rcases Nat.lt_trichotomy i k with h' | h' | h'
      · exact h'
      · subst h'; rw [ha] at hi; cases hi; exact absurd hlt (lt_irrefl _)
      · exact absurd hlt (lt_asymm (steps_of_sorted hs h' ha hi))
    exact List.mem_of_getElem? (i := i) (by rw [List.getElem?_take, if_pos hik]; exact hi)
/-- the pieces whose first spots are among the first k -/
noncomputable def piecesUpto (e : Bool) (p : List Sp) (k : Nat) : List (List Sp) := ((p.take k).filter (firstB e p)).map (pieceL e p)
theorem piecesUpto_zero (e : Bool) (p : List Sp) : piecesUpto e p 0 = [] := rfl
theorem piecesUpto_all (e : Bool) (p : List Sp) : piecesUpto e p p.length = piecesL e p := by
  unfold piecesUpto; rw [List.take_length]; rfl
theorem piecesUpto_yes {e : Bool} {p : List Sp} {k : Nat} {a : Sp} (ha : p[k]? = some a) (h : firstB e p a = true) : piecesUpto e p k ++ [pieceL e p a] = piecesUpto e p (k + 1) := by
  unfold piecesUpto
  rw [← filt_yes ha h, List.map_append]; rfl
theorem piecesUpto_no {e : Bool} {p : List Sp} {k : Nat} {a : Sp} (ha : p[k]? = some a) (h : firstB e p a = false) : piecesUpto e p k = piecesUpto e p (k + 1) := by
  unfold piecesUpto
  rw [← filt_no ha h]
theorem length_piecesUpto (e : Bool) (p : List Sp) (k : Nat) : (piecesUpto e p k).length ≤ p.length := by
  unfold piecesUpto; rw [List.length_map]; exact filt_len _ _ _
theorem piece_sorted {e : Bool} {p q : List Sp} (hs : Sorted p) (h : q ∈ piecesL e p) : Sorted q := by
  obtain ⟨f, _, rfl⟩ := mem_piecesL.1 h
  exact sorted_reachL hs
theorem piece_upto_sorted {e : Bool} {p q : List Sp} {k : Nat} (hs : Sorted p) (h : q ∈ piecesUpto e p k) : Sorted q ∧ q.length ≤ p.length := by
  unfold piecesUpto at h
  obtain ⟨f, _, rfl⟩ := List.mem_map.1 h
  exact ⟨sorted_reachL hs, length_reachL_le _ _ _⟩
/-- whether one of the pieces so far has a spot -/
theorem piecesUpto_has {e : Bool} {p : List Sp} (hs : Sorted p) {k : Nat} {a : Sp} (ha : p[k]? = some a) : ((piecesUpto e p k).any fun q => decide (a ∈ q)) = !firstB e p a := by
  rw [first_reached hs ha, Bool.not_not, Bool.eq_iff_iff, List.any_eq_true, reachB_iff]
  constructor
  · rintro ⟨q, hq, hd⟩
    unfold piecesUpto at hq
    obtain ⟨f, hf, rfl⟩ := List.mem_map.1 hq
    exact ⟨f, (List.mem_filter.1 hf).1, mem_pieceL.1 (of_decide_eq_true hd)⟩
  · rintro ⟨b, hb, hr⟩
    obtain ⟨f, hf, hrf⟩ := firsts_all (e := e) hs hr.left
    have hff := mem_firsts.1 hf
    have hft : f ∈ p.take k := by
      obtain ⟨i, hi⟩ := List.mem_iff_getElem?.1 hb
      obtain ⟨i', hi'⟩ := List.mem_iff_getElem?.1 hff.1
      rw [List.getElem?_take] at hi
      split at hi
      · rename_i hik
        have hle : i' ≤ i := by
          rcases Nat.lt_or_ge i i' with h' | h'
          · exact absurd (steps_of_sorted hs h' hi hi') (hff.2 b hrf)
          · exact h'
        exact List.mem_of_getElem? (i := i') (by rw [List.getElem?_take, if_pos (by omega)]; exact hi')
      · cases hi
    refine ⟨pieceL e p f, List.mem_map.2 ⟨f, List.mem_filter.2 ⟨hft, firstB_iff.2 hff.2⟩, rfl⟩, decide_eq_true (mem_pieceL.2 (hrf.trans hr))⟩

/-! ### holes, by what is not reached from the border -/
/-- a spot on the border of a box -/
def edgeB (lo hi a : Sp) : Bool := decide (a.1 = lo.1 ∨ a.1 = hi.1 ∨ a.2 = lo.2 ∨ a.2 = hi.2)
theorem pieces_filter {e : Bool} {q : List Sp} (hq : Sorted q) (B : Sp → Bool) : piecesL e (lessL q (reachL e q (q.filter B))) = (piecesL e q).filter fun r => r.all fun a => !B a := by
  have hcl : ∀ x y, Reach e q x y → (!decide (x ∈ reachL e q (q.filter B))) = true → (!decide (y ∈ reachL e q (q.filter B))) = true := fun x y h hx => by
    simp only [Bool.not_eq_true', decide_eq_false_iff_not] at hx ⊢
    intro hy
    obtain ⟨a, ha, hr⟩ := mem_reachL.1 hy
    exact hx (mem_reachL.2 ⟨a, ha, hr.trans h.symm⟩)
  unfold lessL
  rw [closed_pieces hq hcl]
  unfold piecesL
  rw [List.filter_map]
  congr 1
  refine List.filter_congr fun f hf => ?_
  have hfq := (mem_firsts.1 hf).1
  simp only [Function.comp]
  rw [Bool.eq_iff_iff, Bool.not_eq_true', decide_eq_false_iff_not, List.all_eq_true]
  constructor
  · intro h x hx
    rw [Bool.not_eq_true', ← Bool.not_eq_true]
    intro hb
    have hr := mem_pieceL.1 hx
    exact h (mem_reachL.2 ⟨x, List.mem_filter.2 ⟨hr.right, hb⟩, hr.symm⟩)
  · intro h hm
    obtain ⟨a, ha, hr⟩ := mem_reachL.1 hm
    have hb := (List.mem_filter.1 ha).2
    have := h a (mem_pieceL.2 hr.symm)
    rw [hb] at this; cases this
theorem holes_less (p : List Sp) (h0 : p ≠ []) : piecesL false (lessL (restL p) (reachL false (restL p) ((restL p).filter (edgeB (boxL p).1 (boxL p).2)))) = holesL p := by
  rw [pieces_filter (sorted_restL p)]
  unfold holesL
  refine List.filter_congr fun q hq => ?_
  have hin : ∀ a ∈ q, a ∈ restL p := fun a ha => by
    obtain ⟨f, _, rfl⟩ := mem_piecesL.1 hq
    exact (mem_pieceL.1 ha).right
  unfold innerB
  rw [Bool.eq_iff_iff, List.all_eq_true, List.all_eq_true]
  refine forall_congr' fun a => forall_congr' fun ha => ?_
  have := ((mem_restL h0).1 (hin a ha)).1
  unfold edgeB
  rw [Bool.not_eq_true', decide_eq_false_iff_not, decide_eq_true_eq]
  omega

theorem within_parts {m p : List Sp} (h : withinB m p = true) : picB m = true ∧ picB p = true ∧ Sub m p := by
  unfold withinB bothB at h
  rw [Bool.and_eq_true, Bool.and_eq_true, decide_eq_true_eq] at h
  refine ⟨h.1.1, h.1.2, fun x hx => ?_⟩
  have := List.length_filter_eq_length_iff.1 h.2 x hx
  simpa using this
theorem nearS_pic {p : List Sp} (h : picB p = true) : ∀ a ∈ p, NearS a := fun a ha => by
  have := (picB_pic h).2.1 a ha
  unfold InR at this
  unfold NearS; omega

/-! ### the answers -/
noncomputable def reachR (e : Bool) (p m : List Sp) : List Sp := if withinB m p then reachL e p m else []
noncomputable def piecesR (e : Bool) (p : List Sp) : List (List Sp) := if picB p then piecesL e p else []
noncomputable def countR (e : Bool) (p : List Sp) : Int := if picB p then (piecesL e p).length else -1
noncomputable def holesR (p : List Sp) : List (List Sp) := if picB p then holesL p else []
noncomputable def fillOk (p : List Sp) : Bool := picB p && decide ((fillL p).length ≤ 60)
noncomputable def fillR (p : List Sp) : List Sp := if fillOk p then fillL p else []
end Go.Proofs.Ytmpfhdcefilekaa
