/-
  Plain facts on graphs in a grid (Conn, Grid, Euler, Euler2, Sides, Quads, Perim), and on cells: corners, sides and borders of a picture, its pieces less its holes, squares of two by two, and how they are counted. No program is named. No conditions but those that stand in each theorem.
-/
import Derived.Test.YtbbeinhjkfjipaaPlain
namespace Go.Proofs.Ytbbeinhjkfjipaa.Graph
/-! ### Conn -/
section
variable {α : Type}

/-- joined by edges of the list, either way round -/
inductive Conn (E : List (α × α)) (a : α) : α → Prop
  | refl : Conn E a a
  | step {b c : α} : Conn E a b → ((b, c) ∈ E ∨ (c, b) ∈ E) → Conn E a c

theorem Conn.trans {E : List (α × α)} {a b c : α} (h : Conn E a b) (k : Conn E b c) : Conn E a c := by
  induction k with
  | refl => exact h
  | step _ e ih => exact ih.step e
theorem Conn.symm {E : List (α × α)} {a b : α} (h : Conn E a b) : Conn E b a := by
  induction h with
  | refl => exact .refl
  | step _ e ih => exact (Conn.step .refl e.symm).trans ih
theorem Conn.mono {E F : List (α × α)} (hs : ∀ e ∈ E, e ∈ F) {a b : α} (h : Conn E a b) : Conn F a b := by
  induction h with
  | refl => exact .refl
  | step _ e ih => exact ih.step (e.imp (hs _) (hs _))
theorem Conn.edge {E : List (α × α)} {a b : α} (h : (a, b) ∈ E) : Conn E a b := Conn.step .refl (.inl h)
theorem conn_nil {a b : α} (h : Conn ([] : List (α × α)) a b) : a = b := by
  induction h with
  | refl => rfl
  | step _ e _ => rcases e with e | e <;> cases e
/-- one edge more -/
theorem conn_cons {E : List (α × α)} {x y a b : α} (h : Conn ((x, y) :: E) a b) : Conn E a b ∨ (Conn E a x ∧ Conn E y b) ∨ (Conn E a y ∧ Conn E x b) := by
  induction h with
  | refl => exact .inl .refl
  | @step c d _ e ih =>
    have e' : (c = x ∧ d = y) ∨ (c = y ∧ d = x) ∨ ((c, d) ∈ E ∨ (d, c) ∈ E) := by
      rcases e with e | e
      · rcases List.mem_cons.1 e with e | e
        · cases e; exact .inl ⟨rfl, rfl⟩
        · exact .inr (.inr (.inl e))
      · rcases List.mem_cons.1 e with e | e
        · cases e; exact .inr (.inl ⟨rfl, rfl⟩)
        · exact .inr (.inr (.inr e))
    rcases e' with ⟨rfl, rfl⟩ | ⟨rfl, rfl⟩ | e'
    · rcases ih with ih | ⟨ih, _⟩ | ⟨ih, _⟩
      · exact .inr (.inl ⟨ih, .refl⟩)
      · exact .inr (.inl ⟨ih, .refl⟩)
      · exact .inl ih
    · rcases ih with ih | ⟨ih, _⟩ | ⟨ih, _⟩
      · exact .inr (.inr ⟨ih, .refl⟩)
      · exact .inl ih
      · exact .inr (.inr ⟨ih, .refl⟩)
    · rcases ih with ih | ⟨ih, k⟩ | ⟨ih, k⟩
      · exact .inl (ih.step e')
      · exact .inr (.inl ⟨ih, k.step e'⟩)
      · exact .inr (.inr ⟨ih, k.step e'⟩)
theorem conn_cons_same {E : List (α × α)} {x y a b : α} (hxy : Conn E x y) (h : Conn ((x, y) :: E) a b) : Conn E a b := by
  rcases conn_cons h with h | ⟨h, k⟩ | ⟨h, k⟩
  · exact h
  · exact (h.trans hxy).trans k
  · exact (h.trans hxy.symm).trans k

open Classical in
/-- how many edges, the last one first, join what was apart -/
noncomputable def rank : List (α × α) → Nat
  | [] => 0
  | e :: E => rank E + (if Conn E e.1 e.2 then 0 else 1)
theorem rank_yes {E : List (α × α)} {e : α × α} (h : Conn E e.1 e.2) : rank (e :: E) = rank E := by unfold rank; rw [if_pos h]; cases E <;> rfl
theorem rank_no {E : List (α × α)} {e : α × α} (h : ¬ Conn E e.1 e.2) : rank (e :: E) = rank E + 1 := by rw [rank, if_neg h]

/-- R: one of each piece -/
structure Reps (V : List α) (E : List (α × α)) (R : List α) : Prop where
  nodup : R.Nodup
  sub : ∀ r ∈ R, r ∈ V
  all : ∀ v ∈ V, ∃ r ∈ R, Conn E v r
  one : ∀ r ∈ R, ∀ s ∈ R, Conn E r s → r = s

theorem length_eq_of_same [DecidableEq α] {a b : List α} (ha : a.Nodup) (hb : b.Nodup) (h : ∀ x, x ∈ a ↔ x ∈ b) : a.length = b.length :=
  ((List.perm_ext_iff_of_nodup ha hb).2 h).length_eq

/-- pieces are counted by the rank -/
theorem Reps.count [DecidableEq α] {V : List α} (hV : V.Nodup) : ∀ {E : List (α × α)} {R : List α}, (∀ e ∈ E, e.1 ∈ V ∧ e.2 ∈ V) → Reps V E R → R.length + rank E = V.length
  | [], R, _, h => by
    refine length_eq_of_same h.nodup hV fun x => ⟨h.sub x, fun hx => ?_⟩
    obtain ⟨r, hr, k⟩ := h.all x hx
    rw [conn_nil k]; exact hr
  | (x, y) :: E, R, hE, h => by
    have hE' : ∀ e ∈ E, e.1 ∈ V ∧ e.2 ∈ V := fun e he => hE e (List.mem_cons_of_mem _ he)
    have up : ∀ {a b}, Conn E a b → Conn ((x, y) :: E) a b := fun k => k.mono fun e he => List.mem_cons_of_mem _ he
    by_cases hxy : Conn E x y
    · rw [rank_yes hxy]
      refine Reps.count hV hE' ⟨h.nodup, h.sub, fun v hv => ?_, fun r hr s hs k => h.one r hr s hs (up k)⟩
      obtain ⟨r, hr, k⟩ := h.all v hv
      exact ⟨r, hr, conn_cons_same hxy k⟩
    · rw [rank_no hxy]
      have hx := (hE _ (List.mem_cons_self ..)).1
      have hy := (hE _ (List.mem_cons_self ..)).2
      obtain ⟨r, hr, k⟩ := h.all x hx
      -- the end z that r does not reach without the new edge
      obtain ⟨z, hz, hrz, hall⟩ : ∃ z, z ∈ V ∧ ¬ Conn E r z ∧ (∀ v, Conn E v x ∨ Conn E v y → Conn E v r ∨ Conn E v z) := by
        rcases conn_cons k with k | ⟨_, k⟩ | ⟨k, _⟩
        · exact ⟨y, hy, fun e => hxy (k.trans e), fun v hv => hv.imp (fun e => e.trans k) id⟩
        · exact ⟨x, hx, fun e => hxy (k.trans e).symm, fun v hv => hv.symm.imp (fun e => e.trans k) id⟩
        · exact absurd k hxy
      have hrzup : Conn ((x, y) :: E) r z := by
        have hxy' : Conn ((x, y) :: E) x y := Conn.edge (List.mem_cons_self ..)
        rcases conn_cons k with k' | ⟨_, k'⟩ | ⟨k', _⟩
        · rcases hall y (.inr .refl) with e | e
          · exact absurd (k'.trans e.symm) hxy
          · exact (k.symm.trans hxy').trans (up e)
        · rcases hall x (.inl .refl) with e | e
          · exact absurd (e.trans k'.symm) hxy
          · exact k.symm.trans (up e)
        · exact absurd k' hxy
      have hzR : z ∉ R := fun e => hrz (by rw [h.one r hr z e hrzup]; exact .refl)
      have key : Reps V E (z :: R) := by
        refine ⟨List.nodup_cons.2 ⟨hzR, h.nodup⟩, fun s hs => ?_, fun v hv => ?_, fun s hs t ht e => ?_⟩
        · rcases List.mem_cons.1 hs with rfl | hs
          · exact hz
          · exact h.sub s hs
        · obtain ⟨s, hs, e⟩ := h.all v hv
          have fin : (Conn E v x ∨ Conn E v y) → ∃ r' ∈ z :: R, Conn E v r' := fun hv => by
            rcases hall v hv with e | e
            · exact ⟨r, List.mem_cons_of_mem _ hr, e⟩
            · exact ⟨z, List.mem_cons_self .., e⟩
          rcases conn_cons e with e | ⟨e, _⟩ | ⟨e, _⟩
          · exact ⟨s, List.mem_cons_of_mem _ hs, e⟩
          · exact fin (.inl e)
          · exact fin (.inr e)
        · rcases List.mem_cons.1 hs with e1 | hs2
          · rcases List.mem_cons.1 ht with e2 | ht2
            · rw [e1, e2]
            · rw [e1] at e
              have e3 : t = r := h.one t ht2 r hr ((hrzup.trans (up e)).symm)
              rw [e3] at e
              exact absurd e.symm hrz
          · rcases List.mem_cons.1 ht with e2 | ht2
            · rw [e2] at e
              have e3 : s = r := h.one s hs2 r hr ((up e).trans hrzup.symm)
              rw [e3] at e
              exact absurd e hrz
            · exact h.one s hs2 t ht2 (up e)
      have := Reps.count hV hE' key
      simp at this
      omega

/-- there is one of each piece -/
theorem reps_exist [DecidableEq α] {V : List α} (hV : V.Nodup) : ∀ {E : List (α × α)}, (∀ e ∈ E, e.1 ∈ V ∧ e.2 ∈ V) → ∃ R, Reps V E R
  | [], _ => ⟨V, hV, fun _ h => h, fun v hv => ⟨v, hv, .refl⟩, fun _ _ _ _ k => conn_nil k⟩
  | (x, y) :: E, hE => by
    obtain ⟨R, h⟩ := reps_exist hV (E := E) fun e he => hE e (List.mem_cons_of_mem _ he)
    have up : ∀ {a b}, Conn E a b → Conn ((x, y) :: E) a b := fun k => k.mono fun e he => List.mem_cons_of_mem _ he
    have hx := (hE _ (List.mem_cons_self ..)).1
    have hy := (hE _ (List.mem_cons_self ..)).2
    by_cases hxy : Conn E x y
    · exact ⟨R, h.nodup, h.sub, fun v hv => by obtain ⟨r, hr, k⟩ := h.all v hv; exact ⟨r, hr, up k⟩, fun r hr s hs k => h.one r hr s hs (conn_cons_same hxy k)⟩
    · obtain ⟨r, hr, kr⟩ := h.all x hx
      obtain ⟨s, hs, ks⟩ := h.all y hy
      have hrs : r ≠ s := fun e => hxy (kr.trans (by rw [e]; exact ks.symm))
      have hxy' : Conn ((x, y) :: E) x y := Conn.edge (List.mem_cons_self ..)
      refine ⟨R.filter fun t => decide (t ≠ s), h.nodup.sublist List.filter_sublist, fun t ht => h.sub t (List.mem_filter.1 ht).1, fun v hv => ?_, fun t ht u hu k => ?_⟩
      · obtain ⟨t, ht, k⟩ := h.all v hv
        by_cases e : t = s
        · subst e
          exact ⟨r, List.mem_filter.2 ⟨hr, decide_eq_true hrs⟩, (((up k).trans (up ks.symm)).trans hxy'.symm).trans (up kr)⟩
        · exact ⟨t, List.mem_filter.2 ⟨ht, decide_eq_true e⟩, up k⟩
      · have ht' := List.mem_filter.1 ht
        have hu' := List.mem_filter.1 hu
        have nt : t ≠ s := of_decide_eq_true ht'.2
        have nu : u ≠ s := of_decide_eq_true hu'.2
        rcases conn_cons k with k | ⟨_, k⟩ | ⟨k, _⟩
        · exact h.one t ht'.1 u hu'.1 k
        · exact absurd (h.one u hu'.1 s hs (k.symm.trans ks)) nu
        · exact absurd (h.one t ht'.1 s hs (k.trans ks)) nt
/-- no more edges join than there are others -/
theorem rank_lt [DecidableEq α] {V : List α} (hV : V.Nodup) (h0 : V ≠ []) {E : List (α × α)} (hE : ∀ e ∈ E, e.1 ∈ V ∧ e.2 ∈ V) : rank E + 1 ≤ V.length := by
  obtain ⟨R, h⟩ := reps_exist hV hE
  have := h.count hV hE
  have : 0 < R.length := by
    match V, h0 with
    | v :: V, _ =>
      obtain ⟨r, hr, _⟩ := h.all v (List.mem_cons_self ..)
      exact List.length_pos_of_mem hr
  omega

/-! ### two graphs on the same edges, of which the one closes what the other one opens -/
variable {β ε : Type}
/-- where an edge closes a way in the one graph, its ends are apart in the other one -/
def Dual (P : ε → α × α) (D : ε → β × β) (L : List ε) : Prop :=
  ∀ pre e post, pre ++ e :: post = L → Conn (post.map P) (P e).1 (P e).2 → ¬ Conn (pre.map D) (D e).1 (D e).2
theorem conn_map_reverse {D : ε → β × β} {l : List ε} {a b : β} : Conn (l.reverse.map D) a b ↔ Conn (l.map D) a b :=
  ⟨fun h => h.mono fun e he => by simpa using he, fun h => h.mono fun e he => by simpa using he⟩
theorem dual_step {P : ε → α × α} {D : ε → β × β} : ∀ (post pre suf : List ε), Dual P D (pre ++ (post ++ suf)) →
    post.length + rank (suf.map P) + rank (pre.reverse.map D) ≤ rank ((post ++ suf).map P) + rank ((pre ++ post).reverse.map D)
  | [], pre, suf, _ => by simp
  | e :: post, pre, suf, h => by
    have ih := dual_step post (pre ++ [e]) suf (by rw [List.append_assoc]; exact h)
    have h1 := h pre e (post ++ suf) rfl
    have e1 : ((pre ++ [e]).reverse.map D) = D e :: pre.reverse.map D := by simp
    have e2 : (pre ++ [e] ++ post).reverse = (pre ++ e :: post).reverse := by simp
    rw [e1, e2] at ih
    have e3 : ((e :: post ++ suf).map P) = P e :: (post ++ suf).map P := rfl
    rw [e3, List.length_cons]
    by_cases hc : Conn ((post ++ suf).map P) (P e).1 (P e).2
    · have hd : ¬ Conn (pre.reverse.map D) (D e).1 (D e).2 := fun k => h1 hc (conn_map_reverse.1 k)
      rw [rank_yes hc]
      rw [rank_no hd] at ih
      omega
    · rw [rank_no hc]
      by_cases hd : Conn (pre.reverse.map D) (D e).1 (D e).2
      · rw [rank_yes hd] at ih; omega
      · rw [rank_no hd] at ih; omega
/-- what the edges of A join, and what the others join in the other graph -/
theorem dual_rank {P : ε → α × α} {D : ε → β × β} {A B : List ε} (h : Dual P D (B ++ A)) {n m : Nat} (hn : rank ((B ++ A).map P) ≤ n) (hm : rank ((B ++ A).reverse.map D) ≤ m) (hnm : n + m ≤ A.length + B.length) :
    rank (A.map P) + m = A.length + rank (B.reverse.map D) := by
  have h1 := dual_step A B [] (by rw [List.append_nil]; exact h)
  have h2 := dual_step B [] A (by simpa using h)
  simp only [List.append_nil, List.map_nil, List.nil_append, List.reverse_nil] at h1 h2
  have r0 : rank ([] : List (α × α)) = 0 := rfl
  have r1 : rank ([] : List (β × β)) = 0 := rfl
  rw [r0] at h1
  rw [r1] at h2
  omega
end
/-! ### Grid -/
section
/-- a side: to the right, or up, from a corner -/
inductive Ed
  | h (x y : Int)
  | v (x y : Int)
  deriving DecidableEq
/-- its corners -/
def ends : Ed → Sp × Sp
  | .h x y => ((x, y), (x + 1, y))
  | .v x y => ((x, y), (x, y + 1))
/-- a cell of the box, or what is around it -/
def cellOf (l r d u x y : Int) : Option Sp := if l ≤ x ∧ x < r ∧ d ≤ y ∧ y < u then some (x, y) else none
/-- the cells on both sides -/
def twoCells (l r d u : Int) : Ed → Option Sp × Option Sp
  | .h x y => (cellOf l r d u x (y - 1), cellOf l r d u x y)
  | .v x y => (cellOf l r d u (x - 1) y, cellOf l r d u x y)
def InG (l r d u : Int) : Ed → Prop
  | .h x y => l ≤ x ∧ x < r ∧ d ≤ y ∧ y ≤ u
  | .v x y => l ≤ x ∧ x ≤ r ∧ d ≤ y ∧ y < u

def par {ε : Type} (l : List ε) (f : ε → Bool) : Bool := l.foldr (fun g acc => xor (f g) acc) false
theorem par_cons {ε : Type} (g : ε) (l : List ε) (f : ε → Bool) : par (g :: l) f = xor (f g) (par l f) := rfl
theorem par_xor {ε : Type} (l : List ε) (f k : ε → Bool) : par l (fun g => xor (f g) (k g)) = xor (par l f) (par l k) := by
  induction l with
  | nil => rfl
  | cons g l ih =>
    rw [par_cons, par_cons, par_cons, ih]
    cases f g <;> cases k g <;> cases par l f <;> cases par l k <;> rfl
theorem par_congr {ε : Type} {l : List ε} {f k : ε → Bool} (h : ∀ g ∈ l, f g = k g) : par l f = par l k := by
  induction l with
  | nil => rfl
  | cons g l ih =>
    rw [par_cons, par_cons, h g (List.mem_cons_self ..), ih fun e he => h e (List.mem_cons_of_mem _ he)]
theorem par_false {ε : Type} {l : List ε} {f : ε → Bool} (h : ∀ g ∈ l, f g = false) : par l f = false := by
  induction l with
  | nil => rfl
  | cons g l ih =>
    rw [par_cons, h g (List.mem_cons_self ..), ih fun e he => h e (List.mem_cons_of_mem _ he)]
    rfl

def cross (S : Sp → Bool) (g : Ed) : Bool := xor (S (ends g).1) (S (ends g).2)
/-- a way from a to b leaves a set as often as it enters it, but for its ends -/
theorem way {post : List Ed} {a b : Sp} (h : Conn (post.map ends) a b) : ∃ l : List Ed, (∀ g ∈ l, g ∈ post) ∧ ∀ S : Sp → Bool, par l (cross S) = xor (S a) (S b) := by
  induction h with
  | refl => exact ⟨[], fun g hg => (by cases hg), fun S => by cases S a <;> rfl⟩
  | @step b c _ e ih =>
    obtain ⟨l, hl, hS⟩ := ih
    rcases e with e | e
    · obtain ⟨g, hg, he⟩ := List.mem_map.1 e
      refine ⟨g :: l, fun k hk => ?_, fun S => ?_⟩
      · rcases List.mem_cons.1 hk with rfl | hk
        · exact hg
        · exact hl k hk
      · rw [par_cons, hS]
        unfold cross
        rw [he]
        cases S a <;> cases S b <;> cases S c <;> rfl
    · obtain ⟨g, hg, he⟩ := List.mem_map.1 e
      refine ⟨g :: l, fun k hk => ?_, fun S => ?_⟩
      · rcases List.mem_cons.1 hk with rfl | hk
        · exact hg
        · exact hl k hk
      · rw [par_cons, hS]
        unfold cross
        rw [he]
        cases S a <;> cases S b <;> cases S c <;> rfl

/-- a side to the right, above a cell -/
def above (x y : Int) : Ed → Bool
  | .h x' y' => decide (x' = x) && decide (y < y')
  | .v _ _ => false

theorem above_out {l r d u x y : Int} {g : Ed} (hg : InG l r d u g) (h : x < l ∨ r ≤ x ∨ u ≤ y) : above x y g = false := by
  cases g with
  | v _ _ => rfl
  | h x' y' =>
    unfold InG at hg
    unfold above
    by_cases e1 : x' = x
    · have : ¬ y < y' := by omega
      simp [this]
    · simp [e1]
theorem above_low {l r d u x y : Int} {g : Ed} (hg : InG l r d u g) (h : y < d) : above x y g = cross (fun c => decide (c.1 ≤ x)) g := by
  cases g with
  | v x' y' => unfold above cross ends; simp
  | h x' y' =>
    unfold InG at hg
    unfold above cross ends
    have e0 : y < y' := by omega
    by_cases e1 : x' = x
    · simp [e0, e1]
      omega
    · by_cases h1 : x' ≤ x
      · have h2 : x' + 1 ≤ x := by omega
        simp [e1, h1, h2]
      · have h2 : ¬ x' + 1 ≤ x := by omega
        simp [e1, h1, h2]
theorem above_h (x y : Int) (g : Ed) : xor (above x (y - 1) g) (above x y g) = decide (g = .h x y) := by
  cases g with
  | v x' y' => simp [above]
  | h x' y' =>
    unfold above
    by_cases e1 : x' = x
    · by_cases e2 : y' = y
      · have h1 : y - 1 < y' := by omega
        have h2 : ¬ y < y' := by omega
        simp [e1, e2]
        omega
      · by_cases h1 : y < y'
        · have h2 : y - 1 < y' := by omega
          simp [e1, e2, h1, h2]
        · have h2 : ¬ y - 1 < y' := by omega
          simp [e1, e2, h1, h2]
    · simp [e1]
theorem above_v (x y : Int) (g : Ed) : xor (above (x - 1) y g) (above x y g) = xor (decide (g = .v x y)) (cross (fun c => decide (c.1 = x) && decide (y < c.2)) g) := by
  cases g with
  | h x' y' =>
    unfold above cross ends
    by_cases h1 : y < y'
    · by_cases e1 : x' = x
      · have e2 : ¬ x' = x - 1 := by omega
        have e3 : ¬ x' + 1 = x := by omega
        simp [h1, e1]
        omega
      · by_cases e2 : x' = x - 1
        · have e3 : x' + 1 = x := by omega
          simp [h1, e2]
        · have e3 : ¬ x' + 1 = x := by omega
          simp [h1, e1, e2, e3]
    · simp [h1]
  | v x' y' =>
    unfold above cross ends
    by_cases e1 : x' = x
    · by_cases e2 : y' = y
      · have h1 : ¬ y < y' := by omega
        have h2 : y < y' + 1 := by omega
        simp [e1, e2]
        omega
      · by_cases h1 : y < y'
        · have h2 : y < y' + 1 := by omega
          simp [e1, e2, h1, h2]
        · have h2 : ¬ y < y' + 1 := by omega
          simp [e1, e2, h1, h2]
    · simp [e1]

/-- where a side closes a way, the cells on both sides of it are not joined across other sides that are not on the way -/
theorem dual_grid {x0 x1 y0 y1 : Int} {L : List Ed} (hn : L.Nodup) (hin : ∀ g ∈ L, InG x0 x1 y0 y1 g) : Dual ends (twoCells x0 x1 y0 y1) L := by
  intro pre e post hL hc hd
  subst hL
  obtain ⟨l, hl, hS⟩ := way hc
  have hn' := List.nodup_append.1 hn
  have hpost := List.nodup_cons.1 hn'.2.1
  have hmem : ∀ g ∈ e :: l, g ∈ pre ++ e :: post := fun g hg => by
    rcases List.mem_cons.1 hg with rfl | hg
    · exact List.mem_append_right _ (List.mem_cons_self ..)
    · exact List.mem_append_right _ (List.mem_cons_of_mem _ (hl g hg))
  have hclosed : ∀ S : Sp → Bool, par (e :: l) (cross S) = false := fun S => by
    rw [par_cons, hS]
    unfold cross
    cases S (ends e).1 <;> cases S (ends e).2 <;> rfl
  have hout : ∀ x y : Int, ¬ (x0 ≤ x ∧ x < x1 ∧ y0 ≤ y ∧ y < y1) → par (e :: l) (above x y) = false := fun x y h => by
    by_cases hy : y < y0
    · rw [par_congr fun g hg => above_low (hin g (hmem g hg)) hy]
      exact hclosed _
    · exact par_false fun g hg => above_out (hin g (hmem g hg)) (by omega)
  let w : Option Sp → Bool := fun c => match c with
    | none => false
    | some c => par (e :: l) (above c.1 c.2)
  have hw : ∀ x y : Int, w (cellOf x0 x1 y0 y1 x y) = par (e :: l) (above x y) := fun x y => by
    unfold cellOf
    by_cases h : x0 ≤ x ∧ x < x1 ∧ y0 ≤ y ∧ y < y1
    · rw [if_pos h]
    · rw [if_neg h, hout x y h]
  have hkey : ∀ g0 : Ed, xor (w (twoCells x0 x1 y0 y1 g0).1) (w (twoCells x0 x1 y0 y1 g0).2) = par (e :: l) (fun g => decide (g = g0)) := fun g0 => by
    cases g0 with
    | h x y =>
      unfold twoCells
      simp only []
      rw [hw, hw, ← par_xor]
      exact par_congr fun g _ => above_h x y g
    | v x y =>
      unfold twoCells
      simp only []
      rw [hw, hw, ← par_xor, par_congr fun g _ => above_v x y g, par_xor, hclosed, Bool.xor_false]
  have hother : ∀ g ∈ pre, w (twoCells x0 x1 y0 y1 g).1 = w (twoCells x0 x1 y0 y1 g).2 := fun g hg => by
    have h0 := hkey g
    rw [par_false (f := fun k => decide (k = g)) fun k hk => by
      refine decide_eq_false fun ek => ?_
      subst ek
      rcases List.mem_cons.1 hk with rfl | hk
      · exact hn'.2.2 k hg k (List.mem_cons_self ..) rfl
      · exact hn'.2.2 k hg k (List.mem_cons_of_mem _ (hl k hk)) rfl] at h0
    revert h0
    cases w (twoCells x0 x1 y0 y1 g).1 <;> cases w (twoCells x0 x1 y0 y1 g).2 <;> simp
  have hself : w (twoCells x0 x1 y0 y1 e).1 ≠ w (twoCells x0 x1 y0 y1 e).2 := fun heq => by
    have h0 := hkey e
    rw [par_cons, par_false (f := fun k => decide (k = e)) fun k hk => decide_eq_false fun ek => hpost.1 (by rw [← ek]; exact hl k hk), heq] at h0
    revert h0
    cases w (twoCells x0 x1 y0 y1 e).2 <;> simp
  have hinv : ∀ {a b : Option Sp}, Conn (pre.map (twoCells x0 x1 y0 y1)) a b → w a = w b := fun {a b} h => by
    induction h with
    | refl => rfl
    | step _ k ih =>
      rcases k with k | k
      · obtain ⟨g, hg, he⟩ := List.mem_map.1 k
        have := hother g hg
        rw [he] at this
        exact ih.trans this
      · obtain ⟨g, hg, he⟩ := List.mem_map.1 k
        have := hother g hg
        rw [he] at this
        exact ih.trans this.symm
  exact hself (hinv hd)
end
/-! ### Euler -/
section
/-! ### the lists of the grid -/
def prod {α β : Type} (A : List α) (B : List β) : List (α × β) := A.flatMap fun a => B.map fun b => (a, b)
theorem mem_prod {α β : Type} {A : List α} {B : List β} {x : α × β} : x ∈ prod A B ↔ x.1 ∈ A ∧ x.2 ∈ B := by
  unfold prod
  rw [List.mem_flatMap]
  constructor
  · rintro ⟨a, ha, h⟩
    obtain ⟨b, hb, rfl⟩ := List.mem_map.1 h
    exact ⟨ha, hb⟩
  · rintro ⟨ha, hb⟩
    exact ⟨x.1, ha, List.mem_map.2 ⟨x.2, hb, rfl⟩⟩
theorem length_prod {α β : Type} (A : List α) (B : List β) : (prod A B).length = A.length * B.length := by
  induction A with
  | nil => simp [prod]
  | cons a A ih =>
    have : prod (a :: A) B = B.map (fun b => (a, b)) ++ prod A B := rfl
    rw [this, List.length_append, List.length_map, ih, List.length_cons, Nat.add_mul, Nat.one_mul, Nat.add_comm]
theorem nodup_map_inj {α β : Type} {f : α → β} (hf : ∀ a b, f a = f b → a = b) {l : List α} (h : l.Nodup) : (l.map f).Nodup :=
  List.Pairwise.map f (fun _ _ hn e => hn (hf _ _ e)) h
theorem nodup_prod {α β : Type} {A : List α} {B : List β} (hA : A.Nodup) (hB : B.Nodup) : (prod A B).Nodup := by
  induction A with
  | nil => exact List.Pairwise.nil
  | cons a A ih =>
    have e : prod (a :: A) B = B.map (fun b => (a, b)) ++ prod A B := rfl
    obtain ⟨h1, h2⟩ := List.nodup_cons.1 hA
    rw [e]
    refine List.nodup_append.2 ⟨nodup_map_inj (fun x y h => (Prod.mk.inj h).2) hB, ih h2, fun x hx y hy e2 => ?_⟩
    obtain ⟨b, _, rfl⟩ := List.mem_map.1 hx
    rw [← e2] at hy
    exact h1 (mem_prod.1 hy).1
/-- n numbers from l on -/
def upFrom (l : Int) (n : Nat) : List Int := (List.range n).map fun i : Nat => l + (i : Int)
theorem mem_upFrom {l x : Int} {n : Nat} : x ∈ upFrom l n ↔ l ≤ x ∧ x < l + n := by
  unfold upFrom
  rw [List.mem_map]
  constructor
  · rintro ⟨i, hi, rfl⟩
    have := List.mem_range.1 hi
    omega
  · rintro ⟨h1, h2⟩
    exact ⟨(x - l).toNat, List.mem_range.2 (by omega), by omega⟩
theorem nodup_upFrom (l : Int) (n : Nat) : (upFrom l n).Nodup := nodup_map_inj (fun a b h => by omega) List.nodup_range
theorem length_upFrom (l : Int) (n : Nat) : (upFrom l n).length = n := by simp [upFrom]

/-- a box: the corner on the left below, how wide and how high -/
structure Box where
  l : Int
  d : Int
  w : Nat
  t : Nat
def Box.cells (B : Box) : List Sp := prod (upFrom B.l B.w) (upFrom B.d B.t)
def Box.corners (B : Box) : List Sp := prod (upFrom B.l (B.w + 1)) (upFrom B.d (B.t + 1))
def Box.sides (B : Box) : List Ed := ((prod (upFrom B.l B.w) (upFrom B.d (B.t + 1))).map fun c => Ed.h c.1 c.2) ++ ((prod (upFrom B.l (B.w + 1)) (upFrom B.d B.t)).map fun c => Ed.v c.1 c.2)
def Box.two (B : Box) : Ed → Option Sp × Option Sp := twoCells B.l (B.l + B.w) B.d (B.d + B.t)
def Box.In (B : Box) : Ed → Prop := InG B.l (B.l + B.w) B.d (B.d + B.t)
theorem Box.mem_cells {B : Box} {c : Sp} : c ∈ B.cells ↔ B.l ≤ c.1 ∧ c.1 < B.l + B.w ∧ B.d ≤ c.2 ∧ c.2 < B.d + B.t := by
  unfold Box.cells; rw [mem_prod, mem_upFrom, mem_upFrom]; exact and_assoc
theorem Box.mem_corners {B : Box} {c : Sp} : c ∈ B.corners ↔ B.l ≤ c.1 ∧ c.1 ≤ B.l + B.w ∧ B.d ≤ c.2 ∧ c.2 ≤ B.d + B.t := by
  unfold Box.corners; rw [mem_prod, mem_upFrom, mem_upFrom]; omega
theorem Box.mem_sides {B : Box} {e : Ed} : e ∈ B.sides ↔ B.In e := by
  unfold Box.sides Box.In
  rw [List.mem_append, List.mem_map, List.mem_map]
  constructor
  · rintro (⟨c, hc, rfl⟩ | ⟨c, hc, rfl⟩)
    · rw [mem_prod, mem_upFrom, mem_upFrom] at hc; unfold InG; omega
    · rw [mem_prod, mem_upFrom, mem_upFrom] at hc; unfold InG; omega
  · intro h
    cases e with
    | h x y => exact .inl ⟨(x, y), by rw [mem_prod, mem_upFrom, mem_upFrom]; unfold InG at h; omega, rfl⟩
    | v x y => exact .inr ⟨(x, y), by rw [mem_prod, mem_upFrom, mem_upFrom]; unfold InG at h; omega, rfl⟩
theorem Box.nodup_cells (B : Box) : B.cells.Nodup := nodup_prod (nodup_upFrom _ _) (nodup_upFrom _ _)
theorem Box.nodup_corners (B : Box) : B.corners.Nodup := nodup_prod (nodup_upFrom _ _) (nodup_upFrom _ _)
theorem Box.nodup_sides (B : Box) : B.sides.Nodup := by
  unfold Box.sides
  refine List.nodup_append.2 ⟨nodup_map_inj (fun a b h => by injection h with h1 h2; exact sp_ext h1 h2) (nodup_prod (nodup_upFrom _ _) (nodup_upFrom _ _)), nodup_map_inj (fun a b h => by injection h with h1 h2; exact sp_ext h1 h2) (nodup_prod (nodup_upFrom _ _) (nodup_upFrom _ _)), fun x hx y hy e => ?_⟩
  obtain ⟨a, _, rfl⟩ := List.mem_map.1 hx
  obtain ⟨b, _, rfl⟩ := List.mem_map.1 hy
  cases e
theorem Box.length_cells (B : Box) : B.cells.length = B.w * B.t := by unfold Box.cells; rw [length_prod, length_upFrom, length_upFrom]
theorem Box.length_corners (B : Box) : B.corners.length = (B.w + 1) * (B.t + 1) := by unfold Box.corners; rw [length_prod, length_upFrom, length_upFrom]
theorem Box.length_sides (B : Box) : B.sides.length = B.w * (B.t + 1) + (B.w + 1) * B.t := by
  unfold Box.sides; rw [List.length_append, List.length_map, List.length_map, length_prod, length_prod]; simp only [length_upFrom]
theorem Box.ends_mem {B : Box} {e : Ed} (h : B.In e) : (ends e).1 ∈ B.corners ∧ (ends e).2 ∈ B.corners := by
  rw [Box.mem_corners, Box.mem_corners]
  unfold Box.In at h
  cases e with
  | h x y => unfold InG at h; unfold ends; simp only []; omega
  | v x y => unfold InG at h; unfold ends; simp only []; omega
/-- the outside, and all cells -/
def Box.faces (B : Box) : List (Option Sp) := none :: B.cells.map some
theorem Box.nodup_faces (B : Box) : B.faces.Nodup := by
  refine List.nodup_cons.2 ⟨fun h => ?_, nodup_map_inj (fun a b h => Option.some.inj h) B.nodup_cells⟩
  obtain ⟨c, _, e⟩ := List.mem_map.1 h
  cases e
theorem Box.length_faces (B : Box) : B.faces.length = B.w * B.t + 1 := by unfold Box.faces; rw [List.length_cons, List.length_map, B.length_cells]
theorem Box.cellOf_mem (B : Box) (x y : Int) : cellOf B.l (B.l + B.w) B.d (B.d + B.t) x y ∈ B.faces := by
  unfold cellOf Box.faces
  split
  · rename_i h
    exact List.mem_cons_of_mem _ (List.mem_map.2 ⟨(x, y), B.mem_cells.2 h, rfl⟩)
  · exact List.mem_cons_self ..
theorem Box.two_mem (B : Box) (e : Ed) : (B.two e).1 ∈ B.faces ∧ (B.two e).2 ∈ B.faces := by
  unfold Box.two twoCells
  cases e <;> exact ⟨B.cellOf_mem _ _, B.cellOf_mem _ _⟩

/-- some sides of a box, and the others: what joins corners, and what joins cells across -/
theorem Box.duality (B : Box) (p : Ed → Bool) :
    rank ((B.sides.filter p).map ends) + B.w * B.t = (B.sides.filter p).length + rank (((B.sides.filter fun e => !p e).reverse).map B.two) := by
  have hperm : ((B.sides.filter fun e => !p e) ++ B.sides.filter p).Perm B.sides := by
    refine (List.perm_append_comm).trans ?_
    exact List.filter_append_perm p B.sides
  have hn : ((B.sides.filter fun e => !p e) ++ B.sides.filter p).Nodup := hperm.nodup_iff.2 B.nodup_sides
  have hmem : ∀ e ∈ (B.sides.filter fun e => !p e) ++ B.sides.filter p, B.In e := fun e he => B.mem_sides.1 (hperm.mem_iff.1 he)
  have hdual := dual_grid (x0 := B.l) (x1 := B.l + B.w) (y0 := B.d) (y1 := B.d + B.t) hn hmem
  have hlen : (B.sides.filter p).length + (B.sides.filter fun e => !p e).length = B.sides.length := by
    have := hperm.length_eq
    rw [List.length_append] at this
    omega
  refine dual_rank hdual (n := (B.w + 1) * (B.t + 1) - 1) (m := B.w * B.t) ?_ ?_ ?_
  · have := rank_lt B.nodup_corners (E := ((B.sides.filter fun e => !p e) ++ B.sides.filter p).map ends) (fun e => by
      have := B.length_corners; rw [e] at this; simp only [List.length_nil] at this
      have h2 : 0 < (B.w + 1) * (B.t + 1) := Nat.mul_pos (Nat.succ_pos _) (Nat.succ_pos _)
      omega) (fun e he => by
      obtain ⟨g, hg, rfl⟩ := List.mem_map.1 he
      exact Box.ends_mem (hmem g hg))
    rw [B.length_corners] at this
    omega
  · have := rank_lt B.nodup_faces (E := ((B.sides.filter fun e => !p e) ++ B.sides.filter p).reverse.map B.two) (fun e => by cases e) (fun e he => by
      obtain ⟨g, _, rfl⟩ := List.mem_map.1 he
      exact B.two_mem g)
    rw [B.length_faces] at this
    exact Nat.le_of_succ_le_succ this
  · rw [hlen, B.length_sides]
    have e1 : (B.w + 1) * (B.t + 1) = B.w * B.t + B.w + B.t + 1 := by
      rw [Nat.add_mul, Nat.mul_add, Nat.mul_one, Nat.one_mul]; omega
    have e2 : B.w * (B.t + 1) + (B.w + 1) * B.t = B.w * B.t + B.w * B.t + B.w + B.t := by
      rw [Nat.add_mul, Nat.mul_add, Nat.mul_one, Nat.one_mul]; omega
    rw [e1, e2]
    omega
end
/-! ### Euler2 -/
section
/-- a cell of X is on one side of it, at least -/
def sideOf (X : List Sp) : Ed → Bool
  | .h x y => decide ((x, y - 1) ∈ X) || decide ((x, y) ∈ X)
  | .v x y => decide ((x - 1, y) ∈ X) || decide ((x, y) ∈ X)
/-- c's corners: v is one of them -/
def IsCorner (c v : Sp) : Prop := (v.1 = c.1 ∨ v.1 = c.1 + 1) ∧ (v.2 = c.2 ∨ v.2 = c.2 + 1)
def cornerOf (X : List Sp) (v : Sp) : Bool := X.any fun c => decide ((v.1 = c.1 ∨ v.1 = c.1 + 1) ∧ (v.2 = c.2 ∨ v.2 = c.2 + 1))
theorem cornerOf_iff {X : List Sp} {v : Sp} : cornerOf X v = true ↔ ∃ c ∈ X, IsCorner c v := by
  unfold cornerOf IsCorner; rw [List.any_eq_true]
  constructor
  · rintro ⟨c, hc, h⟩; exact ⟨c, hc, of_decide_eq_true h⟩
  · rintro ⟨c, hc, h⟩; exact ⟨c, hc, decide_eq_true h⟩
def Near8 (a b : Sp) : Prop := a.1 - b.1 ≤ 1 ∧ b.1 - a.1 ≤ 1 ∧ a.2 - b.2 ≤ 1 ∧ b.2 - a.2 ≤ 1
instance (a b : Sp) : Decidable (Near8 a b) := by unfold Near8; exact inferInstance
/-- neighbours among X, of eight -/
def edges8 (X : List Sp) : List (Sp × Sp) := (prod X X).filter fun e => decide (Near8 e.1 e.2)
theorem mem_edges8 {X : List Sp} {a b : Sp} : (a, b) ∈ edges8 X ↔ a ∈ X ∧ b ∈ X ∧ Near8 a b := by
  unfold edges8
  rw [List.mem_filter, mem_prod, decide_eq_true_eq]
  exact and_assoc

/-- the sides of X -/
def Box.A (B : Box) (X : List Sp) : List Ed := B.sides.filter (sideOf X)
def Box.C (B : Box) (X : List Sp) : List (Option Sp × Option Sp) := ((B.sides.filter fun e => !sideOf X e).reverse).map B.two

variable {B : Box} {X : List Sp}
theorem Box.mem_A {e : Ed} : e ∈ B.A X ↔ B.In e ∧ sideOf X e = true := by unfold Box.A; rw [List.mem_filter, B.mem_sides]

theorem side_ends {e : Ed} (h : sideOf X e = true) : ∃ c ∈ X, IsCorner c (ends e).1 ∧ IsCorner c (ends e).2 := by
  cases e with
  | h x y =>
    unfold sideOf at h
    simp only [Bool.or_eq_true, decide_eq_true_eq] at h
    rcases h with h | h
    · refine ⟨_, h, ?_, ?_⟩
      · show (x = x ∨ x = x + 1) ∧ (y = y - 1 ∨ y = y - 1 + 1); omega
      · show (x + 1 = x ∨ x + 1 = x + 1) ∧ (y = y - 1 ∨ y = y - 1 + 1); omega
    · refine ⟨_, h, ?_, ?_⟩
      · show (x = x ∨ x = x + 1) ∧ (y = y ∨ y = y + 1); omega
      · show (x + 1 = x ∨ x + 1 = x + 1) ∧ (y = y ∨ y = y + 1); omega
  | v x y =>
    unfold sideOf at h
    simp only [Bool.or_eq_true, decide_eq_true_eq] at h
    rcases h with h | h
    · refine ⟨_, h, ?_, ?_⟩
      · show (x = x - 1 ∨ x = x - 1 + 1) ∧ (y = y ∨ y = y + 1); omega
      · show (x = x - 1 ∨ x = x - 1 + 1) ∧ (y + 1 = y ∨ y + 1 = y + 1); omega
    · refine ⟨_, h, ?_, ?_⟩
      · show (x = x ∨ x = x + 1) ∧ (y = y ∨ y = y + 1); omega
      · show (x = x ∨ x = x + 1) ∧ (y + 1 = y ∨ y + 1 = y + 1); omega

theorem conn_side {e : Ed} (h : e ∈ B.A X) : Conn ((B.A X).map ends) (ends e).1 (ends e).2 := Conn.edge (List.mem_map.2 ⟨e, h, rfl⟩)

/-- a cell's corners are joined by its sides -/
theorem corner_conn (hX : ∀ c ∈ X, c ∈ B.cells) {c v : Sp} (hc : c ∈ X) (hv : IsCorner c v) : Conn ((B.A X).map ends) c v := by
  obtain ⟨x, y⟩ := c
  obtain ⟨a, b⟩ := v
  have hb := B.mem_cells.1 (hX _ hc)
  simp only at hb
  have s1 : Ed.h x y ∈ B.A X := Box.mem_A.2 ⟨by unfold Box.In InG; omega, by unfold sideOf; simp [hc]⟩
  have s2 : Ed.v x y ∈ B.A X := Box.mem_A.2 ⟨by unfold Box.In InG; omega, by unfold sideOf; simp [hc]⟩
  have s3 : Ed.v (x + 1) y ∈ B.A X := Box.mem_A.2 ⟨by unfold Box.In InG; omega, by show (decide ((x + 1 - 1, y) ∈ X) || decide ((x + 1, y) ∈ X)) = true; rw [Int.add_sub_cancel]; simp [hc]⟩
  have t1 : Conn ((B.A X).map ends) (x, y) (x + 1, y) := conn_side s1
  have t2 : Conn ((B.A X).map ends) (x, y) (x, y + 1) := conn_side s2
  have t3 : Conn ((B.A X).map ends) (x + 1, y) (x + 1, y + 1) := conn_side s3
  unfold IsCorner at hv
  simp only at hv
  obtain ⟨h1 | h1, h2 | h2⟩ := hv
  · rw [h1, h2]; exact .refl
  · rw [h1, h2]; exact t2
  · rw [h1, h2]; exact t1
  · rw [h1, h2]; exact t1.trans t3

/-- neighbours have a corner in common -/
theorem near_common {a b : Sp} (h : Near8 a b) : ∃ v, IsCorner a v ∧ IsCorner b v := by
  unfold Near8 at h
  refine ⟨(max a.1 b.1, max a.2 b.2), ?_, ?_⟩ <;> unfold IsCorner <;> simp only [] <;> omega
theorem common_near {a b v : Sp} (h : IsCorner a v) (k : IsCorner b v) : Near8 a b := by
  unfold IsCorner at *; unfold Near8; omega

theorem conn8_corners (hX : ∀ c ∈ X, c ∈ B.cells) {a b : Sp} (h : Conn (edges8 X) a b) : Conn ((B.A X).map ends) a b := by
  induction h with
  | refl => exact .refl
  | @step b c _ e ih =>
    have he : b ∈ X ∧ c ∈ X ∧ Near8 b c := by
      rcases e with e | e
      · exact mem_edges8.1 e
      · obtain ⟨h1, h2, h3⟩ := mem_edges8.1 e
        exact ⟨h2, h1, by unfold Near8 at *; omega⟩
    obtain ⟨v, h1, h2⟩ := near_common he.2.2
    exact (ih.trans (corner_conn hX he.1 h1)).trans (corner_conn hX he.2.1 h2).symm

theorem corners_conn8 {c z : Sp} (hc : c ∈ X) (h : Conn ((B.A X).map ends) c z) : ∀ e ∈ X, IsCorner e z → Conn (edges8 X) c e := by
  induction h with
  | refl =>
    intro e he hz
    have : IsCorner c c := by unfold IsCorner; omega
    exact Conn.edge (mem_edges8.2 ⟨hc, he, common_near this hz⟩)
  | @step b z _ k ih =>
    obtain ⟨f, hf, h1, h2⟩ : ∃ f ∈ X, IsCorner f b ∧ IsCorner f z := by
      rcases k with k | k
      · obtain ⟨g, hg, he⟩ := List.mem_map.1 k
        obtain ⟨f, hf, h1, h2⟩ := side_ends (Box.mem_A.1 hg).2
        rw [he] at h1 h2
        exact ⟨f, hf, h1, h2⟩
      · obtain ⟨g, hg, he⟩ := List.mem_map.1 k
        obtain ⟨f, hf, h1, h2⟩ := side_ends (Box.mem_A.1 hg).2
        rw [he] at h1 h2
        exact ⟨f, hf, h2, h1⟩
    intro e he hz
    exact (ih f hf h1).trans (Conn.edge (mem_edges8.2 ⟨hf, he, common_near h2 hz⟩))

theorem conn_corners_or {a b : Sp} (h : Conn ((B.A X).map ends) a b) : a = b ∨ (cornerOf X a = true ∧ cornerOf X b = true) := by
  induction h with
  | refl => exact .inl rfl
  | @step b c _ k ih =>
    have hbc : cornerOf X b = true ∧ cornerOf X c = true := by
      rcases k with k | k
      · obtain ⟨g, hg, he⟩ := List.mem_map.1 k
        obtain ⟨f, hf, h1, h2⟩ := side_ends (Box.mem_A.1 hg).2
        rw [he] at h1 h2
        exact ⟨cornerOf_iff.2 ⟨f, hf, h1⟩, cornerOf_iff.2 ⟨f, hf, h2⟩⟩
      · obtain ⟨g, hg, he⟩ := List.mem_map.1 k
        obtain ⟨f, hf, h1, h2⟩ := side_ends (Box.mem_A.1 hg).2
        rw [he] at h1 h2
        exact ⟨cornerOf_iff.2 ⟨f, hf, h2⟩, cornerOf_iff.2 ⟨f, hf, h1⟩⟩
    rcases ih with rfl | ih
    · exact .inr hbc
    · exact .inr ⟨ih.1, hbc.2⟩

/-- the corners of X are counted by its pieces -/
theorem corners_count (hX : ∀ c ∈ X, c ∈ B.cells) {R : List Sp} (hR : Reps X (edges8 X) R) : R.length + rank ((B.A X).map ends) = (B.corners.filter (cornerOf X)).length := by
  have self : ∀ c ∈ X, cornerOf X c = true := fun c hc => cornerOf_iff.2 ⟨c, hc, by unfold IsCorner; omega⟩
  have hreps : Reps B.corners ((B.A X).map ends) (R ++ B.corners.filter fun v => !cornerOf X v) := by
    refine ⟨List.nodup_append.2 ⟨hR.nodup, B.nodup_corners.sublist List.filter_sublist, fun r hr s hs e => ?_⟩, fun r hr => ?_, fun v hv => ?_, fun r hr s hs k => ?_⟩
    · have h1 := self r (hR.sub r hr)
      have h2 := (List.mem_filter.1 hs).2
      rw [← e, h1] at h2
      cases h2
    · rcases List.mem_append.1 hr with hr | hr
      · have := B.mem_cells.1 (hX r (hR.sub r hr))
        exact B.mem_corners.2 (by omega)
      · exact (List.mem_filter.1 hr).1
    · cases hcv : cornerOf X v with
      | false => exact ⟨v, List.mem_append_right _ (List.mem_filter.2 ⟨hv, by rw [hcv]; rfl⟩), .refl⟩
      | true =>
        obtain ⟨c, hc, h1⟩ := cornerOf_iff.1 hcv
        obtain ⟨r, hr, k⟩ := hR.all c hc
        exact ⟨r, List.mem_append_left _ hr, (corner_conn hX hc h1).symm.trans (conn8_corners hX k)⟩
    · rcases conn_corners_or k with e | ⟨h1, h2⟩
      · exact e
      · have in1 : ∀ t, t ∈ R ++ (B.corners.filter fun v => !cornerOf X v) → cornerOf X t = true → t ∈ R := fun t ht hc => by
          rcases List.mem_append.1 ht with ht | ht
          · exact ht
          · have := (List.mem_filter.1 ht).2
            rw [hc] at this; cases this
        have hr' := in1 r hr h1
        have hs' := in1 s hs h2
        exact hR.one r hr' s hs' (corners_conn8 (hR.sub r hr') k s (hR.sub s hs') (by unfold IsCorner; omega))
  have h := hreps.count B.nodup_corners fun e he => by
    obtain ⟨g, hg, rfl⟩ := List.mem_map.1 he
    exact Box.ends_mem (Box.mem_A.1 hg).1
  have hp := (List.filter_append_perm (cornerOf X) B.corners).length_eq
  rw [List.length_append] at h hp
  omega

/-- the outside, and the cells that are none of X -/
def Box.rest (B : Box) (X : List Sp) : List (Option Sp) := none :: (B.cells.filter fun c => !decide (c ∈ X)).map some
theorem cellOf_some {B : Box} {x y : Int} {c : Sp} (h : cellOf B.l (B.l + B.w) B.d (B.d + B.t) x y = some c) : c = (x, y) := by
  unfold cellOf at h; split at h
  · injection h with h; exact h.symm
  · cases h
theorem C_apart {e : Ed} (h : sideOf X e = false) {c : Sp} (hc : c ∈ X) : (B.two e).1 ≠ some c ∧ (B.two e).2 ≠ some c := by
  cases e with
  | h x y =>
    unfold sideOf at h
    simp only [Bool.or_eq_false_iff, decide_eq_false_iff_not] at h
    unfold Box.two twoCells
    exact ⟨fun k => h.1 (by rw [← cellOf_some k]; exact hc), fun k => h.2 (by rw [← cellOf_some k]; exact hc)⟩
  | v x y =>
    unfold sideOf at h
    simp only [Bool.or_eq_false_iff, decide_eq_false_iff_not] at h
    unfold Box.two twoCells
    exact ⟨fun k => h.1 (by rw [← cellOf_some k]; exact hc), fun k => h.2 (by rw [← cellOf_some k]; exact hc)⟩
theorem mem_C {p : Option Sp × Option Sp} (h : p ∈ B.C X) : ∃ e, B.In e ∧ sideOf X e = false ∧ B.two e = p := by
  unfold Box.C at h
  obtain ⟨e, he, rfl⟩ := List.mem_map.1 h
  rw [List.mem_reverse, List.mem_filter, B.mem_sides] at he
  exact ⟨e, he.1, by simpa using he.2, rfl⟩
theorem conn_C_or {a b : Option Sp} (h : Conn (B.C X) a b) : a = b ∨ ((∀ c ∈ X, a ≠ some c) ∧ ∀ c ∈ X, b ≠ some c) := by
  induction h with
  | refl => exact .inl rfl
  | @step b c _ k ih =>
    have hbc : (∀ f ∈ X, b ≠ some f) ∧ ∀ f ∈ X, c ≠ some f := by
      rcases k with k | k
      · obtain ⟨e, _, h1, h2⟩ := mem_C k
        refine ⟨fun f hf => ?_, fun f hf => ?_⟩
        · have := (C_apart (B := B) h1 hf).1; rw [h2] at this; exact this
        · have := (C_apart (B := B) h1 hf).2; rw [h2] at this; exact this
      · obtain ⟨e, _, h1, h2⟩ := mem_C k
        refine ⟨fun f hf => ?_, fun f hf => ?_⟩
        · have := (C_apart (B := B) h1 hf).2; rw [h2] at this; exact this
        · have := (C_apart (B := B) h1 hf).1; rw [h2] at this; exact this
    rcases ih with rfl | ih
    · exact .inr hbc
    · exact .inr ⟨ih.1, hbc.2⟩
/-- the cells of X, and what the rest falls into, are counted by the rank across -/
theorem rest_count (hn : X.Nodup) (hX : ∀ c ∈ X, c ∈ B.cells) {R : List (Option Sp)} (hR : Reps (B.rest X) (B.C X) R) : X.length + R.length + rank (B.C X) = B.w * B.t + 1 := by
  have notX : ∀ r ∈ R, ∀ c ∈ X, r ≠ some c := fun r hr c hc e => by
    have := hR.sub r hr
    rw [e] at this
    rcases List.mem_cons.1 this with h | h
    · cases h
    · obtain ⟨f, hf, e2⟩ := List.mem_map.1 h
      injection e2 with e2
      rw [e2] at hf
      have := (List.mem_filter.1 hf).2
      rw [decide_eq_true hc] at this
      cases this
  have hreps : Reps B.faces (B.C X) (X.map some ++ R) := by
    refine ⟨List.nodup_append.2 ⟨nodup_map_inj (fun a b h => Option.some.inj h) hn, hR.nodup, fun r hr s hs e => ?_⟩, fun r hr => ?_, fun v hv => ?_, fun r hr s hs k => ?_⟩
    · obtain ⟨c, hc, rfl⟩ := List.mem_map.1 hr
      exact notX s hs c hc e.symm
    · rcases List.mem_append.1 hr with hr | hr
      · obtain ⟨c, hc, rfl⟩ := List.mem_map.1 hr
        exact List.mem_cons_of_mem _ (List.mem_map.2 ⟨c, hX c hc, rfl⟩)
      · have := hR.sub r hr
        rcases List.mem_cons.1 this with h | h
        · rw [h]; exact List.mem_cons_self ..
        · obtain ⟨f, hf, rfl⟩ := List.mem_map.1 h
          exact List.mem_cons_of_mem _ (List.mem_map.2 ⟨f, (List.mem_filter.1 hf).1, rfl⟩)
    · have hrest : (∃ c ∈ X, v = some c) ∨ v ∈ B.rest X := by
        rcases List.mem_cons.1 hv with h | h
        · rw [h]; exact .inr (List.mem_cons_self ..)
        · obtain ⟨f, hf, rfl⟩ := List.mem_map.1 h
          by_cases hfX : f ∈ X
          · exact .inl ⟨f, hfX, rfl⟩
          · exact .inr (List.mem_cons_of_mem _ (List.mem_map.2 ⟨f, List.mem_filter.2 ⟨hf, by rw [decide_eq_false hfX]; rfl⟩, rfl⟩))
      rcases hrest with ⟨c, hc, rfl⟩ | hv
      · exact ⟨some c, List.mem_append_left _ (List.mem_map.2 ⟨c, hc, rfl⟩), .refl⟩
      · obtain ⟨r, hr, k⟩ := hR.all v hv
        exact ⟨r, List.mem_append_right _ hr, k⟩
    · rcases conn_C_or k with e | ⟨h1, h2⟩
      · exact e
      · have in1 : ∀ t, t ∈ X.map some ++ R → (∀ c ∈ X, t ≠ some c) → t ∈ R := fun t ht hc => by
          rcases List.mem_append.1 ht with ht | ht
          · obtain ⟨c, hcX, e⟩ := List.mem_map.1 ht
            exact absurd e.symm (hc c hcX)
          · exact ht
        exact hR.one r (in1 r hr h1) s (in1 s hs h2) k
  have h := hreps.count B.nodup_faces fun e he => by
    obtain ⟨g, _, _, rfl⟩ := mem_C he
    exact B.two_mem g
  rw [List.length_append, List.length_map, B.length_faces] at h
  omega

/-- corners, cells and what the rest falls into: sides, pieces and one -/
theorem euler (hn : X.Nodup) (hX : ∀ c ∈ X, c ∈ B.cells) {R8 : List Sp} {R4 : List (Option Sp)} (h8 : Reps X (edges8 X) R8) (h4 : Reps (B.rest X) (B.C X) R4) :
    (B.corners.filter (cornerOf X)).length + X.length + R4.length = (B.A X).length + R8.length + 1 := by
  have e1 := corners_count hX h8
  have e2 := rest_count hn hX h4
  have e3 := B.duality (sideOf X)
  have e4 : rank ((B.sides.filter (sideOf X)).map ends) = rank ((B.A X).map ends) := rfl
  have e5 : (B.sides.filter (sideOf X)).length = (B.A X).length := rfl
  have e6 : rank (((B.sides.filter fun e => !sideOf X e).reverse).map B.two) = rank (B.C X) := rfl
  rw [e4, e5, e6] at e3
  omega
end
/-! ### Sides -/
section
def nb4 (c : Sp) : List Sp := [(c.1 - 1, c.2), (c.1 + 1, c.2), (c.1, c.2 - 1), (c.1, c.2 + 1)]
def sides4 (c : Sp) : List Ed := [.v c.1 c.2, .v (c.1 + 1) c.2, .h c.1 c.2, .h c.1 (c.2 + 1)]
def Near4 (a b : Sp) : Prop := (a.1 = b.1 ∧ (a.2 = b.2 + 1 ∨ b.2 = a.2 + 1)) ∨ (a.2 = b.2 ∧ (a.1 = b.1 + 1 ∨ b.1 = a.1 + 1))
instance (a b : Sp) : Decidable (Near4 a b) := by unfold Near4; exact inferInstance
theorem mem_nb4 {c a : Sp} : a ∈ nb4 c ↔ Near4 c a := by
  obtain ⟨x, y⟩ := c
  obtain ⟨u, v⟩ := a
  unfold nb4 Near4
  simp only [List.mem_cons, List.not_mem_nil, or_false, Prod.mk.injEq]
  omega
theorem nodup_nb4 (c : Sp) : (nb4 c).Nodup := by
  unfold nb4
  simp only [List.nodup_cons, List.mem_cons, List.not_mem_nil, or_false, not_or, Prod.mk.injEq, List.nodup_nil, not_false_eq_true, and_true, not_and]
  omega
theorem nodup_sides4 (c : Sp) : (sides4 c).Nodup := by
  unfold sides4
  refine List.nodup_cons.2 ⟨fun h => ?_, List.nodup_cons.2 ⟨fun h => ?_, List.nodup_cons.2 ⟨fun h => ?_, List.nodup_cons.2 ⟨fun h => ?_, List.nodup_nil⟩⟩⟩⟩
  · simp only [List.mem_cons, List.not_mem_nil, or_false, Ed.v.injEq, reduceCtorEq] at h; omega
  · simp only [List.mem_cons, List.not_mem_nil, or_false, reduceCtorEq] at h
  · simp only [List.mem_cons, List.not_mem_nil, or_false, Ed.h.injEq] at h; omega
  · cases h
theorem sideOf_cons (X : List Sp) (c : Sp) (e : Ed) : sideOf (c :: X) e = (sideOf X e || (decide (e ∈ sides4 c) && !sideOf X e)) := by
  obtain ⟨u, w⟩ := c
  have key : sideOf ((u, w) :: X) e = (sideOf X e || decide (e ∈ sides4 (u, w))) := by
    rw [Bool.eq_iff_iff]
    cases e with
    | h x y =>
      unfold sideOf sides4
      simp only [Bool.or_eq_true, decide_eq_true_eq, List.mem_cons, List.not_mem_nil, or_false, Prod.mk.injEq, Ed.h.injEq, reduceCtorEq, false_or]
      constructor
      · rintro ((h | h) | (h | h))
        · exact .inr (.inr (by omega))
        · exact .inl (.inl h)
        · exact .inr (.inl (by omega))
        · exact .inl (.inr h)
      · rintro ((h | h) | (h | h))
        · exact .inl (.inr h)
        · exact .inr (.inr h)
        · exact .inr (.inl (by omega))
        · exact .inl (.inl (by omega))
    | v x y =>
      unfold sideOf sides4
      simp only [Bool.or_eq_true, decide_eq_true_eq, List.mem_cons, List.not_mem_nil, or_false, Prod.mk.injEq, Ed.v.injEq, reduceCtorEq]
      constructor
      · rintro ((h | h) | (h | h))
        · exact .inr (.inr (by omega))
        · exact .inl (.inl h)
        · exact .inr (.inl (by omega))
        · exact .inl (.inr h)
      · rintro ((h | h) | (h | h))
        · exact .inl (.inr h)
        · exact .inr (.inr h)
        · exact .inr (.inl (by omega))
        · exact .inl (.inl (by omega))
  rw [key]
  cases sideOf X e <;> simp

theorem filter_or_length {ε : Type} (l : List ε) (p q : ε → Bool) : (l.filter fun e => p e || (q e && !p e)).length = (l.filter p).length + (l.filter fun e => q e && !p e).length := by
  induction l with
  | nil => rfl
  | cons e l ih =>
    cases hp : p e <;> cases hq : q e <;> simp only [List.filter_cons, hp, hq, Bool.false_or, Bool.true_or, Bool.not_false, Bool.not_true, Bool.and_true, Bool.and_false, if_true, if_false, List.length_cons, Bool.false_eq_true] <;> omega
theorem filter_sub_length {ε : Type} [DecidableEq ε] {l S : List ε} (hl : l.Nodup) (hS : S.Nodup) (hsub : ∀ e ∈ S, e ∈ l) (r : ε → Bool) : (l.filter fun e => decide (e ∈ S) && r e).length = (S.filter r).length := by
  refine length_eq_of_same (hl.sublist List.filter_sublist) (hS.sublist List.filter_sublist) fun x => ?_
  rw [List.mem_filter, List.mem_filter, Bool.and_eq_true, decide_eq_true_eq]
  exact ⟨fun h => h.2, fun h => ⟨hsub x h.1, h⟩⟩

theorem sides4_in {B : Box} {c : Sp} (h : c ∈ B.cells) : ∀ e ∈ sides4 c, e ∈ B.sides := by
  have hb := B.mem_cells.1 h
  intro e he
  rw [B.mem_sides]
  unfold sides4 at he
  unfold Box.In
  simp only [List.mem_cons, List.not_mem_nil, or_false] at he
  rcases he with rfl | rfl | rfl | rfl <;> unfold InG <;> omega
theorem sides4_free {X : List Sp} {c : Sp} (hc : c ∉ X) : ((sides4 c).filter fun e => !sideOf X e).length + ((nb4 c).filter fun a => decide (a ∈ X)).length = 4 := by
  obtain ⟨x, y⟩ := c
  have s1 : sideOf X (.v x y) = decide ((x - 1, y) ∈ X) := by unfold sideOf; simp [hc]
  have s2 : sideOf X (.v (x + 1) y) = decide ((x + 1, y) ∈ X) := by
    show (decide ((x + 1 - 1, y) ∈ X) || decide ((x + 1, y) ∈ X)) = _
    rw [Int.add_sub_cancel]; simp [hc]
  have s3 : sideOf X (.h x y) = decide ((x, y - 1) ∈ X) := by unfold sideOf; simp [hc]
  have s4 : sideOf X (.h x (y + 1)) = decide ((x, y + 1) ∈ X) := by
    show (decide ((x, y + 1 - 1) ∈ X) || decide ((x, y + 1) ∈ X)) = _
    rw [Int.add_sub_cancel]; simp [hc]
  unfold sides4 nb4
  simp only [List.filter_cons, List.filter_nil, s1, s2, s3, s4]
  cases decide ((x - 1, y) ∈ X) <;> cases decide ((x + 1, y) ∈ X) <;> cases decide ((x, y - 1) ∈ X) <;> cases decide ((x, y + 1) ∈ X) <;> rfl

/-- neighbours of four, told both ways -/
def adj (X : List Sp) : Nat := (X.map fun a => (X.filter fun b => decide (Near4 a b)).length).sum
theorem near4_symm {a b : Sp} : Near4 a b ↔ Near4 b a := by unfold Near4; omega
theorem near4_self (a : Sp) : ¬ Near4 a a := by unfold Near4; omega
theorem sum_add (X : List Sp) (f g : Sp → Nat) : (X.map fun a => f a + g a).sum = (X.map f).sum + (X.map g).sum := by
  induction X with
  | nil => rfl
  | cons a X ih => simp only [List.map_cons, List.sum_cons, ih]; omega
theorem sum_ite (X : List Sp) (p : Sp → Bool) : (X.map fun a => if p a then 1 else 0).sum = (X.filter p).length := by
  induction X with
  | nil => rfl
  | cons a X ih =>
    cases h : p a <;> simp only [List.map_cons, List.sum_cons, List.filter_cons, h, ih, if_true, List.length_cons, Bool.false_eq_true, if_false] <;> omega
theorem adj_cons {X : List Sp} (hn : X.Nodup) (c : Sp) : adj (c :: X) = adj X + 2 * ((nb4 c).filter fun a => decide (a ∈ X)).length := by
  have e1 : (X.filter fun b => decide (Near4 c b)).length = ((nb4 c).filter fun a => decide (a ∈ X)).length := by
    refine length_eq_of_same (hn.sublist List.filter_sublist) ((nodup_nb4 c).sublist List.filter_sublist) fun x => ?_
    rw [List.mem_filter, List.mem_filter, decide_eq_true_eq, decide_eq_true_eq, mem_nb4]
    exact And.comm
  have e2 : (X.filter fun b => decide (Near4 b c)).length = ((nb4 c).filter fun a => decide (a ∈ X)).length := by
    rw [← e1]
    congr 1
    exact List.filter_congr fun b _ => by rw [decide_eq_decide]; exact near4_symm
  have e3 : ∀ a, ((c :: X).filter fun b => decide (Near4 a b)).length = (if decide (Near4 a c) = true then 1 else 0) + (X.filter fun b => decide (Near4 a b)).length := fun a => by
    rw [List.filter_cons]
    cases decide (Near4 a c) <;> simp only [if_true, if_false, Bool.false_eq_true, List.length_cons] <;> omega
  unfold adj
  rw [List.map_cons, List.sum_cons, e3 c, decide_eq_false (near4_self c)]
  have e4 : (X.map fun a => ((c :: X).filter fun b => decide (Near4 a b)).length) = X.map fun a => (if decide (Near4 a c) = true then 1 else 0) + (X.filter fun b => decide (Near4 a b)).length := List.map_congr_left fun a _ => e3 a
  rw [e4, sum_add, sum_ite X fun a => decide (Near4 a c), e1, e2]
  simp only [Bool.false_eq_true, if_false]
  omega

/-- four sides for each cell, less those that two cells share -/
theorem sides_count {B : Box} : ∀ {X : List Sp}, X.Nodup → (∀ c ∈ X, c ∈ B.cells) → 2 * (B.A X).length + adj X = 8 * X.length
  | [], _, _ => by
    have : B.A [] = [] := List.filter_eq_nil_iff.2 fun e _ => by cases e <;> simp [sideOf]
    rw [this]; rfl
  | c :: X, hn, hX => by
    obtain ⟨h1, h2⟩ := List.nodup_cons.1 hn
    have ih := sides_count (B := B) h2 fun a ha => hX a (List.mem_cons_of_mem _ ha)
    have e1 : (B.A (c :: X)).length = (B.A X).length + ((sides4 c).filter fun e => !sideOf X e).length := by
      unfold Box.A
      rw [← filter_sub_length B.nodup_sides (nodup_sides4 c) (sides4_in (hX c (List.mem_cons_self ..))), ← filter_or_length]
      congr 1
      exact List.filter_congr fun e _ => sideOf_cons X c e
    have e2 := sides4_free h1
    have e3 := adj_cons h2 c
    rw [e1, e3, List.length_cons]
    omega
end
/-! ### Quads -/
section
/-- the cells around a corner: below on the left, below on the right, above on the left, above on the right -/
def bl (X : List Sp) (v : Sp) : Bool := decide ((v.1 - 1, v.2 - 1) ∈ X)
def br (X : List Sp) (v : Sp) : Bool := decide ((v.1, v.2 - 1) ∈ X)
def tl (X : List Sp) (v : Sp) : Bool := decide ((v.1 - 1, v.2) ∈ X)
def tr (X : List Sp) (v : Sp) : Bool := decide ((v.1, v.2) ∈ X)
def one4 (a b c d : Bool) : Bool := (a && !b && !c && !d) || (!a && b && !c && !d) || (!a && !b && c && !d) || (!a && !b && !c && d)
def three4 (a b c d : Bool) : Bool := (!a && b && c && d) || (a && !b && c && d) || (a && b && !c && d) || (a && b && c && !d)
def cross4 (a b c d : Bool) : Bool := (a && !b && !c && d) || (!a && b && c && !d)
def b2n (b : Bool) : Nat := if b then 1 else 0
theorem quad_point (a b c d : Bool) : 4 * b2n (a || b || c || d) + (b2n a + b2n b + b2n c + b2n d) + b2n (three4 a b c d) + 2 * b2n (cross4 a b c d) = 2 * (b2n (b || d) + b2n (a || c) + b2n (c || d) + b2n (a || b)) + b2n (one4 a b c d) := by
  cases a <;> cases b <;> cases c <;> cases d <;> rfl
theorem cornerOf_quad (X : List Sp) (v : Sp) : cornerOf X v = (bl X v || br X v || tl X v || tr X v) := by
  obtain ⟨x, y⟩ := v
  rw [Bool.eq_iff_iff, cornerOf_iff]
  unfold bl br tl tr IsCorner
  simp only [Bool.or_eq_true, decide_eq_true_eq]
  constructor
  · rintro ⟨⟨u, w⟩, hc, h1 | h1, h2 | h2⟩
    · exact .inr (by rw [h1, h2]; exact hc)
    · exact .inl (.inl (.inr (by rw [show x = u from h1, show y - 1 = w by simp only at h2; omega]; exact hc)))
    · exact .inl (.inr (by rw [show x - 1 = u by simp only at h1; omega, show y = w from h2]; exact hc))
    · exact .inl (.inl (.inl (by rw [show x - 1 = u by simp only at h1; omega, show y - 1 = w by simp only at h2; omega]; exact hc)))
  · rintro (((h | h) | h) | h)
    · exact ⟨_, h, .inr (show x = x - 1 + 1 by omega), .inr (show y = y - 1 + 1 by omega)⟩
    · exact ⟨_, h, .inl rfl, .inr (show y = y - 1 + 1 by omega)⟩
    · exact ⟨_, h, .inr (show x = x - 1 + 1 by omega), .inl rfl⟩
    · exact ⟨_, h, .inl rfl, .inl rfl⟩

theorem sum_b2n (V : List Sp) (p : Sp → Bool) : (V.map fun v => b2n (p v)).sum = (V.filter p).length := sum_ite V p
theorem sum_mul (V : List Sp) (k : Nat) (f : Sp → Nat) : (V.map fun v => k * f v).sum = k * (V.map f).sum := by
  induction V with
  | nil => rfl
  | cons v V ih => simp only [List.map_cons, List.sum_cons, ih, Nat.mul_add]

/-- each cell is around one corner in each of the four ways -/
theorem shift_count {V X : List Sp} (hV : V.Nodup) (hX : X.Nodup) (dx dy : Int) (h : ∀ c ∈ X, (c.1 + dx, c.2 + dy) ∈ V) : (V.filter fun v => decide ((v.1 - dx, v.2 - dy) ∈ X)).length = X.length := by
  have e : (X.map fun c => ((c.1 + dx, c.2 + dy) : Sp)).length = X.length := List.length_map _
  rw [← e]
  refine length_eq_of_same (hV.sublist List.filter_sublist) (nodup_map_inj (fun a b k => ?_) hX) fun v => ?_
  · have k1 := (Prod.mk.inj k).1
    have k2 := (Prod.mk.inj k).2
    exact sp_ext (by omega) (by omega)
  · rw [List.mem_filter, List.mem_map, decide_eq_true_eq]
    constructor
    · rintro ⟨_, hv⟩
      exact ⟨_, hv, by apply sp_ext <;> simp only [] <;> omega⟩
    · rintro ⟨c, hc, rfl⟩
      refine ⟨h c hc, ?_⟩
      have : ((c.1 + dx - dx, c.2 + dy - dy) : Sp) = c := by apply sp_ext <;> simp only [] <;> omega
      rw [this]; exact hc

variable {B : Box} {X : List Sp}
theorem sideOf_in (hX : ∀ c ∈ X, c ∈ B.cells) {e : Ed} (h : sideOf X e = true) : B.In e := by
  unfold Box.In
  cases e with
  | h x y =>
    unfold sideOf at h
    simp only [Bool.or_eq_true, decide_eq_true_eq] at h
    unfold InG
    rcases h with h | h
    · have := B.mem_cells.1 (hX _ h); simp only at this; omega
    · have := B.mem_cells.1 (hX _ h); simp only at this; omega
  | v x y =>
    unfold sideOf at h
    simp only [Bool.or_eq_true, decide_eq_true_eq] at h
    unfold InG
    rcases h with h | h
    · have := B.mem_cells.1 (hX _ h); simp only at this; omega
    · have := B.mem_cells.1 (hX _ h); simp only at this; omega
def isH : Ed → Bool
  | .h _ _ => true
  | .v _ _ => false
theorem side_shift {B : Box} {X : List Sp} (hX : ∀ c ∈ X, c ∈ B.cells) (f : Sp → Ed) (t : Bool) (hf : ∀ a b, f a = f b → a = b) (hh : ∀ a, isH (f a) = t) (hs : ∀ e, B.In e → isH e = t → ∃ v ∈ B.corners, f v = e) : (B.corners.filter fun v => sideOf X (f v)).length = ((B.A X).filter fun e => isH e == t).length := by
  have e : ((B.corners.filter fun v => sideOf X (f v)).map f).length = (B.corners.filter fun v => sideOf X (f v)).length := List.length_map _
  rw [← e]
  refine length_eq_of_same (nodup_map_inj hf (B.nodup_corners.sublist List.filter_sublist)) ((B.nodup_sides.sublist List.filter_sublist).sublist List.filter_sublist) fun x => ?_
  rw [List.mem_map, List.mem_filter, Box.mem_A, beq_iff_eq]
  constructor
  · rintro ⟨v, hv, rfl⟩
    have := (List.mem_filter.1 hv).2
    exact ⟨⟨sideOf_in hX this, this⟩, hh v⟩
  · rintro ⟨⟨h1, h2⟩, h3⟩
    obtain ⟨v, hv, rfl⟩ := hs x h1 h3
    exact ⟨v, List.mem_filter.2 ⟨hv, h2⟩, rfl⟩
theorem filter_two_length {ε : Type} (l : List ε) (p : ε → Bool) : (l.filter fun e => p e == true).length + (l.filter fun e => p e == false).length = l.length := by
  induction l with
  | nil => rfl
  | cons e l ih =>
    cases h : p e with
    | false =>
      rw [List.filter_cons_of_neg (by simp [h]), List.filter_cons_of_pos (by simp [h]), List.length_cons, List.length_cons]
      omega
    | true =>
      rw [List.filter_cons_of_pos (by simp [h]), List.filter_cons_of_neg (by simp [h]), List.length_cons, List.length_cons]
      omega

/-- four corners for one cell: what all corners tell -/
theorem gray (hn : X.Nodup) (hX : ∀ c ∈ X, c ∈ B.cells) :
    4 * (B.corners.filter (cornerOf X)).length + 4 * X.length + (B.corners.filter fun v => three4 (bl X v) (br X v) (tl X v) (tr X v)).length + 2 * (B.corners.filter fun v => cross4 (bl X v) (br X v) (tl X v) (tr X v)).length
      = 4 * (B.A X).length + (B.corners.filter fun v => one4 (bl X v) (br X v) (tl X v) (tr X v)).length := by
  have hcor : ∀ c ∈ X, ∀ dx dy : Int, (dx = 0 ∨ dx = 1) → (dy = 0 ∨ dy = 1) → (c.1 + dx, c.2 + dy) ∈ B.corners := fun c hc dx dy h1 h2 => by
    have := B.mem_cells.1 (hX c hc)
    rw [B.mem_corners]; simp only []; omega
  have c1 : (B.corners.filter (bl X)).length = X.length := shift_count B.nodup_corners hn 1 1 fun c hc => hcor c hc 1 1 (.inr rfl) (.inr rfl)
  have c2 : (B.corners.filter (br X)).length = X.length := by
    rw [← shift_count B.nodup_corners hn 0 1 fun c hc => hcor c hc 0 1 (.inl rfl) (.inr rfl)]
    congr 1
    exact List.filter_congr fun v _ => by unfold br; rw [Int.sub_zero]
  have c3 : (B.corners.filter (tl X)).length = X.length := by
    rw [← shift_count B.nodup_corners hn 1 0 fun c hc => hcor c hc 1 0 (.inr rfl) (.inl rfl)]
    congr 1
    exact List.filter_congr fun v _ => by unfold tl; rw [Int.sub_zero]
  have c4 : (B.corners.filter (tr X)).length = X.length := by
    rw [← shift_count B.nodup_corners hn 0 0 fun c hc => hcor c hc 0 0 (.inl rfl) (.inl rfl)]
    congr 1
    exact List.filter_congr fun v _ => by unfold tr; rw [Int.sub_zero, Int.sub_zero]
  have s1 : (B.corners.filter fun v => br X v || tr X v).length = ((B.A X).filter fun e => isH e == true).length := by
    refine (side_shift hX (fun v => Ed.h v.1 v.2) true (fun a b k => by injection k with k1 k2; exact sp_ext k1 k2) (fun _ => rfl) fun e h1 h2 => ?_)
    cases e with
    | h x y => exact ⟨(x, y), (Box.ends_mem h1).1, rfl⟩
    | v x y => cases h2
  have s2 : (B.corners.filter fun v => bl X v || tl X v).length = ((B.A X).filter fun e => isH e == true).length := by
    refine (side_shift hX (fun v => Ed.h (v.1 - 1) v.2) true (fun a b k => by injection k with k1 k2; exact sp_ext (by omega) k2) (fun _ => rfl) fun e h1 h2 => ?_)
    cases e with
    | h x y => exact ⟨(x + 1, y), (Box.ends_mem h1).2, by simp only [Int.add_sub_cancel]⟩
    | v x y => cases h2
  have s3 : (B.corners.filter fun v => tl X v || tr X v).length = ((B.A X).filter fun e => isH e == false).length := by
    refine (side_shift hX (fun v => Ed.v v.1 v.2) false (fun a b k => by injection k with k1 k2; exact sp_ext k1 k2) (fun _ => rfl) fun e h1 h2 => ?_)
    cases e with
    | v x y => exact ⟨(x, y), (Box.ends_mem h1).1, rfl⟩
    | h x y => cases h2
  have s4 : (B.corners.filter fun v => bl X v || br X v).length = ((B.A X).filter fun e => isH e == false).length := by
    refine (side_shift hX (fun v => Ed.v v.1 (v.2 - 1)) false (fun a b k => by injection k with k1 k2; exact sp_ext k1 (by omega)) (fun _ => rfl) fun e h1 h2 => ?_)
    cases e with
    | v x y => exact ⟨(x, y + 1), (Box.ends_mem h1).2, by simp only [Int.add_sub_cancel]⟩
    | h x y => cases h2
  have s5 := filter_two_length (B.A X) isH
  have c0 : (B.corners.filter (cornerOf X)).length = (B.corners.filter fun v => bl X v || br X v || tl X v || tr X v).length := by
    congr 1
    exact List.filter_congr fun v _ => cornerOf_quad X v
  have key : (B.corners.map fun v => 4 * b2n (bl X v || br X v || tl X v || tr X v) + (b2n (bl X v) + b2n (br X v) + b2n (tl X v) + b2n (tr X v)) + b2n (three4 (bl X v) (br X v) (tl X v) (tr X v)) + 2 * b2n (cross4 (bl X v) (br X v) (tl X v) (tr X v))).sum
      = (B.corners.map fun v => 2 * (b2n (br X v || tr X v) + b2n (bl X v || tl X v) + b2n (tl X v || tr X v) + b2n (bl X v || br X v)) + b2n (one4 (bl X v) (br X v) (tl X v) (tr X v))).sum := by
    congr 1
    exact List.map_congr_left fun v _ => quad_point _ _ _ _
  simp only [sum_add, sum_mul, sum_b2n] at key
  rw [← c0, s1, s2, s3, s4] at key
  have d1 : (B.corners.filter fun v => bl X v).length = X.length := c1
  have d2 : (B.corners.filter fun v => br X v).length = X.length := c2
  have d3 : (B.corners.filter fun v => tl X v).length = X.length := c3
  have d4 : (B.corners.filter fun v => tr X v).length = X.length := c4
  rw [d1, d2, d3, d4] at key
  omega
end
/-! ### Perim -/
section
/-- cells with none on the right; cells with none above -/
def endsX (X : List Sp) : List Sp := X.filter fun a => !decide ((a.1 + 1, a.2) ∈ X)
def endsY (X : List Sp) : List Sp := X.filter fun a => !decide ((a.1, a.2 + 1) ∈ X)
theorem filter_not_length {ε : Type} (l : List ε) (p : ε → Bool) : (l.filter p).length + (l.filter fun e => !p e).length = l.length := by
  induction l with
  | nil => rfl
  | cons e l ih =>
    cases h : p e with
    | false =>
      rw [List.filter_cons_of_neg (by simp [h]), List.filter_cons_of_pos (by simp [h]), List.length_cons, List.length_cons]
      omega
    | true =>
      rw [List.filter_cons_of_pos (by simp [h]), List.filter_cons_of_neg (by simp [h]), List.length_cons, List.length_cons]
      omega
theorem back_count {X : List Sp} (hX : X.Nodup) (dx dy : Int) : (X.filter fun a => decide ((a.1 - dx, a.2 - dy) ∈ X)).length = (X.filter fun a => decide ((a.1 + dx, a.2 + dy) ∈ X)).length := by
  have e : ((X.filter fun a => decide ((a.1 + dx, a.2 + dy) ∈ X)).map fun c => ((c.1 + dx, c.2 + dy) : Sp)).length = (X.filter fun a => decide ((a.1 + dx, a.2 + dy) ∈ X)).length := List.length_map _
  rw [← e]
  refine length_eq_of_same (hX.sublist List.filter_sublist) (nodup_map_inj (fun a b k => ?_) (hX.sublist List.filter_sublist)) fun v => ?_
  · have k1 := (Prod.mk.inj k).1
    have k2 := (Prod.mk.inj k).2
    exact sp_ext (by omega) (by omega)
  · rw [List.mem_filter, List.mem_map, decide_eq_true_eq]
    constructor
    · rintro ⟨hv, h⟩
      refine ⟨_, List.mem_filter.2 ⟨h, ?_⟩, ?_⟩
      · rw [decide_eq_true_eq]
        have : ((v.1 - dx + dx, v.2 - dy + dy) : Sp) = v := by apply sp_ext <;> simp only [] <;> omega
        rw [this]; exact hv
      · apply sp_ext <;> simp only [] <;> omega
    · rintro ⟨c, hc, rfl⟩
      obtain ⟨h1, h2⟩ := List.mem_filter.1 hc
      rw [decide_eq_true_eq] at h2
      have : ((c.1 + dx - dx, c.2 + dy - dy) : Sp) = c := by apply sp_ext <;> simp only [] <;> omega
      rw [this]
      exact ⟨h2, h1⟩
theorem near_length {X : List Sp} (hX : X.Nodup) (a : Sp) : (X.filter fun b => decide (Near4 a b)).length = (if decide ((a.1 - 1, a.2) ∈ X) = true then 1 else 0) + (if decide ((a.1 + 1, a.2) ∈ X) = true then 1 else 0) + (if decide ((a.1, a.2 - 1) ∈ X) = true then 1 else 0) + (if decide ((a.1, a.2 + 1) ∈ X) = true then 1 else 0) := by
  have e1 : (X.filter fun b => decide (Near4 a b)).length = ((nb4 a).filter fun b => decide (b ∈ X)).length := by
    refine length_eq_of_same (hX.sublist List.filter_sublist) ((nodup_nb4 a).sublist List.filter_sublist) fun x => ?_
    rw [List.mem_filter, List.mem_filter, decide_eq_true_eq, decide_eq_true_eq, mem_nb4]
    exact And.comm
  rw [e1]
  unfold nb4
  simp only [List.filter_cons, List.filter_nil]
  cases decide ((a.1 - 1, a.2) ∈ X) <;> cases decide ((a.1 + 1, a.2) ∈ X) <;> cases decide ((a.1, a.2 - 1) ∈ X) <;> cases decide ((a.1, a.2 + 1) ∈ X) <;> rfl
/-- four sides for each cell, less those told both ways: twice the ends of rows and columns -/
theorem border_ends {X : List Sp} (hX : X.Nodup) : adj X + 2 * (endsX X).length + 2 * (endsY X).length = 4 * X.length := by
  have h1 : adj X = (X.filter fun a => decide ((a.1 - 1, a.2) ∈ X)).length + (X.filter fun a => decide ((a.1 + 1, a.2) ∈ X)).length + (X.filter fun a => decide ((a.1, a.2 - 1) ∈ X)).length + (X.filter fun a => decide ((a.1, a.2 + 1) ∈ X)).length := by
    unfold adj
    have e : (X.map fun a => (X.filter fun b => decide (Near4 a b)).length) = X.map fun a => (if decide ((a.1 - 1, a.2) ∈ X) = true then 1 else 0) + (if decide ((a.1 + 1, a.2) ∈ X) = true then 1 else 0) + (if decide ((a.1, a.2 - 1) ∈ X) = true then 1 else 0) + (if decide ((a.1, a.2 + 1) ∈ X) = true then 1 else 0) := List.map_congr_left fun a _ => near_length hX a
    rw [e, sum_add, sum_add, sum_add, sum_ite X fun a => decide ((a.1 - 1, a.2) ∈ X), sum_ite X fun a => decide ((a.1 + 1, a.2) ∈ X), sum_ite X fun a => decide ((a.1, a.2 - 1) ∈ X), sum_ite X fun a => decide ((a.1, a.2 + 1) ∈ X)]
  have h2 : (X.filter fun a => decide ((a.1 - 1, a.2) ∈ X)).length = (X.filter fun a => decide ((a.1 + 1, a.2) ∈ X)).length := by
    have := back_count hX 1 0
    simpa only [Int.sub_zero, Int.add_zero] using this
  have h3 : (X.filter fun a => decide ((a.1, a.2 - 1) ∈ X)).length = (X.filter fun a => decide ((a.1, a.2 + 1) ∈ X)).length := by
    have := back_count hX 0 1
    simpa only [Int.sub_zero, Int.add_zero] using this
  have h4 := filter_not_length X fun a => decide ((a.1 + 1, a.2) ∈ X)
  have h5 := filter_not_length X fun a => decide ((a.1, a.2 + 1) ∈ X)
  unfold endsX endsY
  omega

theorem nodup_sub_length {ε : Type} [DecidableEq ε] {a b : List ε} (ha : a.Nodup) (h : ∀ x ∈ a, x ∈ b) : a.length ≤ b.length := by
  induction a generalizing b with
  | nil => exact Nat.zero_le _
  | cons x a ih =>
    obtain ⟨h1, h2⟩ := List.nodup_cons.1 ha
    have hx := h x (List.mem_cons_self ..)
    have := ih (b := b.erase x) h2 fun y hy => (List.mem_erase_of_ne (fun e => h1 (by rw [← e]; exact hy))).2 (h y (List.mem_cons_of_mem _ hy))
    have hl := List.length_erase_of_mem hx
    have : 0 < b.length := List.length_pos_of_mem hx
    rw [List.length_cons]
    omega
/-- a row's last cell -/
theorem last_in_row {X : List Sp} : ∀ (n : Nat) (a : Sp), a ∈ X → (∀ c ∈ X, c.2 = a.2 → c.1 ≤ a.1 + n) → ∃ e ∈ endsX X, e.2 = a.2
  | 0, a, ha, h => ⟨a, List.mem_filter.2 ⟨ha, by
      have : (a.1 + 1, a.2) ∉ X := fun k => by have := h _ k rfl; simp only at this; omega
      simpa using this⟩, rfl⟩
  | n + 1, a, ha, h => by
    by_cases k : (a.1 + 1, a.2) ∈ X
    · obtain ⟨e, he, e2⟩ := last_in_row n (a.1 + 1, a.2) k fun c hc hc2 => by have := h c hc hc2; simp only; omega
      exact ⟨e, he, e2⟩
    · exact ⟨a, List.mem_filter.2 ⟨ha, by simpa using k⟩, rfl⟩
theorem last_in_column {X : List Sp} : ∀ (n : Nat) (a : Sp), a ∈ X → (∀ c ∈ X, c.1 = a.1 → c.2 ≤ a.2 + n) → ∃ e ∈ endsY X, e.1 = a.1
  | 0, a, ha, h => ⟨a, List.mem_filter.2 ⟨ha, by
      have : (a.1, a.2 + 1) ∉ X := fun k => by have := h _ k rfl; simp only at this; omega
      simpa using this⟩, rfl⟩
  | n + 1, a, ha, h => by
    by_cases k : (a.1, a.2 + 1) ∈ X
    · obtain ⟨e, he, e2⟩ := last_in_column n (a.1, a.2 + 1) k fun c hc hc2 => by have := h c hc hc2; simp only; omega
      exact ⟨e, he, e2⟩
    · exact ⟨a, List.mem_filter.2 ⟨ha, by simpa using k⟩, rfl⟩

/-- filled rows, filled columns -/
def RowsFull (X : List Sp) : Prop := ∀ a ∈ X, ∀ b ∈ X, a.2 = b.2 → ∀ x, a.1 ≤ x → x ≤ b.1 → (x, a.2) ∈ X
def ColumnsFull (X : List Sp) : Prop := ∀ a ∈ X, ∀ b ∈ X, a.1 = b.1 → ∀ y, a.2 ≤ y → y ≤ b.2 → (a.1, y) ∈ X
theorem endsX_inj {X : List Sp} (h : RowsFull X) {a b : Sp} (ha : a ∈ endsX X) (hb : b ∈ endsX X) (e : a.2 = b.2) : a = b := by
  obtain ⟨a1, a2⟩ := List.mem_filter.1 ha
  obtain ⟨b1, b2⟩ := List.mem_filter.1 hb
  have a3 : (a.1 + 1, a.2) ∉ X := by simpa using a2
  have b3 : (b.1 + 1, b.2) ∉ X := by simpa using b2
  rcases Int.lt_trichotomy a.1 b.1 with k | k | k
  · exact absurd (h a a1 b b1 e (a.1 + 1) (by omega) (by omega)) a3
  · exact sp_ext k e
  · exact absurd (h b b1 a a1 e.symm (b.1 + 1) (by omega) (by omega)) b3
theorem endsY_inj {X : List Sp} (h : ColumnsFull X) {a b : Sp} (ha : a ∈ endsY X) (hb : b ∈ endsY X) (e : a.1 = b.1) : a = b := by
  obtain ⟨a1, a2⟩ := List.mem_filter.1 ha
  obtain ⟨b1, b2⟩ := List.mem_filter.1 hb
  have a3 : (a.1, a.2 + 1) ∉ X := by simpa using a2
  have b3 : (b.1, b.2 + 1) ∉ X := by simpa using b2
  rcases Int.lt_trichotomy a.2 b.2 with k | k | k
  · exact absurd (h a a1 b b1 e (a.2 + 1) (by omega) (by omega)) a3
  · exact sp_ext e k
  · exact absurd (h b b1 a a1 e.symm (b.2 + 1) (by omega) (by omega)) b3
theorem nodup_map_on {α β : Type} {f : α → β} {l : List α} (hn : l.Nodup) (hf : ∀ a ∈ l, ∀ b ∈ l, f a = f b → a = b) : (l.map f).Nodup := by
  induction l with
  | nil => exact List.Pairwise.nil
  | cons a l ih =>
    obtain ⟨h1, h2⟩ := List.nodup_cons.1 hn
    rw [List.map_cons]
    refine List.nodup_cons.2 ⟨fun h => ?_, ih h2 fun x hx y hy => hf x (List.mem_cons_of_mem _ hx) y (List.mem_cons_of_mem _ hy)⟩
    obtain ⟨b, hb, e⟩ := List.mem_map.1 h
    have := hf b (List.mem_cons_of_mem _ hb) a (List.mem_cons_self ..) e
    rw [this] at hb
    exact h1 hb

/-- a filled set has no longer border than one that meets the same rows and columns -/
theorem border_filled {X S : List Sp} (hX : X.Nodup) (hS : S.Nodup) (hr : RowsFull S) (hc : ColumnsFull S)
    (h1 : ∀ s ∈ S, ∃ a ∈ X, a.2 = s.2) (h2 : ∀ s ∈ S, ∃ a ∈ X, a.1 = s.1) {m : Nat} (hm : ∀ a ∈ X, ∀ c ∈ X, c.1 ≤ a.1 + m ∧ c.2 ≤ a.2 + m) :
    4 * S.length + adj X ≤ 4 * X.length + adj S := by
  have e1 := border_ends hX
  have e2 := border_ends hS
  have k1 : (endsX S).length ≤ (endsX X).length := by
    have n1 := nodup_map_on (f := Prod.snd) (hS.sublist List.filter_sublist) fun a ha b hb e => endsX_inj hr ha hb e
    have := nodup_sub_length (b := (endsX X).map Prod.snd) n1 fun y hy => by
      obtain ⟨s, hs, rfl⟩ := List.mem_map.1 hy
      obtain ⟨a, ha, e⟩ := h1 s (List.mem_filter.1 hs).1
      obtain ⟨c, hc1, hc2⟩ := last_in_row m a ha fun c hcX _ => (hm a ha c hcX).1
      exact List.mem_map.2 ⟨c, hc1, hc2.trans e⟩
    rw [List.length_map, List.length_map] at this
    exact this
  have k2 : (endsY S).length ≤ (endsY X).length := by
    have n1 := nodup_map_on (f := Prod.fst) (hS.sublist List.filter_sublist) fun a ha b hb e => endsY_inj hc ha hb e
    have := nodup_sub_length (b := (endsY X).map Prod.fst) n1 fun y hy => by
      obtain ⟨s, hs, rfl⟩ := List.mem_map.1 hy
      obtain ⟨a, ha, e⟩ := h2 s (List.mem_filter.1 hs).1
      obtain ⟨c, hc1, hc2⟩ := last_in_column m a ha fun c hcX _ => (hm a ha c hcX).2
      exact List.mem_map.2 ⟨c, hc1, hc2.trans e⟩
    rw [List.length_map, List.length_map] at this
    exact this
  omega

/-- neighbours among X, of four -/
def edges4 (X : List Sp) : List (Sp × Sp) := (prod X X).filter fun e => decide (Near4 e.1 e.2)
theorem mem_edges4 {X : List Sp} {a b : Sp} : (a, b) ∈ edges4 X ↔ a ∈ X ∧ b ∈ X ∧ Near4 a b := by
  unfold edges4
  rw [List.mem_filter, mem_prod, decide_eq_true_eq]
  exact and_assoc
/-- one piece meets each row and each column between -/
theorem rows_between {X : List Sp} {a b : Sp} (ha : a ∈ X) (h : Conn (edges4 X) a b) : b ∈ X ∧ (∀ y, (a.2 ≤ y ∧ y ≤ b.2) ∨ (b.2 ≤ y ∧ y ≤ a.2) → ∃ c ∈ X, c.2 = y) ∧ ∀ x, (a.1 ≤ x ∧ x ≤ b.1) ∨ (b.1 ≤ x ∧ x ≤ a.1) → ∃ c ∈ X, c.1 = x := by
  induction h with
  | refl => exact ⟨ha, fun y hy => ⟨a, ha, by omega⟩, fun x hx => ⟨a, ha, by omega⟩⟩
  | @step b c _ e ih =>
    obtain ⟨_, h1, h2⟩ := ih
    have he : b ∈ X ∧ c ∈ X ∧ Near4 b c := by
      rcases e with e | e
      · exact mem_edges4.1 e
      · obtain ⟨h1, h2, h3⟩ := mem_edges4.1 e
        exact ⟨h2, h1, near4_symm.1 h3⟩
    have hn := he.2.2
    unfold Near4 at hn
    refine ⟨he.2.1, fun y hy => ?_, fun x hx => ?_⟩
    · by_cases k : y = c.2
      · exact ⟨c, he.2.1, k.symm⟩
      · exact h1 y (by omega)
    · by_cases k : x = c.1
      · exact ⟨c, he.2.1, k.symm⟩
      · exact h2 x (by omega)
end
end Go.Proofs.Ytbbeinhjkfjipaa.Graph
namespace Go.Proofs.Ytbbeinhjkfjipaa
/-! ### Cells -/
section
open Graph

/-! ### pieces of eight neighbours -/
theorem reach_conn8 {p : List Sp} {a b : Sp} (h : Reach true p a b) : Conn (edges8 p) a b :=
  h.ind (M := fun b => Conn (edges8 p) a b) (fun _ => .refl) fun b c k ih hc hn => ih.step (.inl (mem_edges8.2 ⟨k.right, hc, by
    have := (near8_iff.1 hn).2
    unfold Near8; omega⟩))
theorem conn_reach8 {p : List Sp} {a b : Sp} (ha : a ∈ p) (h : Conn (edges8 p) a b) : Reach true p a b := by
  induction h with
  | refl => exact .refl ha
  | @step b c _ e ih =>
    have k : c ∈ p ∧ Near8 b c := by
      rcases e with e | e
      · obtain ⟨_, h2, h3⟩ := mem_edges8.1 e; exact ⟨h2, h3⟩
      · obtain ⟨h2, _, h3⟩ := mem_edges8.1 e; exact ⟨h2, by unfold Near8 at *; omega⟩
    by_cases hbc : b = c
    · rw [← hbc]; exact ih
    · refine ih.step k.1 (near8_iff.2 ⟨hbc, ?_⟩)
      have := k.2
      unfold Near8 at this; omega
theorem reps8 {p : List Sp} (hs : Sorted p) : Reps p (edges8 p) (firsts true p) :=
  ⟨nodup_sorted (sorted_firsts hs), fun _ hr => (mem_firsts.1 hr).1, fun v hv => by
    obtain ⟨f, hf, k⟩ := firsts_all (e := true) hs hv
    exact ⟨f, hf, (reach_conn8 k).symm⟩, fun r hr s hs' k => firsts_one hr hs' (conn_reach8 (mem_firsts.1 hr).1 k)⟩

/-! ### what the rest falls into -/
def boxB (p : List Sp) : Box := ⟨(boxL p).1.1, (boxL p).1.2, span (boxL p).1.1 (boxL p).2.1, span (boxL p).1.2 (boxL p).2.2⟩
/-- the box, as it is met below -/
structure Boxed (p : List Sp) : Prop where
  wide : (boxB p).l + (boxB p).w = (boxL p).2.1 + 1
  tall : (boxB p).d + (boxB p).t = (boxL p).2.2 + 1
  all : ∀ a ∈ p, (boxL p).1.1 ≤ a.1 ∧ a.1 ≤ (boxL p).2.1 ∧ (boxL p).1.2 ≤ a.2 ∧ a.2 ≤ (boxL p).2.2
theorem boxed {p : List Sp} (h0 : p ≠ []) : Boxed p := by
  have b := isBox_boxL h0
  obtain ⟨a, ha⟩ := List.exists_mem_of_ne_nil _ h0
  have k := b.all a ha
  refine ⟨?_, ?_, fun a ha => ?_⟩
  · show (boxL p).1.1 + (span (boxL p).1.1 (boxL p).2.1 : Int) = _
    unfold span; omega
  · show (boxL p).1.2 + (span (boxL p).1.2 (boxL p).2.2 : Int) = _
    unfold span; omega
  · have := b.all a ha
    omega
theorem mem_boxB {p : List Sp} (h0 : p ≠ []) {c : Sp} : c ∈ (boxB p).cells ↔ (boxL p).1.1 ≤ c.1 ∧ c.1 ≤ (boxL p).2.1 ∧ (boxL p).1.2 ≤ c.2 ∧ c.2 ≤ (boxL p).2.2 := by
  have b := boxed h0
  have h1 := b.wide
  have h2 := b.tall
  rw [Box.mem_cells]
  show (boxL p).1.1 ≤ c.1 ∧ _ ∧ (boxL p).1.2 ≤ c.2 ∧ _ ↔ _
  omega
theorem in_boxB {p : List Sp} (h0 : p ≠ []) : ∀ c ∈ p, c ∈ (boxB p).cells := fun c hc => (mem_boxB h0).2 ((boxed h0).all c hc)
theorem mem_rest' {p : List Sp} (h0 : p ≠ []) {c : Sp} : c ∈ restL p ↔ c ∈ (boxB p).cells ∧ ¬ c ∈ p := by
  rw [mem_restL h0, mem_boxB h0]
theorem cellOf_in {B : Box} {x y : Int} (h : (x, y) ∈ B.cells) : cellOf B.l (B.l + B.w) B.d (B.d + B.t) x y = some (x, y) := by
  unfold cellOf
  rw [if_pos (Box.mem_cells.1 h)]
theorem cellOf_out {B : Box} {x y : Int} (h : ¬ (x, y) ∈ B.cells) : cellOf B.l (B.l + B.w) B.d (B.d + B.t) x y = none := by
  unfold cellOf
  rw [if_neg fun k => h (Box.mem_cells.2 k)]
theorem mem_C_of {B : Box} {X : List Sp} {e : Ed} (h : B.In e) (k : sideOf X e = false) : B.two e ∈ B.C X :=
  List.mem_map.2 ⟨e, List.mem_reverse.2 (List.mem_filter.2 ⟨Box.mem_sides.2 h, by rw [k]; rfl⟩), rfl⟩
/-- two cells beside each other, none of the picture -/
theorem conn_up {B : Box} {X : List Sp} {x y : Int} (h1 : ¬ (x, y - 1) ∈ X) (h2 : ¬ (x, y) ∈ X) (hin : B.In (.h x y)) : (cellOf B.l (B.l + B.w) B.d (B.d + B.t) x (y - 1), cellOf B.l (B.l + B.w) B.d (B.d + B.t) x y) ∈ B.C X :=
  mem_C_of (e := .h x y) hin (by show (decide ((x, y - 1) ∈ X) || decide ((x, y) ∈ X)) = false; rw [decide_eq_false h1, decide_eq_false h2]; rfl)
theorem conn_right {B : Box} {X : List Sp} {x y : Int} (h1 : ¬ (x - 1, y) ∈ X) (h2 : ¬ (x, y) ∈ X) (hin : B.In (.v x y)) : (cellOf B.l (B.l + B.w) B.d (B.d + B.t) (x - 1) y, cellOf B.l (B.l + B.w) B.d (B.d + B.t) x y) ∈ B.C X :=
  mem_C_of (e := .v x y) hin (by show (decide ((x - 1, y) ∈ X) || decide ((x, y) ∈ X)) = false; rw [decide_eq_false h1, decide_eq_false h2]; rfl)
theorem beside_conn {B : Box} {X : List Sp} {a b : Sp} (ha : a ∈ B.cells) (hb : b ∈ B.cells) (xa : ¬ a ∈ X) (xb : ¬ b ∈ X) (hn : b ∈ ring4 a) : Conn (B.C X) (some a) (some b) := by
  have ia := Box.mem_cells.1 ha
  have ib := Box.mem_cells.1 hb
  obtain ⟨ax, ay⟩ := a
  obtain ⟨bx, by'⟩ := b
  unfold ring4 at hn
  simp only [List.mem_cons, List.not_mem_nil, or_false, Prod.mk.injEq] at hn
  rcases hn with ⟨h1, h2⟩ | ⟨h1, h2⟩ | ⟨h1, h2⟩ | ⟨h1, h2⟩ <;> rw [h1, h2] at hb xb ib ⊢
  · have := conn_up (B := B) xb xa (by unfold Box.In InG; simp only at ia ib; omega)
    rw [cellOf_in hb, cellOf_in ha] at this
    exact (Conn.edge this).symm
  · have := conn_right (B := B) xb xa (by unfold Box.In InG; simp only at ia ib; omega)
    rw [cellOf_in hb, cellOf_in ha] at this
    exact (Conn.edge this).symm
  · have e : ax + 1 - 1 = ax := by omega
    have := conn_right (B := B) (x := ax + 1) (y := ay) (by rw [e]; exact xa) xb (by unfold Box.In InG; simp only at ia ib; omega)
    rw [e, cellOf_in hb, cellOf_in ha] at this
    exact Conn.edge this
  · have e : ay + 1 - 1 = ay := by omega
    have := conn_up (B := B) (x := ax) (y := ay + 1) (by rw [e]; exact xa) xb (by unfold Box.In InG; simp only at ia ib; omega)
    rw [e, cellOf_in hb, cellOf_in ha] at this
    exact Conn.edge this
theorem reach_conn4 {p : List Sp} (h0 : p ≠ []) {a b : Sp} (h : Reach false (restL p) a b) : Conn ((boxB p).C p) (some a) (some b) :=
  h.ind (M := fun b => Conn ((boxB p).C p) (some a) (some b)) (fun _ => .refl) fun b c k ih hc hn => by
    obtain ⟨b1, b2⟩ := (mem_rest' h0).1 k.right
    obtain ⟨c1, c2⟩ := (mem_rest' h0).1 hc
    exact ih.trans (beside_conn b1 c1 b2 c2 (near4_iff.1 hn))
/-- a cell at the border of the box is joined with the outside -/
theorem border_conn {p : List Sp} (h0 : p ≠ []) {a : Sp} (ha : a ∈ restL p) (h : ¬ ((boxL p).1.1 < a.1 ∧ a.1 < (boxL p).2.1 ∧ (boxL p).1.2 < a.2 ∧ a.2 < (boxL p).2.2)) : Conn ((boxB p).C p) (some a) none := by
  obtain ⟨a1, a2⟩ := (mem_rest' h0).1 ha
  have hb := (mem_boxB h0).1 a1
  have hB := boxed h0
  have w1 := hB.wide
  have w2 := hB.tall
  have out : ∀ c : Sp, ¬ ((boxL p).1.1 ≤ c.1 ∧ c.1 ≤ (boxL p).2.1 ∧ (boxL p).1.2 ≤ c.2 ∧ c.2 ≤ (boxL p).2.2) → ¬ c ∈ (boxB p).cells ∧ ¬ c ∈ p := fun c hc => ⟨fun k => hc ((mem_boxB h0).1 k), fun k => hc (hB.all c k)⟩
  have hi : ∀ e, (boxB p).In e ↔ InG (boxL p).1.1 ((boxL p).2.1 + 1) (boxL p).1.2 ((boxL p).2.2 + 1) e := fun e => by unfold Box.In; rw [w1, w2]; rfl
  obtain ⟨ax, ay⟩ := a
  simp only at h hb
  have hc : ax = (boxL p).1.1 ∨ ax = (boxL p).2.1 ∨ ay = (boxL p).1.2 ∨ ay = (boxL p).2.2 := by omega
  rcases hc with hc | hc | hc | hc
  · obtain ⟨o1, o2⟩ := out (ax - 1, ay) (by simp only []; omega)
    have := conn_right (B := boxB p) o2 a2 ((hi _).2 (by unfold InG; omega))
    rw [cellOf_in a1, cellOf_out o1] at this
    exact (Conn.edge this).symm
  · obtain ⟨o1, o2⟩ := out (ax + 1, ay) (by simp only []; omega)
    have e : ax + 1 - 1 = ax := by omega
    have := conn_right (B := boxB p) (x := ax + 1) (y := ay) (by rw [e]; exact a2) o2 ((hi _).2 (by unfold InG; omega))
    rw [e, cellOf_in a1, cellOf_out o1] at this
    exact Conn.edge this
  · obtain ⟨o1, o2⟩ := out (ax, ay - 1) (by simp only []; omega)
    have := conn_up (B := boxB p) o2 a2 ((hi _).2 (by unfold InG; omega))
    rw [cellOf_in a1, cellOf_out o1] at this
    exact (Conn.edge this).symm
  · obtain ⟨o1, o2⟩ := out (ax, ay + 1) (by simp only []; omega)
    have e : ay + 1 - 1 = ay := by omega
    have := conn_up (B := boxB p) (x := ax) (y := ay + 1) (by rw [e]; exact a2) o2 ((hi _).2 (by unfold InG; omega))
    rw [e, cellOf_in a1, cellOf_out o1] at this
    exact Conn.edge this
/-- one step across a side, from a cell strictly within the box -/
theorem step_inner {p : List Sp} (h0 : p ≠ []) {c : Sp} (hin : (boxL p).1.1 < c.1 ∧ c.1 < (boxL p).2.1 ∧ (boxL p).1.2 < c.2 ∧ c.2 < (boxL p).2.2) {w : Option Sp} (h : (some c, w) ∈ (boxB p).C p ∨ (w, some c) ∈ (boxB p).C p) : ∃ b, w = some b ∧ b ∈ restL p ∧ b ∈ ring4 c := by
  have key : ∀ b : Sp, b ∈ ring4 c → ¬ b ∈ p → b ∈ restL p ∧ b ∈ (boxB p).cells := fun b hb hp => by
    have : b ∈ (boxB p).cells := by
      rw [mem_boxB h0]
      unfold ring4 at hb
      simp only [List.mem_cons, List.not_mem_nil, or_false] at hb
      rcases hb with rfl | rfl | rfl | rfl <;> simp only [] <;> omega
    exact ⟨(mem_rest' h0).2 ⟨this, hp⟩, this⟩
  have fin : ∀ b : Sp, b ∈ ring4 c → ¬ b ∈ p → cellOf (boxB p).l ((boxB p).l + (boxB p).w) (boxB p).d ((boxB p).d + (boxB p).t) b.1 b.2 = w → ∃ b, w = some b ∧ b ∈ restL p ∧ b ∈ ring4 c := fun b hb hp e => by
    obtain ⟨k1, k2⟩ := key b hb hp
    exact ⟨b, by rw [← e]; exact cellOf_in k2, k1, hb⟩
  rcases h with h | h
  · obtain ⟨e, _, h1, h2⟩ := mem_C h
    cases e with
    | h x y =>
      unfold sideOf at h1
      simp only [Bool.or_eq_false_iff, decide_eq_false_iff_not] at h1
      unfold Box.two twoCells at h2
      obtain ⟨e1, e2⟩ := Prod.mk.inj h2
      have := cellOf_some e1
      subst this
      exact fin (x, y) (by unfold ring4; simp) h1.2 e2
    | v x y =>
      unfold sideOf at h1
      simp only [Bool.or_eq_false_iff, decide_eq_false_iff_not] at h1
      unfold Box.two twoCells at h2
      obtain ⟨e1, e2⟩ := Prod.mk.inj h2
      have := cellOf_some e1
      subst this
      exact fin (x, y) (by unfold ring4; simp) h1.2 e2
  · obtain ⟨e, _, h1, h2⟩ := mem_C h
    cases e with
    | h x y =>
      unfold sideOf at h1
      simp only [Bool.or_eq_false_iff, decide_eq_false_iff_not] at h1
      unfold Box.two twoCells at h2
      obtain ⟨e1, e2⟩ := Prod.mk.inj h2
      have := cellOf_some e2
      subst this
      exact fin (x, y - 1) (by unfold ring4; simp) h1.1 e1
    | v x y =>
      unfold sideOf at h1
      simp only [Bool.or_eq_false_iff, decide_eq_false_iff_not] at h1
      unfold Box.two twoCells at h2
      obtain ⟨e1, e2⟩ := Prod.mk.inj h2
      have := cellOf_some e2
      subst this
      exact fin (x - 1, y) (by unfold ring4; simp) h1.1 e1
/-- from a hole one stays in it -/
theorem conn_hole {p : List Sp} (h0 : p ≠ []) {f : Sp} (hf : f ∈ restL p) (hin : innerB (boxL p).1 (boxL p).2 (pieceL false (restL p) f) = true) {v : Option Sp} (h : Conn ((boxB p).C p) (some f) v) : ∃ c, v = some c ∧ Reach false (restL p) f c := by
  rw [innerB_iff] at hin
  induction h with
  | refl => exact ⟨f, rfl, .refl hf⟩
  | @step b c _ e ih =>
    obtain ⟨x, rfl, hx⟩ := ih
    obtain ⟨y, rfl, hy, hn⟩ := step_inner h0 (hin x (mem_pieceL.2 hx)) e
    exact ⟨y, rfl, hx.step hy (near4_iff.2 hn)⟩
open Classical in
noncomputable def innerFirsts (p : List Sp) : List Sp := (firsts false (restL p)).filter fun f => innerB (boxL p).1 (boxL p).2 (pieceL false (restL p) f)
theorem holes_count (p : List Sp) : (holesL p).length = (innerFirsts p).length := by
  unfold holesL piecesL innerFirsts
  rw [List.filter_map, List.length_map]
  rfl
theorem reps4 {p : List Sp} (h0 : p ≠ []) : Reps ((boxB p).rest p) ((boxB p).C p) (none :: (innerFirsts p).map some) := by
  have mem : ∀ r, r ∈ none :: (innerFirsts p).map some → r = none ∨ ∃ f, r = some f ∧ f ∈ firsts false (restL p) ∧ innerB (boxL p).1 (boxL p).2 (pieceL false (restL p) f) = true := fun r hr => by
    rcases List.mem_cons.1 hr with h | h
    · exact .inl h
    · obtain ⟨f, hf, rfl⟩ := List.mem_map.1 h
      obtain ⟨h1, h2⟩ := List.mem_filter.1 hf
      exact .inr ⟨f, rfl, h1, h2⟩
  refine ⟨List.nodup_cons.2 ⟨fun h => ?_, nodup_map_inj (fun a b h => Option.some.inj h) (List.Nodup.sublist List.filter_sublist (nodup_sorted (sorted_firsts (sorted_restL p))))⟩, fun r hr => ?_, fun v hv => ?_, fun r hr s hs k => ?_⟩
  · obtain ⟨f, _, e⟩ := List.mem_map.1 h
    cases e
  · rcases mem r hr with rfl | ⟨f, rfl, h1, _⟩
    · exact List.mem_cons_self ..
    · obtain ⟨k1, k2⟩ := (mem_rest' h0).1 (mem_firsts.1 h1).1
      exact List.mem_cons_of_mem _ (List.mem_map.2 ⟨f, List.mem_filter.2 ⟨k1, by rw [decide_eq_false k2]; rfl⟩, rfl⟩)
  · rcases List.mem_cons.1 hv with rfl | hv
    · exact ⟨none, List.mem_cons_self .., .refl⟩
    · obtain ⟨c, hc, rfl⟩ := List.mem_map.1 hv
      obtain ⟨c1, c2⟩ := List.mem_filter.1 hc
      have hcr : c ∈ restL p := (mem_rest' h0).2 ⟨c1, by simpa using c2⟩
      obtain ⟨f, hf, k⟩ := firsts_all (e := false) (sorted_restL p) hcr
      rcases hi : innerB (boxL p).1 (boxL p).2 (pieceL false (restL p) f) with _ | _
      · refine ⟨none, List.mem_cons_self .., (reach_conn4 h0 k.symm).trans ?_⟩
        have : ¬ ∀ a ∈ pieceL false (restL p) f, (boxL p).1.1 < a.1 ∧ a.1 < (boxL p).2.1 ∧ (boxL p).1.2 < a.2 ∧ a.2 < (boxL p).2.2 := fun h => by
          rw [innerB_iff.2 h] at hi; cases hi
        obtain ⟨a, ha⟩ := Classical.not_forall.1 this
        obtain ⟨ha, hb⟩ := Classical.not_imp.1 ha
        have hr := mem_pieceL.1 ha
        exact (reach_conn4 h0 hr).trans (border_conn h0 hr.right hb)
      · exact ⟨some f, List.mem_cons_of_mem _ (List.mem_map.2 ⟨f, List.mem_filter.2 ⟨hf, hi⟩, rfl⟩), reach_conn4 h0 k.symm⟩
  · rcases mem r hr with rfl | ⟨f, rfl, h1, h2⟩
    · rcases mem s hs with rfl | ⟨g, rfl, h3, h4⟩
      · rfl
      · obtain ⟨c, e, _⟩ := conn_hole h0 (mem_firsts.1 h3).1 h4 k.symm
        cases e
    · rcases mem s hs with rfl | ⟨g, rfl, h3, h4⟩
      · obtain ⟨c, e, _⟩ := conn_hole h0 (mem_firsts.1 h1).1 h2 k
        cases e
      · obtain ⟨c, e, hr⟩ := conn_hole h0 (mem_firsts.1 h1).1 h2 k
        cases e
        rw [firsts_one h1 h3 hr]
/-- corners, cells and holes are as many as sides and pieces -/
theorem euler_is {p : List Sp} (hs : Sorted p) (h0 : p ≠ []) : ((boxB p).corners.filter (cornerOf p)).length + p.length + (holesL p).length = ((boxB p).A p).length + (piecesL true p).length := by
  have := euler (nodup_sorted hs) (in_boxB h0) (reps8 hs) (reps4 h0)
  rw [List.length_cons, List.length_map, ← holes_count] at this
  rw [length_piecesL]
  omega
end
/-! ### CellsL -/
section
open Graph

/-! ### corners -/
/-- all corners of the box, row by row -/
def cornL (p : List Sp) : List Sp := if p = [] then [] else betw (fun _ => true) (boxL p).1 ((boxL p).2.1 + 1, (boxL p).2.2 + 1)
theorem mem_cornL {p : List Sp} (h0 : p ≠ []) {v : Sp} : v ∈ cornL p ↔ v ∈ (boxB p).corners := by
  have b := boxed h0
  have h1 := b.wide
  have h2 := b.tall
  unfold cornL
  rw [if_neg h0, mem_betw, Box.mem_corners, h1, h2]
  show _ ↔ (boxL p).1.1 ≤ v.1 ∧ _ ∧ (boxL p).1.2 ≤ v.2 ∧ _
  simp only [and_true]
theorem sorted_cornL (p : List Sp) : Sorted (cornL p) := by
  unfold cornL
  split
  · exact List.Pairwise.nil
  · exact sorted_betw _ _ _
theorem cornL_count {p : List Sp} (h0 : p ≠ []) (f : Sp → Bool) : ((cornL p).filter f).length = ((boxB p).corners.filter f).length :=
  length_eq_of_same ((sorted_nodup (sorted_cornL p)).sublist List.filter_sublist) ((boxB p).nodup_corners.sublist List.filter_sublist) fun v => by
    rw [List.mem_filter, List.mem_filter, mem_cornL h0]
/-- the cells around a corner, as 1, 2, 4 and 8 added -/
def codeAt (p : List Sp) (v : Sp) : Nat := b2n (bl p v) + 2 * b2n (br p v) + 4 * b2n (tl p v) + 8 * b2n (tr p v)
def cntN (p : List Sp) (n : Nat) : Nat := ((cornL p).filter fun v => decide (codeAt p v = n)).length
theorem codeAt_lt (p : List Sp) (v : Sp) : codeAt p v < 16 := by
  unfold codeAt
  cases bl p v <;> cases br p v <;> cases tl p v <;> cases tr p v <;> decide
theorem two_filters {l : List Sp} (f g : Sp → Bool) (h : ∀ v, f v = true → g v = false) : (l.filter f).length + (l.filter g).length = (l.filter fun v => f v || g v).length := by
  induction l with
  | nil => rfl
  | cons v l ih =>
    have k := h v
    simp only [List.filter_cons]
    cases hf : f v <;> cases hg : g v
    · simpa using ih
    · simp; omega
    · simp; omega
    · rw [k hf] at hg; cases hg
def cornersN (p : List Sp) : Nat := ((cornL p).filter (cornerOf p)).length
/-- how many ways there are, the first k -/
def waysSum (p : List Sp) : Nat → Nat
  | 0 => 0
  | k + 1 => waysSum p k + cntN p (k + 1)
theorem waysSum_is (p : List Sp) : ∀ k, waysSum p k = ((cornL p).filter fun v => decide (1 ≤ codeAt p v ∧ codeAt p v ≤ k)).length
  | 0 => by
    unfold waysSum
    have : ((cornL p).filter fun v => decide (1 ≤ codeAt p v ∧ codeAt p v ≤ 0)) = [] := List.filter_eq_nil_iff.2 fun v _ => by rw [decide_eq_true_eq]; omega
    rw [this]; rfl
  | k + 1 => by
    unfold waysSum cntN
    rw [waysSum_is p k, two_filters _ _ fun v h => by
      rw [decide_eq_true_eq] at h
      exact decide_eq_false (by omega)]
    congr 1
    refine List.filter_congr fun v _ => ?_
    rw [Bool.eq_iff_iff, Bool.or_eq_true, decide_eq_true_eq, decide_eq_true_eq, decide_eq_true_eq]
    omega
theorem code_corner (p : List Sp) (v : Sp) : cornerOf p v = decide (1 ≤ codeAt p v ∧ codeAt p v ≤ 15) := by
  rw [cornerOf_quad]
  unfold codeAt
  cases bl p v <;> cases br p v <;> cases tl p v <;> cases tr p v <;> decide
theorem waysSum_all (p : List Sp) : waysSum p 15 = cornersN p := by
  rw [waysSum_is]
  unfold cornersN
  congr 1
  exact List.filter_congr fun v _ => (code_corner p v).symm
theorem corners_sum {p : List Sp} : cornersN p = (sumL p (squareR 2)).length := by
  by_cases h0 : p = []
  · subst h0; rfl
  · refine length_eq_of_same ((sorted_nodup (sorted_cornL p)).sublist List.filter_sublist) (sorted_nodup (sorted_sumL _ _)) fun v => ?_
    have h2 : sizeOk 2 = true := rfl
    rw [List.mem_filter, cornerOf_iff, mem_sumL, mem_cornL h0]
    constructor
    · rintro ⟨_, c, hc, h⟩
      unfold IsCorner at h
      refine ⟨c, (v.1 - c.1, v.2 - c.2), hc, ?_, ?_⟩
      · rw [mem_square h2]; simp only []; omega
      · unfold addS; apply sp_ext <;> simp only [] <;> omega
    · rintro ⟨c, d, hc, hd, rfl⟩
      rw [mem_square h2] at hd
      have hb := Box.mem_cells.1 (in_boxB h0 c hc)
      refine ⟨?_, c, hc, ?_⟩
      · rw [Box.mem_corners]; unfold addS; simp only []; omega
      · unfold IsCorner addS; simp only []; omega
theorem corners_le (p : List Sp) : cornersN p ≤ 4 * p.length := by
  rw [corners_sum]
  have := length_sumL_le p (squareR 2)
  have e : (squareR 2).length = 4 := by decide
  rw [e] at this; omega
def cornersR (p : List Sp) : Int := if picB p then (cornersN p : Int) else -1

/-! ### borders and sides -/
theorem near4_nearB {a b : Sp} : decide (Near4 a b) = nearB false a b := by
  rw [Bool.eq_iff_iff, decide_eq_true_eq, near4_iff]
  unfold Near4 ring4
  obtain ⟨ax, ay⟩ := a
  obtain ⟨bx, by'⟩ := b
  simp only [List.mem_cons, List.not_mem_nil, or_false, Prod.mk.injEq]
  omega
def borderI (p : List Sp) : Int := 4 * (p.length : Int) - (adj p : Int)
def borderR (p : List Sp) : Int := if picB p then borderI p else -1
/-- of the first k spots and all, how many pairs are beside each other -/
def adjUpto (p : List Sp) : Nat → Nat
  | 0 => 0
  | k + 1 => adjUpto p k + (p.filter fun b => nearB false (p.getD k (0, 0)) b).length
theorem adjUpto_is (p : List Sp) : ∀ k, k ≤ p.length → adjUpto p k = ((p.take k).map fun a => (p.filter fun b => decide (Near4 a b)).length).sum
  | 0, _ => rfl
  | k + 1, h => by
    have e : p.take (k + 1) = p.take k ++ [p.getD k (0, 0)] := by rw [List.take_add_one, getD_some (by omega)]; rfl
    unfold adjUpto
    rw [adjUpto_is p k (by omega), e, List.map_append, List.sum_append]
    simp only [List.map_cons, List.map_nil, List.sum_cons, List.sum_nil, Nat.add_zero, near4_nearB]
theorem adjUpto_all (p : List Sp) : adjUpto p p.length = adj p := by
  rw [adjUpto_is p _ (Nat.le_refl _), List.take_length]; rfl
theorem border_even {p : List Sp} (hs : Sorted p) : borderI p = 2 * ((endsX p).length + (endsY p).length : Nat) := by
  have := border_ends (sorted_nodup hs)
  unfold borderI; omega
theorem border_nonneg {p : List Sp} (hs : Sorted p) : 0 ≤ borderI p := by rw [border_even hs]; omega
theorem border_le {p : List Sp} : borderI p ≤ 4 * (p.length : Int) := by unfold borderI; omega
theorem border_one {p : List Sp} (h : p.length = 1) : borderI p = 4 := by
  obtain ⟨a, rfl⟩ := List.length_eq_one_iff.1 h
  have : adj [a] = 0 := by
    unfold adj
    have e : ([a].filter fun b => decide (Near4 a b)) = [] := List.filter_eq_nil_iff.2 fun b hb => by
      rw [List.mem_singleton] at hb; subst hb
      rw [decide_eq_true_eq]; exact near4_self b
    simp only [List.map_cons, List.map_nil, List.sum_cons, List.sum_nil, e, List.length_nil, Nat.add_zero]
  unfold borderI
  rw [this]; rfl
theorem sum_map_perm {l m : List Sp} (f : Sp → Nat) (h : l.Perm m) : (l.map f).sum = (m.map f).sum := (h.map f).sum_nat
theorem adj_turned {p : List Sp} : adj (turned p) = adj p := by
  have hn : ∀ a b : Sp, Near4 (-a.1, -a.2) (-b.1, -b.2) ↔ Near4 a b := fun a b => by unfold Near4; simp only []; omega
  unfold adj turned
  rw [List.map_reverse, List.sum_reverse, List.map_map]
  congr 1
  refine List.map_congr_left fun a _ => ?_
  show (((p.map fun b => ((-b.1, -b.2) : Sp)).reverse).filter fun b => decide (Near4 (-a.1, -a.2) b)).length = _
  rw [List.filter_reverse, List.length_reverse, List.filter_map, List.length_map]
  congr 1
  refine List.filter_congr fun b _ => ?_
  show decide (Near4 (-a.1, -a.2) (-b.1, -b.2)) = _
  rw [decide_eq_decide]
  exact hn a b
theorem border_turned (p : List Sp) : borderI (turned p) = borderI p := by
  unfold borderI
  rw [adj_turned]
  unfold turned
  rw [List.length_reverse, List.length_map]
theorem sides_is {p : List Sp} (hs : Sorted p) (h0 : p ≠ []) : 2 * (((boxB p).A p).length : Int) = 4 * (p.length : Int) + borderI p := by
  have := sides_count (sorted_nodup hs) (in_boxB h0)
  unfold borderI; omega
def sidesI (p : List Sp) : Int := (4 * (p.length : Int) + borderI p) / 2
theorem sidesI_two {p : List Sp} (hs : Sorted p) : 2 * sidesI p = 4 * (p.length : Int) + borderI p := by
  have := border_even hs
  unfold sidesI; omega
def sidesR (p : List Sp) : Int := if picB p then sidesI p else -1
/-- the corners less the sides, and the spots, are the pieces less the holes -/
theorem euler_law {p : List Sp} (hs : Sorted p) : (cornersN p : Int) - sidesI p + (p.length : Int) = ((piecesL true p).length : Int) - ((holesL p).length : Int) := by
  by_cases h0 : p = []
  · subst h0
    have e1 : piecesL true [] = [] := by unfold piecesL firsts; rfl
    rw [e1, holesL_nil]; rfl
  · have h1 := euler_is hs h0
    have h2 := sides_is hs h0
    have h3 := sidesI_two hs
    have h4 : cornersN p = ((boxB p).corners.filter (cornerOf p)).length := cornL_count h0 _
    omega
def eulerI (p : List Sp) : Int := (cornersN p : Int) - sidesI p + (p.length : Int)
def eulerR (p : List Sp) : Int := if picB p then eulerI p else 0
theorem sides_ge {p : List Sp} (hs : Sorted p) : (cornersN p : Int) - ((piecesL true p).length : Int) ≤ sidesI p := by
  have := euler_law hs
  omega

/-! ### the border of what is filled -/
theorem reach_edges4 {p : List Sp} {a b : Sp} (h : Reach false p a b) : Conn (edges4 p) a b :=
  h.ind (M := fun b => Conn (edges4 p) a b) (fun _ => .refl) fun b c k ih hc hn => ih.step (.inl (mem_edges4.2 ⟨k.right, hc, by
    rw [← near4_nearB, decide_eq_true_eq] at hn
    exact hn⟩))
theorem one_piece {p : List Sp} (hs : Sorted p) (h : (piecesL false p).length = 1) {a b : Sp} (ha : a ∈ p) (hb : b ∈ p) : Conn (edges4 p) a b := by
  rw [length_piecesL] at h
  obtain ⟨f, hf⟩ := List.length_eq_one_iff.1 h
  obtain ⟨g, hg, k1⟩ := firsts_all (e := false) hs ha
  obtain ⟨g', hg', k2⟩ := firsts_all (e := false) hs hb
  rw [hf, List.mem_singleton] at hg hg'
  subst hg hg'
  exact reach_edges4 (k1.symm.trans k2)
theorem both_border {p s : List Sp} (B : Both p s) (h : (piecesL false p).length = 1) : borderI s ≤ borderI p := by
  have hs := (picB_pic B.pic).2.2
  have hss := (picB_pic B.pics).2.2
  have h0 : p ≠ [] := fun e => by
    subst e
    have e1 : piecesL false [] = [] := by unfold piecesL firsts; rfl
    rw [e1] at h; cases h
  have hb := isBox_boxL h0
  -- all is within the box
  have hin : ∀ x ∈ s, (boxL p).1.1 ≤ x.1 ∧ x.1 ≤ (boxL p).2.1 ∧ (boxL p).1.2 ≤ x.2 ∧ x.2 ≤ (boxL p).2.2 := fun x hx => by
    have := B.least (betw (fun _ => true) (boxL p).1 (boxL p).2) (fun a ha => by
      have := (boxed h0).all a ha
      exact mem_betw.2 ⟨this.1, this.2.1, this.2.2.1, this.2.2.2, rfl⟩) ⟨fun a ha b hb' e x h1 h2 => by
        obtain ⟨a1, a2, a3, a4, _⟩ := mem_betw.1 ha
        obtain ⟨b1, b2, b3, b4, _⟩ := mem_betw.1 hb'
        exact mem_betw.2 ⟨by simp only []; omega, by simp only []; omega, a3, a4, rfl⟩⟩ ⟨fun a ha b hb' e y h1 h2 => by
        obtain ⟨a1, a2, a3, a4, _⟩ := mem_betw.1 ha
        obtain ⟨b1, b2, b3, b4, _⟩ := mem_betw.1 hb'
        exact mem_betw.2 ⟨a1, a2, by simp only []; omega, by simp only []; omega, rfl⟩⟩ x hx
    obtain ⟨h1, h2, h3, h4, _⟩ := mem_betw.1 this
    exact ⟨h1, h2, h3, h4⟩
  obtain ⟨a1, ha1, e1⟩ := hb.lx
  obtain ⟨a2, ha2, e2⟩ := hb.ly
  obtain ⟨a3, ha3, e3⟩ := hb.hx
  obtain ⟨a4, ha4, e4⟩ := hb.hy
  have c1 := rows_between ha2 (one_piece hs h ha2 ha4)
  have c2 := rows_between ha1 (one_piece hs h ha1 ha3)
  have := border_filled (sorted_nodup hs) (sorted_nodup hss) (X := p) (S := s) (fun a ha b hb' e x k1 k2 => B.fx.is a ha b hb' e x k1 k2) (fun a ha b hb' e y k1 k2 => B.fy.is a ha b hb' e y k1 k2)
    (fun x hx => c1.2.1 x.2 (.inl (by have := hin x hx; omega))) (fun x hx => c2.2.2 x.1 (.inl (by have := hin x hx; omega))) (m := 100) (fun a ha c hc => by
      have k1 := (picB_pic B.pic).2.1 a ha
      have k2 := (picB_pic B.pic).2.1 c hc
      unfold InR at k1 k2; omega)
  unfold borderI; omega

/-! ### squares of two by two -/
def oneN (p : List Sp) : Nat := cntN p 1 + cntN p 2 + cntN p 4 + cntN p 8
def crossN (p : List Sp) : Nat := cntN p 6 + cntN p 9
def threeN (p : List Sp) : Nat := cntN p 7 + cntN p 11 + cntN p 13 + cntN p 14
theorem cnt_two (p : List Sp) (f : Sp → Bool) (n : Nat) (h : ∀ v, f v = true → codeAt p v ≠ n) : ((cornL p).filter f).length + cntN p n = ((cornL p).filter fun v => f v || decide (codeAt p v = n)).length := by
  unfold cntN
  exact two_filters _ _ fun v k => decide_eq_false (h v k)
theorem oneN_is (p : List Sp) : oneN p = ((cornL p).filter fun v => one4 (bl p v) (br p v) (tl p v) (tr p v)).length := by
  unfold oneN
  rw [show cntN p 1 = ((cornL p).filter fun v => decide (codeAt p v = 1)).length from rfl, cnt_two p _ 2 (fun v h => by simp at h; omega), cnt_two p _ 4 (fun v h => by simp at h; omega), cnt_two p _ 8 (fun v h => by simp at h; omega)]
  congr 1
  refine List.filter_congr fun v _ => ?_
  unfold codeAt
  cases bl p v <;> cases br p v <;> cases tl p v <;> cases tr p v <;> decide
theorem crossN_is (p : List Sp) : crossN p = ((cornL p).filter fun v => cross4 (bl p v) (br p v) (tl p v) (tr p v)).length := by
  unfold crossN
  rw [show cntN p 6 = ((cornL p).filter fun v => decide (codeAt p v = 6)).length from rfl, cnt_two p _ 9 (fun v h => by simp at h; omega)]
  congr 1
  refine List.filter_congr fun v _ => ?_
  unfold codeAt
  cases bl p v <;> cases br p v <;> cases tl p v <;> cases tr p v <;> decide
theorem threeN_is (p : List Sp) : threeN p = ((cornL p).filter fun v => three4 (bl p v) (br p v) (tl p v) (tr p v)).length := by
  unfold threeN
  rw [show cntN p 7 = ((cornL p).filter fun v => decide (codeAt p v = 7)).length from rfl, cnt_two p _ 11 (fun v h => by simp at h; omega), cnt_two p _ 13 (fun v h => by simp at h; omega), cnt_two p _ 14 (fun v h => by simp at h; omega)]
  congr 1
  refine List.filter_congr fun v _ => ?_
  unfold codeAt
  cases bl p v <;> cases br p v <;> cases tl p v <;> cases tr p v <;> decide
theorem quads_euler {p : List Sp} (hs : Sorted p) : (oneN p : Int) - (threeN p : Int) - 2 * (crossN p : Int) = 4 * eulerI p := by
  by_cases h0 : p = []
  · subst h0; rfl
  · have h1 := gray (sorted_nodup hs) (in_boxB h0)
    have h2 := sides_is hs h0
    have h3 := sidesI_two hs
    have h4 : cornersN p = ((boxB p).corners.filter (cornerOf p)).length := cornL_count h0 _
    rw [← cornL_count h0, ← cornL_count h0, ← cornL_count h0, ← cornL_count h0, ← oneN_is, ← crossN_is, ← threeN_is] at h1
    rw [← cornL_count h0] at h4
    unfold eulerI
    omega
theorem cnt_some {p : List Sp} {v : Sp} (hv : v ∈ cornL p) {n : Nat} (h : codeAt p v = n) : 1 ≤ cntN p n := by
  unfold cntN
  exact List.length_pos_of_mem (List.mem_filter.2 ⟨hv, decide_eq_true h⟩)
/-- a picture that is not empty has four corners with one cell, at least -/
theorem oneN_four {p : List Sp} (h0 : p ≠ []) : 4 ≤ oneN p := by
  have hb := isBox_boxL h0
  -- the first and the last spot of the lowest row, and of the highest one
  have low : ∃ a ∈ p, ∃ b ∈ p, a.2 = (boxL p).1.2 ∧ b.2 = (boxL p).1.2 ∧ ∀ c ∈ p, c.2 = (boxL p).1.2 → a.1 ≤ c.1 ∧ c.1 ≤ b.1 := by
    obtain ⟨a, ha, e⟩ := hb.ly
    have hne : (p.filter fun c => decide (c.2 = (boxL p).1.2)) ≠ [] := fun k => by
      have : a ∈ p.filter fun c => decide (c.2 = (boxL p).1.2) := List.mem_filter.2 ⟨ha, decide_eq_true e⟩
      rw [k] at this; cases this
    have b2 := isBox_boxL hne
    obtain ⟨x, hx, e1⟩ := b2.lx
    obtain ⟨y, hy, e2⟩ := b2.hx
    obtain ⟨x1, x2⟩ := List.mem_filter.1 hx
    obtain ⟨y1, y2⟩ := List.mem_filter.1 hy
    refine ⟨x, x1, y, y1, of_decide_eq_true x2, of_decide_eq_true y2, fun c hc e3 => ?_⟩
    have := b2.all c (List.mem_filter.2 ⟨hc, decide_eq_true e3⟩)
    omega
  have high : ∃ a ∈ p, ∃ b ∈ p, a.2 = (boxL p).2.2 ∧ b.2 = (boxL p).2.2 ∧ ∀ c ∈ p, c.2 = (boxL p).2.2 → a.1 ≤ c.1 ∧ c.1 ≤ b.1 := by
    obtain ⟨a, ha, e⟩ := hb.hy
    have hne : (p.filter fun c => decide (c.2 = (boxL p).2.2)) ≠ [] := fun k => by
      have : a ∈ p.filter fun c => decide (c.2 = (boxL p).2.2) := List.mem_filter.2 ⟨ha, decide_eq_true e⟩
      rw [k] at this; cases this
    have b2 := isBox_boxL hne
    obtain ⟨x, hx, e1⟩ := b2.lx
    obtain ⟨y, hy, e2⟩ := b2.hx
    obtain ⟨x1, x2⟩ := List.mem_filter.1 hx
    obtain ⟨y1, y2⟩ := List.mem_filter.1 hy
    refine ⟨x, x1, y, y1, of_decide_eq_true x2, of_decide_eq_true y2, fun c hc e3 => ?_⟩
    have := b2.all c (List.mem_filter.2 ⟨hc, decide_eq_true e3⟩)
    omega
  obtain ⟨a, ha, b, hb1, ea, eb, hl⟩ := low
  obtain ⟨c, hc, d, hd, ec, ed, hh⟩ := high
  have inB : ∀ x ∈ p, ∀ dx dy : Int, 0 ≤ dx → dx ≤ 1 → 0 ≤ dy → dy ≤ 1 → (x.1 + dx, x.2 + dy) ∈ cornL p := fun x hx dx dy h1 h2 h3 h4 => by
    rw [mem_cornL h0, Box.mem_corners]
    have := Box.mem_cells.1 (in_boxB h0 x hx)
    simp only []; omega
  have no : ∀ x y : Int, (y < (boxL p).1.2 ∨ (boxL p).2.2 < y ∨ (y = (boxL p).1.2 ∧ (x < a.1 ∨ b.1 < x)) ∨ (y = (boxL p).2.2 ∧ (x < c.1 ∨ d.1 < x))) → decide (((x, y) : Sp) ∈ p) = false := fun x y h => decide_eq_false fun k => by
    have k1 := (boxed h0).all _ k
    have k2 := hl _ k
    have k3 := hh _ k
    simp only at k1 k2 k3
    omega
  have yes : ∀ x ∈ p, decide (x ∈ p) = true := fun x hx => decide_eq_true hx
  have k8 : codeAt p (a.1 + 0, a.2 + 0) = 8 := by
    unfold codeAt bl br tl tr
    simp only [Int.add_zero]
    rw [no (a.1 - 1) (a.2 - 1) (by omega), no a.1 (a.2 - 1) (by omega), no (a.1 - 1) a.2 (by omega), yes (a.1, a.2) ha]; rfl
  have k4 : codeAt p (b.1 + 1, b.2 + 0) = 4 := by
    unfold codeAt bl br tl tr
    simp only [Int.add_zero, Int.add_sub_cancel]
    rw [no b.1 (b.2 - 1) (by omega), no (b.1 + 1) (b.2 - 1) (by omega), yes (b.1, b.2) hb1, no (b.1 + 1) b.2 (by omega)]; rfl
  have k2 : codeAt p (c.1 + 0, c.2 + 1) = 2 := by
    unfold codeAt bl br tl tr
    simp only [Int.add_zero, Int.add_sub_cancel]
    rw [no (c.1 - 1) c.2 (by omega), yes (c.1, c.2) hc, no (c.1 - 1) (c.2 + 1) (by omega), no c.1 (c.2 + 1) (by omega)]; rfl
  have k1 : codeAt p (d.1 + 1, d.2 + 1) = 1 := by
    unfold codeAt bl br tl tr
    simp only [Int.add_sub_cancel]
    rw [yes (d.1, d.2) hd, no (d.1 + 1) d.2 (by omega), no d.1 (d.2 + 1) (by omega), no (d.1 + 1) (d.2 + 1) (by omega)]; rfl
  have c8 := cnt_some (inB a ha 0 0 (by omega) (by omega) (by omega) (by omega)) k8
  have c4 := cnt_some (inB b hb1 1 0 (by omega) (by omega) (by omega) (by omega)) k4
  have c2 := cnt_some (inB c hc 0 1 (by omega) (by omega) (by omega) (by omega)) k2
  have c1 := cnt_some (inB d hd 1 1 (by omega) (by omega) (by omega) (by omega)) k1
  unfold oneN
  omega
end
section
open Graph

/-- how often each of the sixteen ways comes among corners -/
def cntsOf (p l : List Sp) : List Int := (List.range 16).map fun n => ((l.filter fun v => decide (codeAt p v = n)).length : Int)
theorem cnts_len (p l : List Sp) : (cntsOf p l).length = 16 := by unfold cntsOf; rw [List.length_map, List.length_range]
theorem cnts_at (p l : List Sp) {n : Nat} (h : n < 16) : (cntsOf p l)[n]? = some ((l.filter fun v => decide (codeAt p v = n)).length : Int) := by
  unfold cntsOf
  rw [List.getElem?_map, List.getElem?_range h]; rfl
theorem cnts_nil (p : List Sp) : cntsOf p [] = List.replicate 16 0 := rfl
theorem cnts_snoc (p l : List Sp) (v : Sp) : cntsOf p (l ++ [v]) = (cntsOf p l).set (codeAt p v) (((l.filter fun u => decide (codeAt p u = codeAt p v)).length : Int) + 1) := by
  apply List.ext_getElem?
  intro j
  rw [List.getElem?_set, cnts_len]
  by_cases hj : j < 16
  · rw [cnts_at p _ hj]
    by_cases e : codeAt p v = j
    · subst e
      rw [if_pos rfl, if_pos hj, List.filter_append, List.length_append]
      simp
    · rw [if_neg e, cnts_at p _ hj, List.filter_append, List.length_append]
      have : [v].filter (fun u => decide (codeAt p u = j)) = [] := by simp [e]
      rw [this]; simp
  · rw [List.getElem?_eq_none (by rw [cnts_len]; omega)]
    by_cases e : codeAt p v = j
    · rw [if_pos e, if_neg (by omega)]
    · rw [if_neg e, List.getElem?_eq_none (by rw [cnts_len]; omega)]
theorem cnts_corn (p : List Sp) {n : Nat} (h : n < 16) : (cntsOf p (cornL p))[n]? = some (cntN p n : Int) := cnts_at p _ h
/-- the code of the first k cells around a corner -/
def codeK (a b c d : Bool) (k : Int) : Int := (if 0 < k ∧ a = true then 1 else 0) + (if 1 < k ∧ b = true then 2 else 0) + (if 2 < k ∧ c = true then 4 else 0) + (if 3 < k ∧ d = true then 8 else 0)
theorem codeK_all (p : List Sp) (v : Sp) : codeK (bl p v) (br p v) (tl p v) (tr p v) 4 = (codeAt p v : Int) := by
  unfold codeK codeAt b2n
  cases bl p v <;> cases br p v <;> cases tl p v <;> cases tr p v <;> rfl
theorem codeK_range (a b c d : Bool) (k : Int) : 0 ≤ codeK a b c d k ∧ codeK a b c d k ≤ 15 := by
  unfold codeK
  repeat' split
  all_goals omega
theorem codeK_0 (a b c d : Bool) : codeK a b c d 1 = codeK a b c d 0 + (if a then 1 else 0) := by cases a <;> cases b <;> cases c <;> cases d <;> rfl
theorem codeK_1 (a b c d : Bool) : codeK a b c d 2 = codeK a b c d 1 + (if b then 2 else 0) := by cases a <;> cases b <;> cases c <;> cases d <;> rfl
theorem codeK_2 (a b c d : Bool) : codeK a b c d 3 = codeK a b c d 2 + (if c then 4 else 0) := by cases a <;> cases b <;> cases c <;> cases d <;> rfl
theorem codeK_3 (a b c d : Bool) : codeK a b c d 4 = codeK a b c d 3 + (if d then 8 else 0) := by cases a <;> cases b <;> cases c <;> cases d <;> rfl
/-- corners up to a place of a row, and the next one -/
theorem cnts_read (p l : List Sp) (v : Sp) : (cntsOf p l)[codeAt p v]? = some ((l.filter fun u => decide (codeAt p u = codeAt p v)).length : Int) := cnts_at p l (codeAt_lt p v)
theorem cornL_rows {p : List Sp} (h0 : p ≠ []) : cornL p = rowsB (fun _ => true) (boxL p).1.1 (boxL p).1.2 (span (boxL p).1.1 ((boxL p).2.1 + 1)) (span (boxL p).1.2 ((boxL p).2.2 + 1)) := by
  unfold cornL
  rw [if_neg h0]; rfl
theorem cornL_nil : cornL [] = [] := rfl
theorem waysSum_succ (p : List Sp) (k : Nat) : waysSum p (k + 1) = waysSum p k + cntN p (k + 1) := rfl
theorem waysSum_mono (p : List Sp) {j k : Nat} (h : j ≤ k) : waysSum p j ≤ waysSum p k := by
  induction k with
  | zero => obtain rfl : j = 0 := by omega
            exact Nat.le_refl _
  | succ k ih =>
    by_cases e : j = k + 1
    · subst e; exact Nat.le_refl _
    · have := ih (by omega)
      rw [waysSum_succ]; omega
theorem ways_le {p : List Sp} (hp : picB p = true) {j : Nat} (h : j ≤ 15) : waysSum p j ≤ 240 := by
  have h1 := waysSum_mono p h
  have h2 := corners_le p
  have h3 := (picB_pic hp).1
  rw [waysSum_all] at h1
  omega
theorem cntN_le {p : List Sp} (hp : picB p = true) {n : Nat} (h0 : 0 < n) (h : n < 16) : cntN p n ≤ 240 := by
  obtain ⟨j, rfl⟩ : ∃ j, n = j + 1 := ⟨n - 1, by omega⟩
  have := ways_le hp (j := j + 1) (by omega)
  rw [waysSum_succ] at this; omega
theorem cornersR_yes {p : List Sp} (h : picB p = true) : cornersR p = (waysSum p 15 : Nat) := by unfold cornersR; rw [h, waysSum_all]; rfl
theorem cornersR_no {p : List Sp} (h : picB p = false) : cornersR p = -1 := by unfold cornersR; rw [h]; rfl
/-! ### borders: what is left behind the first k spots, and the first j beside the next one -/
def bordK (p : List Sp) (k j : Nat) : Int := 4 * (p.length : Int) - (adjUpto p k : Nat) - (((p.take j).filter fun b => nearB false (p.getD k (0, 0)) b).length : Nat)
theorem bordK_zero (p : List Sp) : bordK p 0 0 = 4 * (p.length : Int) := by unfold bordK; simp [adjUpto]
theorem bordK_next (p : List Sp) (k : Nat) : bordK p k p.length = bordK p (k + 1) 0 := by
  unfold bordK
  rw [List.take_length, List.take_zero]
  show _ = 4 * (p.length : Int) - ((adjUpto p k + (p.filter fun b => nearB false (p.getD k (0, 0)) b).length : Nat) : Int) - (([] : List Sp).length : Nat)
  simp; omega
theorem bordK_all (p : List Sp) : bordK p p.length 0 = borderI p := by
  unfold bordK borderI
  rw [adjUpto_all, List.take_zero]; simp
theorem bordK_step {p : List Sp} {k j : Nat} {a b : Sp} (ha : p[k]? = some a) (hb : p[j]? = some b) : bordK p k (j + 1) = bordK p k j - (if nearB false a b then 1 else 0) := by
  have hD : p.getD k (0, 0) = a := by rw [List.getD_eq_getElem?_getD, ha]; rfl
  unfold bordK
  rw [hD, List.take_add_one, hb, List.filter_append, List.length_append]
  cases h : nearB false a b <;> simp [h] <;> omega
theorem adj_le (p : List Sp) : ∀ k, adjUpto p k ≤ k * p.length
  | 0 => Nat.zero_le _
  | k + 1 => by
    have := adj_le p k
    have h := List.length_filter_le (fun b => nearB false (p.getD k (0, 0)) b) p
    unfold adjUpto
    rw [Nat.succ_mul]; omega
theorem bordK_range {p : List Sp} (hp : picB p = true) {k j : Nat} (hk : k ≤ p.length) : -10000 ≤ bordK p k j ∧ bordK p k j ≤ 240 := by
  have h1 := adj_le p k
  have h2 := (picB_pic hp).1
  have h3 : ((p.take j).filter fun b => nearB false (p.getD k (0, 0)) b).length ≤ p.length := Nat.le_trans (List.length_filter_le _ _) (List.length_take_le' _ _)
  have h4 : k * p.length ≤ 60 * 60 := Nat.mul_le_mul (by omega) h2
  unfold bordK
  omega
theorem borderR_yes {p : List Sp} (h : picB p = true) : borderR p = borderI p := by unfold borderR; rw [h]; rfl
theorem borderR_no {p : List Sp} (h : picB p = false) : borderR p = -1 := by unfold borderR; rw [h]; rfl
theorem sidesR_yes {p : List Sp} (h : picB p = true) : sidesR p = sidesI p := by unfold sidesR; rw [h]; rfl
theorem sidesR_no {p : List Sp} (h : picB p = false) : sidesR p = -1 := by unfold sidesR; rw [h]; rfl
theorem border_range {p : List Sp} (hp : picB p = true) : 0 ≤ borderI p ∧ borderI p ≤ 240 := by
  have h1 := border_nonneg (picB_pic hp).2.2
  have h2 := border_le (p := p)
  have h3 := (picB_pic hp).1
  omega
theorem sides_range {p : List Sp} (hp : picB p = true) : 0 ≤ sidesI p ∧ sidesI p ≤ 240 := by
  have h1 := border_range hp
  have h2 := sidesI_two (picB_pic hp).2.2
  have h3 := (picB_pic hp).1
  omega
def eulerOk (p : List Sp) : Bool := picB p
theorem eulerR_yes {p : List Sp} (h : picB p = true) : eulerR p = (waysSum p 15 : Nat) - sidesI p + (p.length : Nat) := by unfold eulerR eulerI; rw [h, waysSum_all]; rfl
theorem eulerR_no {p : List Sp} (h : picB p = false) : eulerR p = 0 := by unfold eulerR; rw [h]; rfl
/-- the three counts of squares -/
def quadA (p : List Sp) : Int := if picB p then (oneN p : Int) else -1
def quadB (p : List Sp) : Int := if picB p then (crossN p : Int) else -1
def quadC (p : List Sp) : Int := if picB p then (threeN p : Int) else -1
end
/-! ### CellM: corners and sides of cells as a map's keys -/
section
open Graph

/-! ### sums over whatever list -/
theorem sumA {ε : Type} (X : List ε) (f g : ε → Nat) : (X.map fun a => f a + g a).sum = (X.map f).sum + (X.map g).sum := by
  induction X with
  | nil => rfl
  | cons a X ih => simp only [List.map_cons, List.sum_cons, ih]; omega
theorem sumI {ε : Type} (X : List ε) (p : ε → Bool) : (X.map fun a => if p a then 1 else 0).sum = (X.filter p).length := by
  induction X with
  | nil => rfl
  | cons a X ih =>
    rw [List.map_cons, List.sum_cons, ih]
    cases h : p a with
    | false => rw [List.filter_cons_of_neg (by simp [h])]; simp
    | true => rw [List.filter_cons_of_pos (by simp [h])]; simp; omega
theorem sumC {ε : Type} (X : List ε) (f : ε → Nat) (c : Nat) (h : ∀ a ∈ X, f a = c) : (X.map f).sum = c * X.length := by
  induction X with
  | nil => simp
  | cons a X ih =>
    rw [List.map_cons, List.sum_cons, ih fun b hb => h b (List.mem_cons_of_mem _ hb), h a (List.mem_cons_self ..), List.length_cons, Nat.mul_succ]; omega
/-- how often one is on a list -/
def timesIn {ε : Type} [DecidableEq ε] (l : List ε) (s : ε) : Nat := (l.filter fun t => decide (t = s)).length
section
variable {ε : Type} [DecidableEq ε]
theorem timesIn_nil (s : ε) : timesIn [] s = 0 := rfl
theorem timesIn_cons (l : List ε) (t s : ε) : timesIn (t :: l) s = (if t = s then 1 else 0) + timesIn l s := by
  unfold timesIn
  by_cases h : t = s
  · rw [List.filter_cons_of_pos (by simp [h]), if_pos h, List.length_cons]; omega
  · rw [List.filter_cons_of_neg (by simp [h]), if_neg h]; omega
theorem timesIn_append (l m : List ε) (s : ε) : timesIn (l ++ m) s = timesIn l s + timesIn m s := by
  unfold timesIn
  rw [List.filter_append, List.length_append]
theorem timesIn_le (l : List ε) (s : ε) : timesIn l s ≤ l.length := List.length_filter_le _ _
theorem timesIn_pos {l : List ε} {s : ε} (h : s ∈ l) : 1 ≤ timesIn l s := List.length_pos_of_mem (List.mem_filter.2 ⟨h, decide_eq_true rfl⟩)
theorem times_one {M : List ε} (hM : M.Nodup) {t : ε} (ht : t ∈ M) : (M.filter fun s => decide (t = s)).length = 1 := by
  rw [show 1 = [t].length from rfl]
  refine length_eq_of_same (hM.sublist List.filter_sublist) (by simp) fun x => ?_
  rw [List.mem_filter, decide_eq_true_eq, List.mem_singleton]
  exact ⟨fun h => h.2.symm, fun h => ⟨h ▸ ht, h.symm⟩⟩
theorem sum_times {M : List ε} (hM : M.Nodup) : ∀ {l : List ε}, (∀ t ∈ l, t ∈ M) → (M.map fun s => timesIn l s).sum = l.length
  | [], _ => by rw [sumC M _ 0 fun s _ => timesIn_nil s]; simp
  | t :: l, h => by
    have e : (M.map fun s => timesIn (t :: l) s) = M.map fun s => (if decide (t = s) = true then 1 else 0) + timesIn l s := List.map_congr_left fun s _ => by
      rw [timesIn_cons]; simp only [decide_eq_true_eq]
    rw [e, sumA, sumI M fun s => decide (t = s), times_one hM (h t (List.mem_cons_self ..)), sum_times hM fun s hs => h s (List.mem_cons_of_mem _ hs), List.length_cons]
    omega
end

/-! ### sides -/
/-- of a spot the lower side, or the left one -/
abbrev Sd := Sp × Bool
def sdOf : Ed → Sd
  | .h x y => ((x, y), false)
  | .v x y => ((x, y), true)
theorem sdOf_inj (a b : Ed) (h : sdOf a = sdOf b) : a = b := by
  cases a <;> cases b <;> simp [sdOf] at h ⊢ <;> exact h
theorem sdOf_sur (s : Sd) : ∃ e, sdOf e = s := by
  obtain ⟨⟨x, y⟩, b⟩ := s
  cases b
  · exact ⟨.h x y, rfl⟩
  · exact ⟨.v x y, rfl⟩
def fourS (a : Sp) : List Sd := [((a.1, a.2), false), ((a.1, a.2), true), ((a.1, a.2 + 1), false), ((a.1 + 1, a.2), true)]
def sdsL (p : List Sp) : List Sd := p.flatMap fourS
theorem sdsL_len : ∀ p : List Sp, (sdsL p).length = 4 * p.length
  | [] => rfl
  | a :: p => by
    have ih := sdsL_len p
    unfold sdsL at *
    rw [List.flatMap_cons, List.length_append, ih, List.length_cons]
    show 4 + _ = _; omega
theorem mem_sdsL {p : List Sp} {e : Ed} : sdOf e ∈ sdsL p ↔ sideOf p e = true := by
  unfold sdsL
  rw [List.mem_flatMap]
  cases e with
  | h x y =>
    unfold sideOf sdOf fourS
    rw [Bool.or_eq_true, decide_eq_true_eq, decide_eq_true_eq]
    constructor
    · rintro ⟨⟨u, v⟩, ha, h⟩
      simp only [List.mem_cons, Prod.mk.injEq, List.not_mem_nil, or_false, and_true, Bool.false_eq_true, and_false, false_or] at h
      rcases h with ⟨h1, h2⟩ | ⟨h1, h2⟩
      · subst h1 h2; exact .inr ha
      · subst h1 h2; exact .inl (by rw [show v + 1 - 1 = v by omega]; exact ha)
    · rintro (h | h)
      · exact ⟨_, h, by simp⟩
      · exact ⟨_, h, by simp⟩
  | v x y =>
    unfold sideOf sdOf fourS
    rw [Bool.or_eq_true, decide_eq_true_eq, decide_eq_true_eq]
    constructor
    · rintro ⟨⟨u, v⟩, ha, h⟩
      simp only [List.mem_cons, Prod.mk.injEq, List.not_mem_nil, or_false, and_true, Bool.true_eq_false, and_false, false_or] at h
      rcases h with ⟨h1, h2⟩ | ⟨h1, h2⟩
      · subst h1 h2; exact .inr ha
      · subst h1 h2; exact .inl (by rw [show u + 1 - 1 = u by omega]; exact ha)
    · rintro (h | h)
      · exact ⟨_, h, by simp⟩
      · exact ⟨_, h, by simp⟩
/-- all sides, each once -/
def sidesM (p : List Sp) : List Sd := ((boxB p).A p).map sdOf
theorem nodup_sidesM (p : List Sp) : (sidesM p).Nodup := nodup_map_inj sdOf_inj ((boxB p).nodup_sides.sublist List.filter_sublist)
theorem mem_sidesM {p : List Sp} {s : Sd} : s ∈ sdsL p ↔ s ∈ sidesM p := by
  obtain ⟨e, rfl⟩ := sdOf_sur s
  unfold sidesM
  rw [mem_sdsL, List.mem_map]
  constructor
  · intro h
    by_cases h0 : p = []
    · subst h0; cases e <;> simp [sideOf] at h
    · exact ⟨e, Box.mem_A.2 ⟨sideOf_in (in_boxB h0) h, h⟩, rfl⟩
  · rintro ⟨e', h, k⟩
    rw [← sdOf_inj _ _ k]
    exact (Box.mem_A.1 h).2
theorem sidesM_len {p : List Sp} (hs : Sorted p) : ((sidesM p).length : Int) = sidesI p := by
  unfold sidesM
  rw [List.length_map]
  by_cases h0 : p = []
  · subst h0
    have : (boxB []).A [] = [] := List.filter_eq_nil_iff.2 fun e _ => by cases e <;> simp [sideOf]
    rw [this]; rfl
  · have h1 := sides_is hs h0
    have h2 := sidesI_two hs
    omega
theorem times_four (a : Sp) (x y : Int) : timesIn (fourS a) ((x, y), false) = (if a = (x, y) then 1 else 0) + (if a = (x, y - 1) then 1 else 0) := by
  obtain ⟨u, v⟩ := a
  unfold fourS
  simp only [timesIn_cons, timesIn_nil, Prod.mk.injEq, and_true, Bool.true_eq_false, and_false, if_false]
  by_cases h1 : u = x <;> by_cases h2 : v = y <;> by_cases h3 : v = y - 1 <;> simp_all <;> omega
theorem times_fourV (a : Sp) (x y : Int) : timesIn (fourS a) ((x, y), true) = (if a = (x, y) then 1 else 0) + (if a = (x - 1, y) then 1 else 0) := by
  obtain ⟨u, v⟩ := a
  unfold fourS
  simp only [timesIn_cons, timesIn_nil, Prod.mk.injEq, and_true, Bool.false_eq_true, and_false, if_false]
  by_cases h1 : u = x <;> by_cases h2 : v = y <;> by_cases h3 : u = x - 1 <;> simp_all <;> omega
theorem b2n_cons {a b : Sp} {p : List Sp} (h : a ∉ p) : b2n (decide (b ∈ a :: p)) = (if a = b then 1 else 0) + b2n (decide (b ∈ p)) := by
  by_cases e : a = b
  · subst e; simp [h, b2n]
  · have e' : ¬ b = a := fun k => e k.symm
    simp [e, e']
theorem times_sds : ∀ {p : List Sp}, p.Nodup → ∀ x y : Int, timesIn (sdsL p) ((x, y), false) = b2n (decide ((x, y) ∈ p)) + b2n (decide ((x, y - 1) ∈ p)) ∧ timesIn (sdsL p) ((x, y), true) = b2n (decide ((x, y) ∈ p)) + b2n (decide ((x - 1, y) ∈ p))
  | [], _, x, y => by simp [sdsL, timesIn, b2n]
  | a :: p, hn, x, y => by
    obtain ⟨h1, h2⟩ := List.nodup_cons.1 hn
    obtain ⟨i1, i2⟩ := times_sds h2 x y
    unfold sdsL at *
    rw [List.flatMap_cons, timesIn_append, timesIn_append, times_four, times_fourV, i1, i2, b2n_cons h1, b2n_cons h1, b2n_cons h1]
    omega
theorem b2n_le (b : Bool) : b2n b ≤ 1 := by cases b <;> decide
theorem times_le {p : List Sp} (hn : p.Nodup) (s : Sd) : timesIn (sdsL p) s ≤ 2 := by
  obtain ⟨⟨x, y⟩, b⟩ := s
  obtain ⟨h1, h2⟩ := times_sds hn x y
  have a1 := b2n_le (decide ((x, y) ∈ p))
  have a2 := b2n_le (decide ((x, y - 1) ∈ p))
  have a3 := b2n_le (decide ((x - 1, y) ∈ p))
  cases b <;> omega
theorem border_times {p : List Sp} (hs : Sorted p) : (((sidesM p).filter fun s => decide (timesIn (sdsL p) s = 1)).length : Int) = borderI p := by
  have h1 := sum_times (nodup_sidesM p) (l := sdsL p) fun t ht => mem_sidesM.1 ht
  have h2 := sumA (sidesM p) (fun s => timesIn (sdsL p) s) fun s => if decide (timesIn (sdsL p) s = 1) = true then 1 else 0
  rw [sumC _ _ 2 fun s hs' => by
    have k1 := timesIn_pos (mem_sidesM.2 hs')
    have k2 := times_le (sorted_nodup hs) s
    by_cases e : timesIn (sdsL p) s = 1
    · rw [e]; rfl
    · have : timesIn (sdsL p) s = 2 := by omega
      rw [this]; rfl, h1, sumI (sidesM p) fun s => decide (timesIn (sdsL p) s = 1), sdsL_len] at h2
  have h3 := sidesM_len hs
  have h4 := sidesI_two hs
  omega

/-! ### corners, with the cells around each -/
def fourC (a : Sp) : List (Sp × Nat) := [((a.1, a.2), 0), ((a.1 + 1, a.2), 1), ((a.1, a.2 + 1), 2), ((a.1 + 1, a.2 + 1), 3)]
def qcL (p : List Sp) : List (Sp × Nat) := p.flatMap fourC
/-- which of the four bits a corner has got -/
def qcode (l : List (Sp × Nat)) (v : Sp) : Nat := b2n (decide ((v, 0) ∈ l)) + 2 * b2n (decide ((v, 1) ∈ l)) + 4 * b2n (decide ((v, 2) ∈ l)) + 8 * b2n (decide ((v, 3) ∈ l))
theorem qcode_le (l : List (Sp × Nat)) (v : Sp) : qcode l v ≤ 15 := by
  unfold qcode
  have := b2n_le (decide ((v, 0) ∈ l))
  have := b2n_le (decide ((v, 1) ∈ l))
  have := b2n_le (decide ((v, 2) ∈ l))
  have := b2n_le (decide ((v, 3) ∈ l))
  omega
theorem qcode_other {l : List (Sp × Nat)} {u v : Sp} {i : Nat} (h : v ≠ u) : qcode (l ++ [(u, i)]) v = qcode l v := by
  unfold qcode
  simp [h]
theorem qcode_same (l : List (Sp × Nat)) (v : Sp) {i : Nat} (hi : i < 4) : qcode (l ++ [(v, i)]) v = qcode l v ||| 2 ^ i := by
  have e : ∀ j, decide ((v, j) ∈ l ++ [(v, i)]) = (decide ((v, j) ∈ l) || decide (j = i)) := fun j => by
    rw [Bool.eq_iff_iff]; simp
  unfold qcode
  rw [e, e, e, e]
  generalize decide ((v, 0) ∈ l) = a
  generalize decide ((v, 1) ∈ l) = b
  generalize decide ((v, 2) ∈ l) = c
  generalize decide ((v, 3) ∈ l) = d
  obtain rfl | rfl | rfl | rfl : i = 0 ∨ i = 1 ∨ i = 2 ∨ i = 3 := by omega
  all_goals cases a <;> cases b <;> cases c <;> cases d <;> rfl
theorem mem_qcL {p : List Sp} {v : Sp} {i : Nat} : (v, i) ∈ qcL p ↔ (i = 0 ∧ (v.1, v.2) ∈ p) ∨ (i = 1 ∧ (v.1 - 1, v.2) ∈ p) ∨ (i = 2 ∧ (v.1, v.2 - 1) ∈ p) ∨ (i = 3 ∧ (v.1 - 1, v.2 - 1) ∈ p) := by
  obtain ⟨x, y⟩ := v
  unfold qcL fourC
  rw [List.mem_flatMap]
  constructor
  · rintro ⟨⟨u, w⟩, ha, h⟩
    simp only [List.mem_cons, Prod.mk.injEq, List.not_mem_nil, or_false] at h
    rcases h with ⟨⟨h1, h2⟩, h3⟩ | ⟨⟨h1, h2⟩, h3⟩ | ⟨⟨h1, h2⟩, h3⟩ | ⟨⟨h1, h2⟩, h3⟩ <;> subst h1 h2 h3 <;> simp [ha]
  · rintro (⟨rfl, h⟩ | ⟨rfl, h⟩ | ⟨rfl, h⟩ | ⟨rfl, h⟩)
    all_goals exact ⟨_, h, by simp⟩
theorem qcode_all (p : List Sp) (v : Sp) : qcode (qcL p) v = b2n (tr p v) + 2 * b2n (tl p v) + 4 * b2n (br p v) + 8 * b2n (bl p v) := by
  have e : ∀ j, decide ((v, j) ∈ qcL p) = decide ((j = 0 ∧ (v.1, v.2) ∈ p) ∨ (j = 1 ∧ (v.1 - 1, v.2) ∈ p) ∨ (j = 2 ∧ (v.1, v.2 - 1) ∈ p) ∨ (j = 3 ∧ (v.1 - 1, v.2 - 1) ∈ p)) := fun j => by
    rw [Bool.eq_iff_iff, decide_eq_true_eq, decide_eq_true_eq, mem_qcL]
  unfold qcode tr tl br bl
  rw [e, e, e, e]
  simp
/-- all corners, each once -/
def cornM (p : List Sp) : List Sp := (cornL p).filter (cornerOf p)
theorem nodup_cornM (p : List Sp) : (cornM p).Nodup := (sorted_nodup (sorted_cornL p)).sublist List.filter_sublist
theorem corner_in {p : List Sp} {v : Sp} (h : cornerOf p v = true) : v ∈ cornL p := by
  obtain ⟨c, hc, h⟩ := cornerOf_iff.1 h
  have h0 : p ≠ [] := fun e => by rw [e] at hc; cases hc
  have hb := Box.mem_cells.1 (in_boxB h0 c hc)
  unfold IsCorner at h
  rw [mem_cornL h0, Box.mem_corners]
  omega
theorem mem_cornM {p : List Sp} {v : Sp} : v ∈ (qcL p).map Prod.fst ↔ v ∈ cornM p := by
  unfold cornM
  rw [List.mem_filter, List.mem_map]
  have e : cornerOf p v = true ↔ (v.1, v.2) ∈ p ∨ (v.1 - 1, v.2) ∈ p ∨ (v.1, v.2 - 1) ∈ p ∨ (v.1 - 1, v.2 - 1) ∈ p := by
    rw [cornerOf_quad]
    unfold bl br tl tr
    simp only [Bool.or_eq_true, decide_eq_true_eq]
    constructor
    · rintro (((h | h) | h) | h)
      · exact .inr (.inr (.inr h))
      · exact .inr (.inr (.inl h))
      · exact .inr (.inl h)
      · exact .inl h
    · rintro (h | h | h | h)
      · exact .inr h
      · exact .inl (.inr h)
      · exact .inl (.inl (.inr h))
      · exact .inl (.inl (.inl h))
  constructor
  · rintro ⟨⟨u, i⟩, h, rfl⟩
    have k : cornerOf p u = true := e.2 (by rcases mem_qcL.1 h with h | h | h | h <;> simp [h.2])
    exact ⟨corner_in k, k⟩
  · rintro ⟨_, h⟩
    rcases e.1 h with h | h | h | h
    · exact ⟨(v, 0), mem_qcL.2 (.inl ⟨rfl, h⟩), rfl⟩
    · exact ⟨(v, 1), mem_qcL.2 (.inr (.inl ⟨rfl, h⟩)), rfl⟩
    · exact ⟨(v, 2), mem_qcL.2 (.inr (.inr (.inl ⟨rfl, h⟩))), rfl⟩
    · exact ⟨(v, 3), mem_qcL.2 (.inr (.inr (.inr ⟨rfl, h⟩))), rfl⟩
/-- how many bits a number below 16 has -/
def popc (n : Nat) : Nat := n % 2 + n / 2 % 2 + n / 4 % 2 + n / 8 % 2
theorem oneM (p : List Sp) : ((cornM p).filter fun v => decide (popc (qcode (qcL p) v) = 1)).length = oneN p := by
  rw [oneN_is]
  unfold cornM
  rw [List.filter_filter]
  congr 1
  refine List.filter_congr fun v _ => ?_
  rw [cornerOf_quad, qcode_all]
  cases bl p v <;> cases br p v <;> cases tl p v <;> cases tr p v <;> rfl
theorem crossM (p : List Sp) : ((cornM p).filter fun v => decide (qcode (qcL p) v = 9 ∨ qcode (qcL p) v = 6)).length = crossN p := by
  rw [crossN_is]
  unfold cornM
  rw [List.filter_filter]
  congr 1
  refine List.filter_congr fun v _ => ?_
  rw [cornerOf_quad, qcode_all]
  cases bl p v <;> cases br p v <;> cases tl p v <;> cases tr p v <;> rfl
theorem threeM (p : List Sp) : ((cornM p).filter fun v => decide (popc (qcode (qcL p) v) = 3)).length = threeN p := by
  rw [threeN_is]
  unfold cornM
  rw [List.filter_filter]
  congr 1
  refine List.filter_congr fun v _ => ?_
  rw [cornerOf_quad, qcode_all]
  cases bl p v <;> cases br p v <;> cases tl p v <;> cases tr p v <;> rfl
end
end Go.Proofs.Ytbbeinhjkfjipaa
