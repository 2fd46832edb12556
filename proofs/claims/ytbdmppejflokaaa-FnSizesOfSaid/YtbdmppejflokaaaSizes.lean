/-
  Plain facts on sizes: squares, what is left by them, how many, how many go, and at which side. No program is named. No conditions but those that stand in each theorem.
-/
import Derived.Test.YtbdmppejflokaaaPlain
namespace Go.Proofs.Ytbdmppejflokaaa

/-- a side that there is -/
def sizeOk (s : Int) : Bool := decide (1 ≤ s ∧ s ≤ 5)
def squareR (s : Int) : List Sp := if sizeOk s then betw (fun _ => true) (0, 0) (s - 1, s - 1) else []
theorem size_is {s : Int} (h : sizeOk s = true) : 1 ≤ s ∧ s ≤ 5 := of_decide_eq_true h
theorem size_yes {s : Int} (h1 : 1 ≤ s) (h2 : s ≤ 5) : sizeOk s = true := decide_eq_true ⟨h1, h2⟩
theorem square_no {s : Int} (h : sizeOk s = false) : squareR s = [] := by unfold squareR; rw [h]; rfl
theorem mem_square {s : Int} (h : sizeOk s = true) {a : Sp} : a ∈ squareR s ↔ 0 ≤ a.1 ∧ a.1 < s ∧ 0 ≤ a.2 ∧ a.2 < s := by
  unfold squareR
  rw [h, if_pos rfl, mem_betw]
  simp only [and_true]
  omega
theorem sorted_square (s : Int) : Sorted (squareR s) := by
  unfold squareR
  split
  · exact sorted_betw _ _ _
  · exact List.Pairwise.nil
theorem zero_square {s : Int} (h : sizeOk s = true) : (0, 0) ∈ squareR s := by
  rw [mem_square h]
  have := size_is h
  exact ⟨by simp, by simp only []; omega, by simp, by simp only []; omega⟩
theorem square_ne {s : Int} (h : sizeOk s = true) : squareR s ≠ [] := fun e => by
  have := zero_square h
  rw [e] at this; cases this
theorem size_cases {s : Int} (h : sizeOk s = true) : s = 1 ∨ s = 2 ∨ s = 3 ∨ s = 4 ∨ s = 5 := by have := size_is h; omega
set_option maxRecDepth 100000 in
theorem length_square {s : Int} (h : sizeOk s = true) : ((squareR s).length : Int) = s * s := by
  rcases size_cases h with rfl | rfl | rfl | rfl | rfl <;> decide
theorem picB_square (s : Int) : picB (squareR s) = true := by
  rcases h : sizeOk s with _ | _
  · rw [square_no h]; exact decide_eq_true pic_nil
  · have h1 := length_square h
    have h2 := size_is h
    refine decide_eq_true ⟨?_, fun a ha => ?_, sorted_square s⟩
    · rcases size_cases h with rfl | rfl | rfl | rfl | rfl <;> omega
    · rw [mem_square h] at ha; unfold InR; omega
theorem square_sum {s : Int} (h : sizeOk s = true) (h4 : s ≤ 4) : sumL (squareR s) (squareR 2) = squareR (s + 1) := by
  have h5 := size_is h
  have h2 : sizeOk 2 = true := rfl
  have hn : sizeOk (s + 1) = true := size_yes (by omega) (by omega)
  refine sorted_ext (sorted_sumL _ _) (sorted_square _) fun x => ?_
  rw [mem_sumL, mem_square hn]
  constructor
  · rintro ⟨a, b, ha, hb, rfl⟩
    rw [mem_square h] at ha
    rw [mem_square h2] at hb
    unfold addS
    simp only []
    omega
  · rintro ⟨k1, k2, k3, k4⟩
    refine ⟨(min x.1 (s - 1), min x.2 (s - 1)), (x.1 - min x.1 (s - 1), x.2 - min x.2 (s - 1)), ?_, ?_, ?_⟩
    · rw [mem_square h]; simp only []; omega
    · rw [mem_square h2]; simp only []; omega
    · unfold addS; apply sp_ext <;> simp only [] <;> omega

/-! ### what is left -/
def openL (p : List Sp) (s : Int) : List Sp := sumL (shrinkL p (squareR s)) (squareR s)
theorem sorted_openL (p : List Sp) (s : Int) : Sorted (openL p s) := sorted_sumL _ _
theorem mem_openL {p : List Sp} {s : Int} (h : sizeOk s = true) {x : Sp} : x ∈ openL p s ↔ ∃ a d : Sp, (∀ d ∈ squareR s, addS d a ∈ p) ∧ d ∈ squareR s ∧ x = addS a d := by
  unfold openL
  rw [mem_sumL]
  constructor
  · rintro ⟨a, d, ha, hd, e⟩; exact ⟨a, d, (mem_shrinkL (square_ne h)).1 ha, hd, e⟩
  · rintro ⟨a, d, ha, hd, e⟩; exact ⟨a, d, (mem_shrinkL (square_ne h)).2 ha, hd, e⟩
theorem open_sub {p : List Sp} {s : Int} (h : sizeOk s = true) : Sub (openL p s) p := opened_sub (square_ne h)
theorem open_mono {p r : List Sp} {s : Int} (h : sizeOk s = true) (k : Sub p r) : Sub (openL p s) (openL r s) := sum_mono (shrink_mono (square_ne h) k)
theorem open_twice {p : List Sp} {s : Int} (hp : Sorted p) (h : sizeOk s = true) : openL (openL p s) s = openL p s := opened_twice hp (square_ne h)
/-- what a greater square leaves a lesser one leaves -/
theorem open_less {p : List Sp} {j k : Int} (hj : sizeOk j = true) (hk : sizeOk k = true) (hjk : j ≤ k) : Sub (openL p k) (openL p j) := fun x hx => by
  obtain ⟨a, d, ha, hd, rfl⟩ := (mem_openL hk).1 hx
  rw [mem_square hk] at hd
  have h1 := size_is hj
  refine (mem_openL hj).2 ⟨(a.1 + min d.1 (k - j), a.2 + min d.2 (k - j)), (d.1 - min d.1 (k - j), d.2 - min d.2 (k - j)), fun e he => ?_, ?_, ?_⟩
  · rw [mem_square hj] at he
    have hm : ((e.1 + min d.1 (k - j), e.2 + min d.2 (k - j)) : Sp) ∈ squareR k := by rw [mem_square hk]; simp only []; omega
    have := ha _ hm
    have e2 : addS (e.1 + min d.1 (k - j), e.2 + min d.2 (k - j)) a = addS e (a.1 + min d.1 (k - j), a.2 + min d.2 (k - j)) := by
      unfold addS; apply sp_ext <;> simp only [] <;> omega
    rw [e2] at this; exact this
  · rw [mem_square hj]; simp only []; omega
  · unfold addS; apply sp_ext <;> simp only [] <;> omega
theorem open_again {p : List Sp} {j k : Int} (hp : Sorted p) (hj : sizeOk j = true) (hk : sizeOk k = true) (hjk : j ≤ k) : openL (openL p k) j = openL p k :=
  sub_both (sorted_openL _ _) (sorted_openL _ _) (open_sub hj) fun x hx => open_less hj hk hjk x (by rw [open_twice hp hk]; exact hx)
theorem open_other {p : List Sp} {j k : Int} (hp : Sorted p) (hj : sizeOk j = true) (hk : sizeOk k = true) (hjk : j ≤ k) : openL (openL p j) k = openL p k :=
  sub_both (sorted_openL _ _) (sorted_openL _ _) (open_mono hk (open_sub hj)) fun x hx => open_mono hk (open_less hj hk hjk) x (by rw [open_twice hp hk]; exact hx)
theorem open_one {p : List Sp} (hp : Sorted p) : openL p 1 = p := by
  have h1 : sizeOk 1 = true := rfl
  refine sub_both (sorted_openL _ _) hp (open_sub h1) fun x hx => (mem_openL h1).2 ⟨x, (0, 0), fun d hd => ?_, zero_square h1, ?_⟩
  · rw [mem_square h1] at hd
    have e : addS d x = x := by unfold addS; apply sp_ext <;> simp only [] <;> omega
    rw [e]; exact hx
  · unfold addS; apply sp_ext <;> simp only [] <;> omega
theorem length_open {p : List Sp} {s : Int} (h : sizeOk s = true) (h0 : openL p s ≠ []) : s * s ≤ ((openL p s).length : Int) := by
  obtain ⟨x, hx⟩ := List.exists_mem_of_ne_nil _ h0
  obtain ⟨a, d, ha, hd, rfl⟩ := (mem_openL h).1 hx
  rw [← length_square h]
  have e : (moved (squareR s) a).length = (squareR s).length := by unfold moved; rw [List.length_map]
  have := length_le_of_sub (sorted_moved (a := a) (sorted_square s)) (sorted_openL p s) fun y hy => by
    obtain ⟨b, hb, rfl⟩ := List.mem_map.1 hy
    exact (mem_openL h).2 ⟨a, b, ha, hb, by unfold addS; apply sp_ext <;> simp only [] <;> omega⟩
  omega

/-! ### what is told -/
def sieveOk (p : List Sp) (s : Int) : Bool := sizeOk s && picB p
def sieveR (p : List Sp) (s : Int) : List Sp := if sieveOk p s then openL p s else []
theorem sieve_no {p : List Sp} {s : Int} (h : sieveOk p s = false) : sieveR p s = [] := by unfold sieveR; rw [h]; rfl
theorem sieve_yes {p : List Sp} {s : Int} (h : sieveOk p s = true) : sieveR p s = openL p s := by unfold sieveR; rw [h]; rfl
theorem sieve_parts {p : List Sp} {s : Int} (h : sieveOk p s = true) : sizeOk s = true ∧ picB p = true := by
  unfold sieveOk at h; rwa [Bool.and_eq_true] at h
theorem pic_sub {p q : List Sp} (hq : picB q = true) (hp : Sorted p) (h : Sub p q) : picB p = true :=
  decide_eq_true ⟨Nat.le_trans (length_le_of_sub hp (picB_pic hq).2.2 h) (picB_pic hq).1, fun a ha => (picB_pic hq).2.1 a (h a ha), hp⟩
theorem pic_open {p : List Sp} {s : Int} (hp : picB p = true) (h : sizeOk s = true) : picB (openL p s) = true := pic_sub hp (sorted_openL _ _) (open_sub h)
theorem pic_shrunk {p : List Sp} {s : Int} (hp : picB p = true) (h : sizeOk s = true) : picB (shrinkL p (squareR s)) = true :=
  pic_sub hp (sorted_shrinkL (picB_pic hp).2.2 _) fun x hx => by
    have := (mem_shrinkL (square_ne h)).1 hx _ (zero_square h)
    have e : addS (0, 0) x = x := by unfold addS; apply sp_ext <;> simp only [] <;> omega
    rwa [e] at this
theorem sieve_shrinks {p : List Sp} {s : Int} (h : sieveOk p s = true) : shrinkOk p (squareR s) = true ∧ shrinkR p (squareR s) = shrinkL p (squareR s) := by
  obtain ⟨h1, h2⟩ := sieve_parts h
  exact shrink_yes h2 (picB_square s) (square_ne h1) (pic_shrunk h2 h1)
theorem sieve_is (p : List Sp) (s : Int) : shrunkGrownOk p (squareR s) = sieveOk p s ∧ shrunkGrownR p (squareR s) = sieveR p s := by
  rcases h : sieveOk p s with _ | _
  · have hno : shrinkOk p (squareR s) = false := by
      unfold sieveOk at h
      rw [Bool.and_eq_false_iff] at h
      rcases h with h | h
      · exact (shrink_no3 (square_no h)).1
      · exact (shrink_no1 h).1
    rw [(shrunkGrown_no hno).1, (shrunkGrown_no hno).2, sieve_no h]
    exact ⟨rfl, rfl⟩
  · obtain ⟨h1, h2⟩ := sieve_parts h
    obtain ⟨k1, k2⟩ := sieve_shrinks h
    have k3 : sumOk (shrinkR p (squareR s)) (squareR s) = true ∧ sumR (shrinkR p (squareR s)) (squareR s) = openL p s := by
      rw [k2]
      exact sum_yes (pic_shrunk h2 h1) (picB_square s) (pic_open h2 h1)
    rw [(shrunkGrown_yes k1).1, (shrunkGrown_yes k1).2, k3.1, k3.2, sieve_yes h]
    exact ⟨rfl, rfl⟩
/-- what the law of SievedBy asks, of each side up to this one -/
structure Sieved7 (p s : List Sp) (k side : Int) : Prop where
  one : sieveOk p k = true
  two : sieveOk s k = true
  three : sieveOk (sieveR p k) side = true
  within : Sub s (sieveR p k)
  picless : picB (sieveR p k) = true
  again : sieveR s k = s
  other : sieveR (sieveR p k) side = s
theorem sieved7 {p : List Sp} {side : Int} (h : sieveOk p side = true) {k : Int} (h1 : 1 ≤ k) (h2 : k ≤ side) : Sieved7 p (sieveR p side) k side := by
  obtain ⟨hs, hp⟩ := sieve_parts h
  have hk : sizeOk k = true := size_yes h1 (by have := size_is hs; omega)
  have hso := (picB_pic hp).2.2
  have o1 : sieveOk p k = true := by unfold sieveOk; rw [hk, hp]; rfl
  rw [sieve_yes h]
  have hps : picB (openL p side) = true := pic_open hp hs
  have hpk : picB (openL p k) = true := pic_open hp hk
  have o2 : sieveOk (openL p side) k = true := by unfold sieveOk; rw [hk, hps]; rfl
  have o3 : sieveOk (openL p k) side = true := by unfold sieveOk; rw [hs, hpk]; rfl
  refine ⟨o1, o2, by rw [sieve_yes o1]; exact o3, by rw [sieve_yes o1]; exact open_less hk hs h2, by rw [sieve_yes o1]; exact hpk, by rw [sieve_yes o2]; exact open_again hso hk hs h2, by rw [sieve_yes o1, sieve_yes o3]; exact open_other hso hk hs h2⟩
theorem sieve_one {p : List Sp} (h : sieveOk p 1 = true) : sieveR p 1 = p := by
  rw [sieve_yes h]
  exact open_one (picB_pic (sieve_parts h).2).2.2
theorem sieve_within {p : List Sp} {side : Int} (h : sieveOk p side = true) : Sub (sieveR p side) p ∧ picB (sieveR p side) = true := by
  rw [sieve_yes h]
  obtain ⟨hs, hp⟩ := sieve_parts h
  exact ⟨open_sub hs, pic_open hp hs⟩

/-! ### sizes, and how many go -/
def leftN (p : List Sp) (k : Nat) : Int := ((openL p (k : Int)).length : Int)
/-- how many are left by the first k sides -/
def sizesUpto (p : List Sp) (k : Nat) : List Int := (List.range k).map fun j => leftN p (j + 1)
def sizesR (p : List Sp) : List Int := if picB p then sizesUpto p 5 else []
theorem sizesUpto_succ (p : List Sp) (k : Nat) : sizesUpto p (k + 1) = sizesUpto p k ++ [leftN p (k + 1)] := by
  unfold sizesUpto
  rw [List.range_succ, List.map_append]; rfl
theorem length_sizesUpto (p : List Sp) (k : Nat) : (sizesUpto p k).length = k := by unfold sizesUpto; rw [List.length_map, List.length_range]
theorem sizes_at {p : List Sp} {n k : Nat} (h : k < n) : (sizesUpto p n)[k]? = some (leftN p (k + 1)) := by
  unfold sizesUpto
  rw [List.getElem?_map, List.getElem?_range h]; rfl
theorem left_less {p : List Sp} {k : Nat} (h1 : 1 ≤ k) (h2 : k + 1 ≤ 5) : leftN p (k + 1) ≤ leftN p k := by
  unfold leftN
  have := length_le_of_sub (sorted_openL p ((k + 1 : Nat) : Int)) (sorted_openL p (k : Int)) (open_less (size_yes (by omega) (by omega)) (size_yes (by omega) (by omega)) (by omega))
  omega
theorem left_first {p : List Sp} (hp : Sorted p) : leftN p 1 = (p.length : Int) := by
  unfold leftN
  rw [show ((1 : Nat) : Int) = 1 from rfl, open_one hp]
theorem left_some {p : List Sp} {k : Nat} (h1 : 1 ≤ k) (h2 : k ≤ 5) (h : 0 < leftN p k) : (k : Int) * (k : Int) ≤ leftN p k := by
  unfold leftN at *
  exact length_open (size_yes (by omega) (by omega)) fun e => by rw [e] at h; simp at h
theorem left_nonneg (p : List Sp) (k : Nat) : 0 ≤ leftN p k := Int.natCast_nonneg _
theorem left_le {p : List Sp} (hp : picB p = true) {k : Nat} (h1 : 1 ≤ k) (h2 : k ≤ 5) : leftN p k ≤ 60 := by
  have := (picB_pic (pic_open (s := (k : Int)) hp (size_yes (by omega) (by omega)))).1
  unfold leftN; omega
/-- how many go at a side -/
def goneN (p : List Sp) (k : Nat) : Int := if k + 1 < 5 then leftN p (k + 1) - leftN p (k + 1 + 1) else leftN p (k + 1)
def goneUpto (p : List Sp) (k : Nat) : List Int := (List.range k).map (goneN p)
def goneR (p : List Sp) : List Int := if picB p then goneUpto p 5 else []
theorem goneUpto_succ (p : List Sp) (k : Nat) : goneUpto p (k + 1) = goneUpto p k ++ [goneN p k] := by
  unfold goneUpto
  rw [List.range_succ, List.map_append]; rfl
theorem length_goneUpto (p : List Sp) (k : Nat) : (goneUpto p k).length = k := by unfold goneUpto; rw [List.length_map, List.length_range]
theorem gone_at {p : List Sp} {n k : Nat} (h : k < n) : (goneUpto p n)[k]? = some (goneN p k) := by
  unfold goneUpto
  rw [List.getElem?_map, List.getElem?_range h]; rfl
theorem gone_nonneg {p : List Sp} {k : Nat} (h : k < 5) : 0 ≤ goneN p k := by
  unfold goneN
  split
  · have := left_less (p := p) (k := k + 1) (by omega) (by omega)
    omega
  · exact left_nonneg _ _
/-- how many have gone at the first k sides -/
def goneSum (p : List Sp) : Nat → Int
  | 0 => 0
  | k + 1 => goneSum p k + goneN p k
theorem goneSum_is {p : List Sp} : ∀ k, k ≤ 4 → goneSum p k = leftN p 1 - leftN p (k + 1)
  | 0, _ => by
    show (0 : Int) = leftN p 1 - leftN p 1
    omega
  | k + 1, h => by
    unfold goneSum goneN
    rw [goneSum_is k (by omega), if_pos (by omega)]
    omega
theorem goneSum_all {p : List Sp} (hp : Sorted p) : goneSum p 5 = (p.length : Int) := by
  have h1 : goneSum p 4 = leftN p 1 - leftN p 5 := goneSum_is (p := p) 4 (Nat.le_refl _)
  have h2 : goneSum p 5 = goneSum p 4 + goneN p 4 := rfl
  have h3 : goneN p 4 = leftN p 5 := rfl
  rw [h2, h3, h1, left_first hp]
  omega
theorem goneSum_rng {p : List Sp} (hp : picB p = true) {k : Nat} (h : k ≤ 5) : 0 ≤ goneSum p k ∧ goneSum p k ≤ 60 := by
  have h1 := left_le hp (k := 1) (by omega) (by omega)
  by_cases e : k ≤ 4
  · have h2 := goneSum_is (p := p) k e
    have h3 := left_nonneg p (k + 1)
    have h4 : leftN p (k + 1) ≤ leftN p 1 := by
      unfold leftN
      have := length_le_of_sub (sorted_openL p ((k + 1 : Nat) : Int)) (sorted_openL p ((1 : Nat) : Int)) (open_less (size_yes (by omega) (by omega)) (size_yes (by omega) (by omega)) (by omega))
      omega
    omega
  · obtain rfl : k = 5 := by omega
    rw [goneSum_all (picB_pic hp).2.2]
    have := (picB_pic hp).1
    omega

/-! ### at which side a spot goes -/
/-- the greatest one of the first k sides by which it is left -/
def sideUpto (p : List Sp) (a : Sp) : Nat → Nat
  | 0 => 0
  | k + 1 => if a ∈ openL p ((k + 1 : Nat) : Int) then k + 1 else sideUpto p a k
def sideR (p : List Sp) (a : Sp) : Int := if picB p then (sideUpto p a 5 : Int) else -1
theorem sideUpto_le (p : List Sp) (a : Sp) : ∀ k, sideUpto p a k ≤ k
  | 0 => Nat.le_refl _
  | k + 1 => by
    unfold sideUpto
    split
    · exact Nat.le_refl _
    · exact Nat.le_trans (sideUpto_le p a k) (Nat.le_succ _)
theorem sideUpto_is {p : List Sp} {a : Sp} : ∀ k, k ≤ 5 → ∀ j : Nat, 1 ≤ j → j ≤ k → (a ∈ openL p (j : Int) ↔ j ≤ sideUpto p a k)
  | 0, _, j, h1, h2 => by omega
  | k + 1, hk, j, h1, h2 => by
    unfold sideUpto
    split
    · rename_i hm
      exact ⟨fun _ => h2, fun _ => open_less (size_yes (by omega) (by omega)) (size_yes (by omega) (by omega)) (by omega) a hm⟩
    · rename_i hm
      by_cases e : j = k + 1
      · subst e
        exact ⟨fun h => absurd h hm, fun h => by have := sideUpto_le p a k; omega⟩
      · exact sideUpto_is k (by omega) j h1 (by omega)
theorem sideR_is {p : List Sp} {a : Sp} (hp : picB p = true) {s : Int} (h1 : 1 ≤ s) (h2 : s ≤ 5) : a ∈ openL p s ↔ s ≤ sideR p a := by
  unfold sideR
  rw [hp, if_pos rfl]
  have := sideUpto_is (p := p) (a := a) 5 (Nat.le_refl _) s.toNat (by omega) (by omega)
  rw [show ((s.toNat : Nat) : Int) = s by omega] at this
  rw [this]
  omega
theorem sideR_zero {p : List Sp} {a : Sp} (hp : picB p = true) : sideR p a = 0 ↔ ¬ a ∈ p := by
  have h1 := sideR_is (a := a) hp (s := 1) (by omega) (by omega)
  rw [open_one (picB_pic hp).2.2] at h1
  rw [h1]
  unfold sideR
  rw [hp, if_pos rfl]
  omega
theorem sideR_rng (p : List Sp) (a : Sp) : -1 ≤ sideR p a ∧ sideR p a ≤ 5 := by
  unfold sideR
  have := sideUpto_le p a 5
  split <;> omega
theorem sideR_neg {p : List Sp} {a : Sp} : sideR p a < 0 ↔ picB p = false := by
  unfold sideR
  rcases picB p with _ | _
  · simp
  · simp
end Go.Proofs.Ytbdmppejflokaaa
