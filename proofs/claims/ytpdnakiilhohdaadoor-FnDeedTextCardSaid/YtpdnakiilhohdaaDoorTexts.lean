/- Texts as lists of bytes: numbers in decimal and read, texts cut and joined. Plain; no program is named. No conditions but those that stand in each theorem. -/
import Derived.Test.YtpdnakiilhohdaaDoorPlain
import GoSem.Core.Code
namespace Go.Proofs.YtpdnakiilhohdaaDoor

/-! ### bytes -/
abbrev Bs := List UInt8
def bs (l : Bs) : ByteArray := ⟨l.toArray⟩
abbrev strV (l : Bs) : Value := .string (bs l)
theorem bs_size (l : Bs) : (bs l).size = l.length := by unfold bs ByteArray.size; simp
theorem bs_append (l m : Bs) : bs l ++ bs m = bs (l ++ m) := by
  apply ByteArray.ext
  simp [bs]
theorem bs_inj {l m : Bs} (h : bs l = bs m) : l = m := by
  have := congrArg (fun b : ByteArray => b.data.toList) h
  simpa [bs] using this
theorem bs_all (b : ByteArray) : ∃ l, b = bs l := ⟨b.data.toList, by apply ByteArray.ext; simp [bs]⟩
theorem bs_extract (l : Bs) (i j : Nat) : (bs l).extract i j = bs ((l.take j).drop i) := by
  apply ByteArray.ext
  rw [ByteArray.data_extract]
  unfold bs
  apply Array.ext'
  simp [List.drop_take]

/-! ### numbers in decimal -/
def digB (n : Nat) : UInt8 := UInt8.ofNat (48 + n)
def natB (n : Nat) : Bs := if _h : n < 10 then [digB n] else natB (n / 10) ++ [digB (n % 10)]
def numB (n : Int) : Bs := if n < 0 then 45 :: natB n.natAbs else natB n.toNat
theorem natB_small {n : Nat} (h : n < 10) : natB n = [digB n] := by rw [natB, dif_pos h]
theorem natB_big {n : Nat} (h : ¬ n < 10) : natB n = natB (n / 10) ++ [digB (n % 10)] := by rw [natB, dif_neg h]
theorem digB_toNat {n : Nat} (h : n < 10) : (digB n).toNat = 48 + n := by
  unfold digB
  rw [UInt8.toNat_ofNat']
  omega
def isDig (b : UInt8) : Bool := decide (48 ≤ b.toNat ∧ b.toNat ≤ 57)
/-- what digits tell, from the left -/
def valD : Bs → Nat → Option Nat
  | [], n => some n
  | b :: l, n => if isDig b then valD l (10 * n + (b.toNat - 48)) else none
theorem valD_append (l m : Bs) : ∀ n, valD (l ++ m) n = (valD l n).bind (valD m) := by
  induction l with
  | nil => intro n; rfl
  | cons b l ih =>
    intro n
    rw [List.cons_append]
    unfold valD
    split
    · exact ih _
    · rfl
theorem valD_natB : ∀ n : Nat, valD (natB n) 0 = some n := fun n => by
  induction n using Nat.strongRecOn with
  | _ n ih =>
    by_cases h : n < 10
    · rw [natB_small h]
      unfold valD valD isDig
      rw [digB_toNat h, if_pos (decide_eq_true (by omega))]
      congr 1; omega
    · rw [natB_big h, valD_append, ih (n / 10) (by omega)]
      have h10 : n % 10 < 10 := Nat.mod_lt _ (by omega)
      show valD [digB (n % 10)] (n / 10) = some n
      unfold valD valD isDig
      rw [digB_toNat h10, if_pos (decide_eq_true (by omega))]
      congr 1; omega
theorem natB_ne (n : Nat) : natB n ≠ [] := by
  by_cases h : n < 10
  · rw [natB_small h]; simp
  · rw [natB_big h]; simp
theorem natB_digits : ∀ n : Nat, ∀ b ∈ natB n, isDig b = true := fun n => by
  induction n using Nat.strongRecOn with
  | _ n ih =>
    intro b hb
    by_cases h : n < 10
    · rw [natB_small h, List.mem_singleton] at hb
      subst hb
      unfold isDig
      rw [digB_toNat h]; exact decide_eq_true (by omega)
    · rw [natB_big h, List.mem_append, List.mem_singleton] at hb
      rcases hb with hb | rfl
      · exact ih (n / 10) (by omega) b hb
      · have h10 : n % 10 < 10 := Nat.mod_lt _ (by omega)
        unfold isDig
        rw [digB_toNat h10]; exact decide_eq_true (by omega)
theorem natB_length : ∀ (k n : Nat), n < 10 ^ (k + 1) → (natB n).length ≤ k + 1 := fun k => by
  induction k with
  | zero =>
    intro n h
    rw [natB_small (by omega)]; simp
  | succ k ih =>
    intro n h
    by_cases h1 : n < 10
    · rw [natB_small h1]; simp
    · rw [natB_big h1, List.length_append]
      have := ih (n / 10) (by rw [Nat.pow_succ] at h; omega)
      simp; omega
theorem natB_head : ∀ n : Nat, 10 ≤ n → ∃ d l, natB n = digB d :: l ∧ 0 < d ∧ d < 10 := fun n => by
  induction n using Nat.strongRecOn with
  | _ n ih =>
    intro h
    rw [natB_big (by omega)]
    by_cases h1 : n / 10 < 10
    · exact ⟨n / 10, [digB (n % 10)], by rw [natB_small h1]; rfl, by omega, h1⟩
    · obtain ⟨d, l, e, h2, h3⟩ := ih (n / 10) (by omega) (by omega)
      exact ⟨d, l ++ [digB (n % 10)], by rw [e]; rfl, h2, h3⟩
/-- one to nine digits, without zeros ahead -/
def digN (l : Bs) : Option Nat := if 1 ≤ l.length ∧ l.length ≤ 9 ∧ ¬ (1 < l.length ∧ l.head? = some 48) then valD l 0 else none
/-- a number as it is read, and whether it is one -/
def digR : Bs → Int × Bool
  | [] => (0, false)
  | b :: l => if b = 45 ∧ l ≠ [] then (-(digR l).1, (digR l).2 && decide (0 < (digR l).1)) else match digN (b :: l) with
    | some n => ((n : Int), true)
    | none => (0, false)
theorem digN_natB {n : Nat} (h : n < 10 ^ 9) : digN (natB n) = some n := by
  unfold digN
  rw [if_pos, valD_natB]
  refine ⟨List.length_pos_iff.2 (natB_ne n), natB_length 8 n h, fun ⟨h1, h2⟩ => ?_⟩
  by_cases hn : n < 10
  · rw [natB_small hn] at h1; simp at h1
  · obtain ⟨d, l, e, d1, d2⟩ := natB_head n (by omega)
    rw [e] at h2
    simp only [List.head?_cons, Option.some.injEq] at h2
    have := congrArg UInt8.toNat h2
    rw [digB_toNat d2] at this
    have e48 : (48 : UInt8).toNat = 48 := rfl
    omega
theorem digR_natB {n : Nat} (h : n < 10 ^ 9) : digR (natB n) = ((n : Int), true) := by
  have hd := digN_natB h
  cases e : natB n with
  | nil => exact absurd e (natB_ne n)
  | cons b l =>
    rw [e] at hd
    unfold digR
    rw [if_neg, hd]
    rintro ⟨hb, _⟩
    have := natB_digits n b (by rw [e]; exact List.mem_cons_self ..)
    rw [hb] at this
    exact absurd this (by decide)
theorem digR_numB {n : Int} (h : -10 ^ 9 < n ∧ n < 10 ^ 9) : digR (numB n) = (n, true) := by
  unfold numB
  split
  · rename_i hn
    unfold digR
    rw [if_pos ⟨rfl, natB_ne _⟩, digR_natB (by omega)]
    simp only [Bool.true_and, Prod.mk.injEq, decide_eq_true_eq]
    omega
  · rw [digR_natB (by omega)]
    simp only [Prod.mk.injEq, and_true]
    omega
theorem numB_bytes (n : Int) : ∀ b ∈ numB n, isDig b = true ∨ b = 45 := fun b hb => by
  unfold numB at hb
  split at hb
  · rcases List.mem_cons.1 hb with rfl | hb
    · exact .inr rfl
    · exact .inl (natB_digits _ b hb)
  · exact .inl (natB_digits _ b hb)
theorem numB_ne (n : Int) : numB n ≠ [] := by
  unfold numB
  split
  · simp
  · exact natB_ne _
theorem numB_inj {a b : Int} (ha : -10 ^ 9 < a ∧ a < 10 ^ 9) (hb : -10 ^ 9 < b ∧ b < 10 ^ 9) (h : numB a = numB b) : a = b := by
  have := digR_numB ha
  rw [h, digR_numB hb] at this
  exact (Prod.mk.inj this).1.symm

/-! ### texts cut and joined -/
/-- what stands between the bytes c -/
def cutB (c : UInt8) : Bs → List Bs
  | [] => [[]]
  | b :: l => if b = c then [] :: cutB c l else match cutB c l with
    | h :: t => (b :: h) :: t
    | [] => [[b]]
theorem cutB_ne (c : UInt8) : ∀ l, cutB c l ≠ []
  | [] => by simp [cutB]
  | b :: l => by
    unfold cutB
    split
    · simp
    · split <;> simp
theorem cutB_none {c : UInt8} : ∀ {l : Bs}, c ∉ l → cutB c l = [l]
  | [], _ => rfl
  | b :: l, h => by
    unfold cutB
    rw [if_neg fun e => h (by rw [e]; exact List.mem_cons_self ..), cutB_none fun k => h (List.mem_cons_of_mem _ k)]
theorem cutB_app {c : UInt8} : ∀ {l : Bs} (m : Bs), c ∉ l → cutB c (l ++ c :: m) = l :: cutB c m
  | [], m, _ => by
    show cutB c (c :: m) = _
    rw [cutB, if_pos rfl]
  | b :: l, m, h => by
    rw [List.cons_append, cutB, if_neg fun e => h (by rw [e]; exact List.mem_cons_self ..), cutB_app m fun k => h (List.mem_cons_of_mem _ k)]
def joinB (c : UInt8) : List Bs → Bs
  | [] => []
  | [l] => l
  | l :: r => l ++ c :: joinB c r
theorem joinB_cons (c : UInt8) (l : Bs) {r : List Bs} (h : r ≠ []) : joinB c (l :: r) = l ++ c :: joinB c r := by
  cases r with
  | nil => exact absurd rfl h
  | cons _ _ => rfl
theorem joinB_snoc (c : UInt8) : ∀ {r : List Bs} (l : Bs), r ≠ [] → joinB c (r ++ [l]) = joinB c r ++ c :: l
  | [], _, h => absurd rfl h
  | [a], l, _ => rfl
  | a :: b :: r, l, _ => by
    rw [List.cons_append, joinB_cons c a (by simp), joinB_snoc c l (by simp), joinB_cons c a (by simp), List.append_assoc, List.cons_append]
theorem cutB_joinB {c : UInt8} : ∀ {r : List Bs}, r ≠ [] → (∀ l ∈ r, c ∉ l) → cutB c (joinB c r) = r
  | [], h, _ => absurd rfl h
  | [l], _, h => cutB_none (h l (by simp))
  | l :: m :: r, _, h => by
    rw [joinB_cons c l (by simp), cutB_app _ (h l (by simp)), cutB_joinB (by simp) fun k hk => h k (List.mem_cons_of_mem _ hk)]
/-- one byte more -/
theorem cutB_snoc (c : UInt8) : ∀ (l : Bs) (b : UInt8), ∃ i e, cutB c l = i ++ [e] ∧ cutB c (l ++ [b]) = if b = c then i ++ [e, []] else i ++ [e ++ [b]]
  | [], b => ⟨[], [], rfl, by
    show cutB c [b] = _
    unfold cutB
    by_cases h : b = c
    · rw [if_pos h, if_pos h]; rfl
    · rw [if_neg h, if_neg h]; rfl⟩
  | a :: l, b => by
    obtain ⟨i, e, h1, h2⟩ := cutB_snoc c l b
    rw [List.cons_append]
    by_cases ha : a = c
    · refine ⟨[] :: i, e, by rw [cutB, if_pos ha, h1]; rfl, ?_⟩
      rw [cutB, if_pos ha, h2]
      split <;> rfl
    · cases i with
      | nil =>
        refine ⟨[], a :: e, by rw [cutB, if_neg ha, h1]; rfl, ?_⟩
        rw [cutB, if_neg ha, h2]
        by_cases hb : b = c
        · rw [if_pos hb, if_pos hb]; rfl
        · rw [if_neg hb, if_neg hb]; rfl
      | cons x i =>
        refine ⟨(a :: x) :: i, e, by rw [cutB, if_neg ha, h1]; rfl, ?_⟩
        rw [cutB, if_neg ha, h2]
        by_cases hb : b = c
        · rw [if_pos hb, if_pos hb]; rfl
        · rw [if_neg hb, if_neg hb]; rfl
end Go.Proofs.YtpdnakiilhohdaaDoor
