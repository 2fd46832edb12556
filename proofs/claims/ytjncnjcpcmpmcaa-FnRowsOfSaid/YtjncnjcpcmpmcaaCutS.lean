/- The model's texts cut, and numbers read. No conditions but those typed. -/
import Derived.Test.YtjncnjcpcmpmcaaTextO
namespace Go.Proofs.Ytjncnjcpcmpmcaa
open Go.RowKit Go.Sort

theorem bs_index {P : Program} {T : TypeId} (hT : P.underlying T = some .string) {l : Bs} {k : Nat} {b : UInt8} (h : l[k]? = some b) (W : World) : (Instr.index T (.string (bs l)) (.int .i64 (k : Int))).run P W = .ok (.int .u8 (b.toNat : Int)) W := by
  have hk := (List.getElem?_eq_some_iff.1 h).1
  have hs : k < (bs l).size := by rw [bs_size]; exact hk
  have e : (bs l)[k]'hs = b := by
    have h2 := (List.getElem?_eq_some_iff.1 h).2
    rw [← h2]
    rfl
  rw [run_index_string W T (bs l) .i64 (k : Int) hT, dif_pos ⟨by omega, by omega⟩]
  simp only [Int.toNat_natCast, e]
theorem u8_eq {a b : UInt8} : ((a.toNat : Int) == (b.toNat : Int)) = decide (a = b) := by
  rw [Bool.eq_iff_iff, beq_iff_eq, decide_eq_true_eq]
  constructor
  · intro h
    exact UInt8.toNat_inj.1 (by omega)
  · intro h; rw [h]
theorem cutB_step {c : UInt8} {l : Bs} {k : Nat} {b : UInt8} (h : l[k]? = some b) {i : List Bs} {e : Bs} (hc : cutB c (l.take k) = i ++ [e]) : cutB c (l.take (k + 1)) = if b = c then i ++ [e] ++ [[]] else i ++ [e ++ [b]] := by
  rw [List.take_add_one, h]
  obtain ⟨i', e', h1, h2⟩ := cutB_snoc c (l.take k) b
  rw [hc] at h1
  obtain ⟨rfl, h3⟩ := List.append_inj' h1 rfl
  obtain rfl : e = e' := by simpa using h3
  rw [Option.toList_some, h2]
  simp
theorem cutB_length (c : UInt8) : ∀ l : Bs, (cutB c l).length ≤ l.length + 1
  | [] => by simp [cutB]
  | b :: l => by
    have ih := cutB_length c l
    unfold cutB
    split
    · simp only [List.length_cons]; omega
    · split
      · rename_i h t e
        rw [e] at ih
        simp only [List.length_cons] at ih ⊢; omega
      · simp
/-! ### numbers read -/
def GivesNB (n : Int) (b : Bool) (w : World) (e : Ending) (w' : World) : Prop := e = .returned (.tuple #[.int .i64 n, .bool b]) ∧ Below w.heap.size w w'
theorem digR_minus {l : Bs} (h : l ≠ []) : digR (45 :: l) = (-(digR l).1, (digR l).2 && decide (0 < (digR l).1)) := by
  unfold digR
  rw [if_pos ⟨rfl, h⟩]
  cases l with
  | nil => exact absurd rfl h
  | cons b l => rfl
theorem digR_plain {l : Bs} (h : ¬ (1 < l.length ∧ l.head? = some 45)) : digR l = match digN l with
    | some n => ((n : Int), true)
    | none => (0, false) := by
  cases l with
  | nil => rfl
  | cons b l =>
    have hn : ¬ (b = 45 ∧ l ≠ []) := by
      rintro ⟨rfl, h2⟩
      exact h ⟨by
        cases l with
        | nil => exact absurd rfl h2
        | cons _ _ => simp, rfl⟩
    unfold digR
    rw [if_neg hn]
    cases digN (b :: l) <;> rfl
theorem digN_bad {l : Bs} (h : ¬ (1 ≤ l.length ∧ l.length ≤ 9 ∧ ¬ (1 < l.length ∧ l.head? = some 48))) : digN l = none := by unfold digN; rw [if_neg h]
theorem digN_good {l : Bs} (h : 1 ≤ l.length ∧ l.length ≤ 9 ∧ ¬ (1 < l.length ∧ l.head? = some 48)) : digN l = valD l 0 := by unfold digN; rw [if_pos h]
theorem valD_lt : ∀ {l : Bs} {n v : Nat}, valD l n = some v → v < (n + 1) * 10 ^ l.length
  | [], n, v, h => by
    simp only [valD, Option.some.injEq] at h
    simp; omega
  | b :: l, n, v, h => by
    unfold valD at h
    split at h
    · rename_i hb
      have h1 := valD_lt h
      have h2 := of_decide_eq_true hb
      rw [List.length_cons, Nat.pow_succ]
      have h3 : (10 * n + (b.toNat - 48) + 1) * 10 ^ l.length ≤ ((n + 1) * 10) * 10 ^ l.length := Nat.mul_le_mul_right _ (by omega)
      rw [show (n + 1) * (10 ^ l.length * 10) = (n + 1) * 10 * 10 ^ l.length by rw [Nat.mul_comm (10 ^ l.length), Nat.mul_assoc]]
      omega
    · cases h
theorem valD_step {l : Bs} {k v : Nat} {b : UInt8} (h : l[k]? = some b) (hv : valD (l.take k) 0 = some v) : (isDig b = true → valD (l.take (k + 1)) 0 = some (10 * v + (b.toNat - 48))) ∧ (isDig b = false → valD l 0 = none) := by
  have e : l.take (k + 1) = l.take k ++ [b] := by rw [List.take_add_one, h]; rfl
  constructor
  · intro hb
    rw [e, valD_append, hv]
    show valD [b] v = _
    unfold valD valD
    rw [if_pos hb]
  · intro hb
    have e2 : l = l.take k ++ b :: l.drop (k + 1) := by
      have h1 := (List.getElem?_eq_some_iff.1 h).1
      have h2 := (List.getElem?_eq_some_iff.1 h).2
      rw [← h2, ← List.drop_eq_getElem_cons h1, List.take_append_drop]
    rw [e2, valD_append, hv]
    show valD (b :: _) v = none
    unfold valD
    rw [hb]; rfl
theorem digR_range : ∀ l : Bs, -1000000000 < (digR l).1 ∧ (digR l).1 < 1000000000
  | [] => by unfold digR; simp
  | b :: l => by
    have ih := digR_range l
    unfold digR
    split
    · simp only []; omega
    · split
      · rename_i n hn
        unfold digN at hn
        split at hn
        · rename_i hc
          have h1 := valD_lt hn
          have h2 : 10 ^ (b :: l).length ≤ 10 ^ 9 := Nat.pow_le_pow_right (by omega) hc.2.1
          simp only []; omega
        · cases hn
      · simp
theorem inS_lit {n a b : Int} {c : Bool} (h : decide (a ≤ n ∧ n ≤ b) = c) (w : World) : Calls Try.prog 43 #[.int .i64 n, .int .i64 a, .int .i64 b] w (Gives (.bool c) w) := by
  subst h; exact l1In_any n a b w
theorem bs_index0 {P : Program} {T : TypeId} (hT : P.underlying T = some .string) {l : Bs} {b : UInt8} {z : Int} (h : l.head? = some b) (hz : (b.toNat : Int) = z) (W : World) : (Instr.index T (.string (bs l)) (.int .i64 0)).run P W = .ok (.int .u8 z) W := by
  subst hz
  exact bs_index hT (k := 0) (by rw [← List.head?_eq_getElem?]; exact h) W
theorem u8_lit {b c : UInt8} {k : Int} (hk : (c.toNat : Int) = k) : ((b.toNat : Int) == k) = decide (b = c) := by
  subst hk; exact u8_eq
end Go.Proofs.Ytjncnjcpcmpmcaa
