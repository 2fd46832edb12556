/- The model's texts cut, and numbers read. No conditions but those typed. -/
import Derived.Test.YtpdnakiilhohdaaDoorTextO
namespace Go.Proofs.YtpdnakiilhohdaaDoor
open Go.RowKit Go.Sort

theorem bs_index {P : Program} {T : TypeId} (hT : P.underlying T = some .string) {l : Bs} {k : Nat} {b : UInt8} (h : l[k]? = some b) (W : World) : (Instr.index T (.string (bs l)) (.int .i64 (k : Int))).run P W = .ok (.int .u8 (b.toNat : Int)) W := by
  have hk := (List.getElem?_eq_some_iff.1 h).1
  have hs : k < (bs l).size := by rw [bs_size]; exact hk
  have e : (bs l)[k]'hs = b := by
    have h2 := (List.getElem?_eq_some_iff.1 h).2
    rw [← h2]
    rfl
  rw [run_index_string W T (bs l) .i64 (k : Int) hT, dif_pos ⟨by omega, by omega⟩]
  simp only [Int.toNat_natCast, e]
theorem u8_eq {a b : UInt8} : ((a.toNat : Int) == (b.toNat : Int)) = decide (a = b) := by
  rw [Bool.eq_iff_iff, beq_iff_eq, decide_eq_true_eq]
  constructor
  · intro h
    exact UInt8.toNat_inj.1 (by omega)
  · intro h; rw [h]
theorem cutB_step {c : UInt8} {l : Bs} {k : Nat} {b : UInt8} (h : l[k]? = some b) {i : List Bs} {e : Bs} (hc : cutB c (l.take k) = i ++ [e]) : cutB c (l.take (k + 1)) = if b = c then i ++ [e] ++ [[]] else i ++ [e ++ [b]] := by
  rw [List.take_add_one, h]
  obtain ⟨i', e', h1, h2⟩ := cutB_snoc c (l.take k) b
  rw [hc] at h1
  obtain ⟨rfl, h3⟩ := List.append_inj' h1 rfl
  obtain rfl : e = e' := by simpa using h3
  rw [Option.toList_some, h2]
  simp
theorem cutB_length (c : UInt8) : ∀ l : Bs, (cutB c l).length ≤ l.length + 1
  | [] => by simp [cutB]
  | b :: l => by
    have ih := cutB_length c l
    unfold cutB
    split
    · simp only [List.length_cons]; omega
    · split
      · rename_i h t e
        rw [e] at ih
        simp only [List.length_cons] at ih ⊢; omega
      · simp
set_option maxRecDepth 100000 in
set_option maxHeartbeats 1600000 in
theorem specCut_any (l : Bs) (c : UInt8) (w : World) (hl : l.length ≤ 1000000000) : Calls Tryd.prog 44 #[.string (bs l), .int .u8 (c.toNat : Int)] w (GivesStrs (cutB c l) w) := by
  have hsz := bs_size l
  have o0 := VOwns.empty 9 w _ (Nat.le_refl _)
  have b0 : Below w.heap.size w (w.alloc (.cells #[] 9)) := (Below.refl _ _).alloc (Nat.le_refl _) _
  go_enter Tryd.func44, Tryd.ntmps44
  go_wp2
  go_loopw [5, 6, 7] (fun o f i wr => ∃ (k m : Nat) (r : List Bs) (e : Bs), m ≤ k ∧ k ≤ l.length ∧ i = .int .i64 (k : Int) ∧ f = .int .i64 (m : Int) ∧ VOwns 9 wr w.heap.size o (strZ r) ∧ cutB c (l.take k) = r ++ [e] ∧ e = (l.take k).drop m ∧ Below w.heap.size w wr) (fun _ _ i _ => l.length - (intOf i).toNat)
  case atStart => exact ⟨0, 0, [], [], Nat.le_refl _, Nat.zero_le _, rfl, rfl, o0, rfl, rfl, b0⟩
  case round =>
    clear o0 b0
    obtain ⟨k, m, r, e, hm, hk, rfl, rfl, own, hcut, he, hb⟩ := hrel
    have hbs := hb.size
    by_cases hlt : k < l.length
    · have hd : decide ((k : Int) < (l.length : Int)) = true := decide_eq_true (by omega)
      obtain ⟨b, hbk⟩ : ∃ b, l[k]? = some b := ⟨_, List.getElem?_eq_getElem hlt⟩
      have hidx := bs_index (P := Tryd.prog) Tryd.underlying9 hbk
      have hst := cutB_step hbk hcut
      have i0 : (0 : Int) ≤ (k : Int) := Int.natCast_nonneg _
      have i1 : (k : Int) < (l.length : Int) := by omega
      have i2 : (m : Int) ≤ (k : Int) := by omega
      have i3 : (0 : Int) ≤ (m : Int) := Int.natCast_nonneg _
      by_cases hbc : b = c
      · have HS := Lib.hid (hst.trans (if_pos hbc))
        have he2 := u8_eq (a := b) (b := c)
        rw [decide_eq_true hbc] at he2
        have hex : (bs l).extract m k = bs e := by rw [bs_extract, he]
        have HE := Lib.hid he
        have ow1 := own.below ((Below.refl _ wr).alloc (Nat.le_refl _) (.cells #[strV e] 9))
        have hrl : r.length ≤ 1000000001 := by
          have h1 := cutB_length c (l.take k)
          rw [hcut, List.length_append, List.length_take] at h1
          omega
        clear hst hbc hcut he
        go_wp2_with (at_builtin; refine wpList_append_Str (g := wr.heap.size) ow1 (x := strV e) (one_new _ _ _) rfl (by rw [strZ_len]; omega) (by simp only [World.size_alloc]; omega) rfl (.tmp 20) (.tmp 25) rfl rfl rfl ?_)
        intro v4 w4 o4 g4 hv4
        rw [← strZ_snoc] at o4
        have bw4 := ow1.below_app (hb.alloc hbs _) (by simp only [World.size_alloc]; omega) g4
        go_wp2
        go_roundw
        case rel => exact ⟨k + 1, k + 1, r ++ [e], [], Nat.le_refl _, by omega, by go_num, by go_num, o4, HS.out, (by rw [List.drop_of_length_le (by rw [List.length_take]; omega)]), bw4⟩
        case measure => simp [intOf]; omega
      · have HS := Lib.hid (hst.trans (if_neg hbc))
        have he2 := u8_eq (a := b) (b := c)
        rw [decide_eq_false hbc] at he2
        have HE := Lib.hid (show e ++ [b] = (l.take (k + 1)).drop m by rw [List.take_add_one, hbk, he, List.drop_append_of_le_length (by rw [List.length_take]; omega)]; rfl)
        clear hst hbc hcut he
        go_wp2
        go_roundw
        case rel => exact ⟨k + 1, m, r, e ++ [b], by omega, by omega, by go_num, rfl, own, HS.out, HE.out, hb⟩
        case measure => simp [intOf]; omega
    · have hd : decide ((k : Int) < (l.length : Int)) = false := decide_eq_false (by omega)
      obtain rfl : k = l.length := by omega
      have i2 : (m : Int) ≤ (l.length : Int) := by omega
      have i3 : (0 : Int) ≤ (m : Int) := Int.natCast_nonneg _
      have et : l.take l.length = l := List.take_length
      rw [et] at hcut he
      have hex : (bs l).extract m l.length = bs e := by rw [bs_extract, et, he]
      have HC := Lib.hid hcut
      have hrl : r.length ≤ 1000000001 := by
        have h1 := cutB_length c l
        rw [hcut, List.length_append] at h1
        omega
      have ow1 := own.below ((Below.refl _ wr).alloc (Nat.le_refl _) (.cells #[strV e] 9))
      clear hcut he et
      go_wp2_with (at_builtin; refine wpList_append_Str (g := wr.heap.size) ow1 (x := strV e) (one_new _ _ _) rfl (by rw [strZ_len]; omega) (by simp only [World.size_alloc]; omega) rfl (.tmp 29) (.tmp 33) rfl rfl rfl ?_)
      intro v4 w4 o4 g4 hv4
      rw [← strZ_snoc, ← HC.out] at o4
      have bw4 := ow1.below_app (hb.alloc hbs _) (by simp only [World.size_alloc]; omega) g4
      go_wp2
      go_ret
      exact ⟨_, rfl, o4, bw4⟩
/-! ### numbers read -/
def GivesNB (n : Int) (b : Bool) (w : World) (e : Ending) (w' : World) : Prop := e = .returned (.tuple #[.int .i64 n, .bool b]) ∧ Below w.heap.size w w'
theorem digR_minus {l : Bs} (h : l ≠ []) : digR (45 :: l) = (-(digR l).1, (digR l).2 && decide (0 < (digR l).1)) := by
  unfold digR
  rw [if_pos ⟨rfl, h⟩]
  cases l with
  | nil => exact absurd rfl h
  | cons b l => rfl
theorem digR_plain {l : Bs} (h : ¬ (1 < l.length ∧ l.head? = some 45)) : digR l = match digN l with
    | some n => ((n : Int), true)
    | none => (0, false) := by
  cases l with
  | nil => rfl
  | cons b l =>
    have hn : ¬ (b = 45 ∧ l ≠ []) := by
      rintro ⟨rfl, h2⟩
      exact h ⟨by
        cases l with
        | nil => exact absurd rfl h2
        | cons _ _ => simp, rfl⟩
    unfold digR
    rw [if_neg hn]
    cases digN (b :: l) <;> rfl
theorem digN_bad {l : Bs} (h : ¬ (1 ≤ l.length ∧ l.length ≤ 9 ∧ ¬ (1 < l.length ∧ l.head? = some 48))) : digN l = none := by unfold digN; rw [if_neg h]
theorem digN_good {l : Bs} (h : 1 ≤ l.length ∧ l.length ≤ 9 ∧ ¬ (1 < l.length ∧ l.head? = some 48)) : digN l = valD l 0 := by unfold digN; rw [if_pos h]
theorem valD_lt : ∀ {l : Bs} {n v : Nat}, valD l n = some v → v < (n + 1) * 10 ^ l.length
  | [], n, v, h => by
    simp only [valD, Option.some.injEq] at h
    simp; omega
  | b :: l, n, v, h => by
    unfold valD at h
    split at h
    · rename_i hb
      have h1 := valD_lt h
      have h2 := of_decide_eq_true hb
      rw [List.length_cons, Nat.pow_succ]
      have h3 : (10 * n + (b.toNat - 48) + 1) * 10 ^ l.length ≤ ((n + 1) * 10) * 10 ^ l.length := Nat.mul_le_mul_right _ (by omega)
      rw [show (n + 1) * (10 ^ l.length * 10) = (n + 1) * 10 * 10 ^ l.length by rw [Nat.mul_comm (10 ^ l.length), Nat.mul_assoc]]
      omega
    · cases h
theorem valD_step {l : Bs} {k v : Nat} {b : UInt8} (h : l[k]? = some b) (hv : valD (l.take k) 0 = some v) : (isDig b = true → valD (l.take (k + 1)) 0 = some (10 * v + (b.toNat - 48))) ∧ (isDig b = false → valD l 0 = none) := by
  have e : l.take (k + 1) = l.take k ++ [b] := by rw [List.take_add_one, h]; rfl
  constructor
  · intro hb
    rw [e, valD_append, hv]
    show valD [b] v = _
    unfold valD valD
    rw [if_pos hb]
  · intro hb
    have e2 : l = l.take k ++ b :: l.drop (k + 1) := by
      have h1 := (List.getElem?_eq_some_iff.1 h).1
      have h2 := (List.getElem?_eq_some_iff.1 h).2
      rw [← h2, ← List.drop_eq_getElem_cons h1, List.take_append_drop]
    rw [e2, valD_append, hv]
    show valD (b :: _) v = none
    unfold valD
    rw [hb]; rfl
theorem digR_range : ∀ l : Bs, -1000000000 < (digR l).1 ∧ (digR l).1 < 1000000000
  | [] => by unfold digR; simp
  | b :: l => by
    have ih := digR_range l
    unfold digR
    split
    · simp only []; omega
    · split
      · rename_i n hn
        unfold digN at hn
        split at hn
        · rename_i hc
          have h1 := valD_lt hn
          have h2 : 10 ^ (b :: l).length ≤ 10 ^ 9 := Nat.pow_le_pow_right (by omega) hc.2.1
          simp only []; omega
        · cases hn
      · simp
theorem inS_lit {n a b : Int} {c : Bool} (h : decide (a ≤ n ∧ n ≤ b) = c) (w : World) : Calls Tryd.prog 37 #[.int .i64 n, .int .i64 a, .int .i64 b] w (Gives (.bool c) w) := by
  subst h; exact l1In_any n a b w
theorem bs_index0 {P : Program} {T : TypeId} (hT : P.underlying T = some .string) {l : Bs} {b : UInt8} {z : Int} (h : l.head? = some b) (hz : (b.toNat : Int) = z) (W : World) : (Instr.index T (.string (bs l)) (.int .i64 0)).run P W = .ok (.int .u8 z) W := by
  subst hz
  exact bs_index hT (k := 0) (by rw [← List.head?_eq_getElem?]; exact h) W
theorem u8_lit {b c : UInt8} {k : Int} (hk : (c.toNat : Int) = k) : ((b.toNat : Int) == k) = decide (b = c) := by
  subst hk; exact u8_eq
set_option maxRecDepth 100000 in
set_option maxHeartbeats 1600000 in
/-- no minus sign ahead -/
theorem digits_plain (l : Bs) (w : World) (hl : l.length ≤ 1000000000) (hm : ¬ (1 < l.length ∧ l.head? = some 45)) : Calls Tryd.prog 45 #[.string (bs l)] w (GivesNB (digR l).1 (digR l).2 w) := by
  have hR0 := digR_plain hm
  have hsz := bs_size l
  by_cases hc : 1 ≤ l.length ∧ l.length ≤ 9 ∧ ¬ (1 < l.length ∧ l.head? = some 48)
  · rw [digN_good hc] at hR0
    have hR := Lib.hid hR0
    have cc := Lib.hid (fun W => inS_lit (n := (l.length : Int)) (a := 1) (b := 9) (c := true) (decide_eq_true (by omega)) W)
    have hl9 := hc.2.1
    clear hR0
    by_cases h2 : 1 < l.length
    · obtain ⟨b0, hb0⟩ : ∃ b, l.head? = some b := by
        cases l with
        | nil => simp at h2
        | cons b _ => exact ⟨b, rfl⟩
      have q45 := u8_lit (b := b0) (c := 45) (k := 45) rfl
      have q48 := u8_lit (b := b0) (c := 48) (k := 48) rfl
      rw [decide_eq_false (fun e => hm ⟨h2, by rw [hb0, e]⟩)] at q45
      rw [decide_eq_false (fun e => hc.2.2 ⟨h2, by rw [hb0, e]⟩)] at q48
      obtain ⟨y, hy⟩ : ∃ y : Int, (b0.toNat : Int) = y := ⟨_, rfl⟩
      have hi0 := bs_index0 (P := Tryd.prog) Tryd.underlying9 hb0 hy
      rw [hy] at q45 q48
      have hd0 : decide ((1 : Int) < (l.length : Int)) = true := decide_eq_true (by omega)
      have j1 : (1 : Int) < (l.length : Int) := by omega
      clear hm hc h2 hb0 hy
      go_enter Tryd.func45, Tryd.ntmps45
      go_wp2_with fail
      refine (cc.out _).mono ?_
      rintro e w1 ⟨rfl, b1⟩
      go_wp2
      go_loopw [6, 7] (fun n i wr => ∃ k v : Nat, k ≤ l.length ∧ i = .int .i64 (k : Int) ∧ n = .int .i64 (v : Int) ∧ valD (l.take k) 0 = some v ∧ Below w.heap.size w wr) (fun _ i _ => l.length - (intOf i).toNat)
      case atStart => exact ⟨0, 0, Nat.zero_le _, rfl, rfl, rfl, b1⟩
      case round =>
        clear b1
        obtain ⟨k, v, hk, rfl, rfl, hv, hb⟩ := hrel
        by_cases hlt : k < l.length
        · have hd : decide ((k : Int) < (l.length : Int)) = true := decide_eq_true (by omega)
          obtain ⟨b, hbk⟩ : ∃ b, l[k]? = some b := ⟨_, List.getElem?_eq_getElem hlt⟩
          have hix := bs_index (P := Tryd.prog) Tryd.underlying9 hbk
          obtain ⟨hs1, hs2⟩ := valD_step hbk hv
          have hvl : v < 1 * 10 ^ (l.take k).length := valD_lt hv
          have hvb : v < 100000000 := by
            have h1 : 10 ^ (l.take k).length ≤ 10 ^ 8 := Nat.pow_le_pow_right (by omega) (by rw [List.length_take]; omega)
            omega
          have hb255 : b.toNat < 256 := UInt8.toNat_lt b
          obtain ⟨z, hz⟩ : ∃ z : Int, (b.toNat : Int) = z := ⟨_, rfl⟩
          rw [hz] at hix
          have HZ := Lib.hid hz
          have z1 : 0 ≤ z := by omega
          have z2 : z ≤ 255 := by omega
          have i0 : (0 : Int) ≤ (k : Int) := Int.natCast_nonneg _
          have i1 : (k : Int) < (l.length : Int) := by omega
          have v0 : (0 : Int) ≤ (v : Int) := Int.natCast_nonneg _
          have v1 : (v : Int) < 100000000 := by omega
          by_cases hd1 : z < 48
          · have HN := Lib.hid (hs2 (by unfold isDig; exact decide_eq_false (by omega)))
            have g1 : decide (z < 48) = true := decide_eq_true hd1
            clear hs1 hs2 hv hz hvl hvb hbk
            go_wp2
            go_ret2
            exact ⟨by rw [hR.out, HN.out]; rfl, hb⟩
          · have g1 : decide (z < 48) = false := decide_eq_false hd1
            by_cases hd2 : 57 < z
            · have HN := Lib.hid (hs2 (by unfold isDig; exact decide_eq_false (by omega)))
              have g2 : decide (57 < z) = true := decide_eq_true hd2
              clear hs1 hs2 hv hz hvl hvb hbk
              go_wp2
              go_ret2
              exact ⟨by rw [hR.out, HN.out]; rfl, hb⟩
            · have HV := Lib.hid (hs1 (by unfold isDig; exact decide_eq_true (by omega)))
              have g2 : decide (57 < z) = false := decide_eq_false hd2
              have z3 : 48 ≤ z := by omega
              have z4 : z ≤ 57 := by omega
              clear hs1 hs2 hv hz hvl hvb hbk
              go_wp2
              go_roundw
              case rel => exact ⟨k + 1, _, by omega, by go_num, (int_is (by have := HZ.out; push_cast; omega)), HV.out, hb⟩
              case measure => simp [intOf]; omega
        · have hd : decide ((k : Int) < (l.length : Int)) = false := decide_eq_false (by omega)
          obtain rfl : k = l.length := by omega
          rw [List.take_length] at hv
          have HV := Lib.hid hv
          clear hv
          go_wp2
          go_ret2
          exact ⟨by rw [hR.out, HV.out]; rfl, hb⟩
    · have hd0 : decide ((1 : Int) < (l.length : Int)) = false := decide_eq_false (by omega)
      clear hm hc h2
      go_enter Tryd.func45, Tryd.ntmps45
      go_wp2_with fail
      refine (cc.out _).mono ?_
      rintro e w1 ⟨rfl, b1⟩
      go_wp2
      go_loopw [6, 7] (fun n i wr => ∃ k v : Nat, k ≤ l.length ∧ i = .int .i64 (k : Int) ∧ n = .int .i64 (v : Int) ∧ valD (l.take k) 0 = some v ∧ Below w.heap.size w wr) (fun _ i _ => l.length - (intOf i).toNat)
      case atStart => exact ⟨0, 0, Nat.zero_le _, rfl, rfl, rfl, b1⟩
      case round =>
        clear b1
        obtain ⟨k, v, hk, rfl, rfl, hv, hb⟩ := hrel
        by_cases hlt : k < l.length
        · have hd : decide ((k : Int) < (l.length : Int)) = true := decide_eq_true (by omega)
          obtain ⟨b, hbk⟩ : ∃ b, l[k]? = some b := ⟨_, List.getElem?_eq_getElem hlt⟩
          have hix := bs_index (P := Tryd.prog) Tryd.underlying9 hbk
          obtain ⟨hs1, hs2⟩ := valD_step hbk hv
          have hvl : v < 1 * 10 ^ (l.take k).length := valD_lt hv
          have hvb : v < 100000000 := by
            have h1 : 10 ^ (l.take k).length ≤ 10 ^ 8 := Nat.pow_le_pow_right (by omega) (by rw [List.length_take]; omega)
            omega
          have hb255 : b.toNat < 256 := UInt8.toNat_lt b
          obtain ⟨z, hz⟩ : ∃ z : Int, (b.toNat : Int) = z := ⟨_, rfl⟩
          rw [hz] at hix
          have HZ := Lib.hid hz
          have z1 : 0 ≤ z := by omega
          have z2 : z ≤ 255 := by omega
          have i0 : (0 : Int) ≤ (k : Int) := Int.natCast_nonneg _
          have i1 : (k : Int) < (l.length : Int) := by omega
          have v0 : (0 : Int) ≤ (v : Int) := Int.natCast_nonneg _
          have v1 : (v : Int) < 100000000 := by omega
          by_cases hd1 : z < 48
          · have HN := Lib.hid (hs2 (by unfold isDig; exact decide_eq_false (by omega)))
            have g1 : decide (z < 48) = true := decide_eq_true hd1
            clear hs1 hs2 hv hz hvl hvb hbk
            go_wp2
            go_ret2
            exact ⟨by rw [hR.out, HN.out]; rfl, hb⟩
          · have g1 : decide (z < 48) = false := decide_eq_false hd1
            by_cases hd2 : 57 < z
            · have HN := Lib.hid (hs2 (by unfold isDig; exact decide_eq_false (by omega)))
              have g2 : decide (57 < z) = true := decide_eq_true hd2
              clear hs1 hs2 hv hz hvl hvb hbk
              go_wp2
              go_ret2
              exact ⟨by rw [hR.out, HN.out]; rfl, hb⟩
            · have HV := Lib.hid (hs1 (by unfold isDig; exact decide_eq_true (by omega)))
              have g2 : decide (57 < z) = false := decide_eq_false hd2
              have z3 : 48 ≤ z := by omega
              have z4 : z ≤ 57 := by omega
              clear hs1 hs2 hv hz hvl hvb hbk
              go_wp2
              go_roundw
              case rel => exact ⟨k + 1, _, by omega, by go_num, (int_is (by have := HZ.out; push_cast; omega)), HV.out, hb⟩
              case measure => simp [intOf]; omega
        · have hd : decide ((k : Int) < (l.length : Int)) = false := decide_eq_false (by omega)
          obtain rfl : k = l.length := by omega
          rw [List.take_length] at hv
          have HV := Lib.hid hv
          clear hv
          go_wp2
          go_ret2
          exact ⟨by rw [hR.out, HV.out]; rfl, hb⟩
  · rw [digN_bad hc] at hR0
    rw [hR0]
    clear hR0
    by_cases h1 : 1 ≤ l.length ∧ l.length ≤ 9
    · have h2 : 1 < l.length ∧ l.head? = some 48 := by
        by_cases h : 1 < l.length ∧ l.head? = some 48
        · exact h
        · exact absurd ⟨h1.1, h1.2, h⟩ hc
      have hi0 := bs_index0 (P := Tryd.prog) Tryd.underlying9 (z := 48) h2.2 rfl
      have hd1 : decide ((1 : Int) < (l.length : Int)) = true := decide_eq_true (by omega)
      have i1 : (1 : Int) < (l.length : Int) := by omega
      have cc := Lib.hid (fun W => inS_lit (n := (l.length : Int)) (a := 1) (b := 9) (c := true) (decide_eq_true (by omega)) W)
      clear hm hc h1 h2
      go_enter Tryd.func45, Tryd.ntmps45
      go_wp2_with fail
      refine (cc.out _).mono ?_
      rintro e w1 ⟨rfl, b1⟩
      go_wp2
      go_ret2
      exact ⟨rfl, b1⟩
    · have cc := Lib.hid (fun W => inS_lit (n := (l.length : Int)) (a := 1) (b := 9) (c := false) (decide_eq_false (by omega)) W)
      by_cases h2 : 1 < l.length
      · obtain ⟨b0, hb0⟩ : ∃ b, l.head? = some b := by
          cases l with
          | nil => simp at h2
          | cons b _ => exact ⟨b, rfl⟩
        have q45 := u8_lit (b := b0) (c := 45) (k := 45) rfl
        rw [decide_eq_false (fun e => hm ⟨h2, by rw [hb0, e]⟩)] at q45
        obtain ⟨y, hy⟩ : ∃ y : Int, (b0.toNat : Int) = y := ⟨_, rfl⟩
        have hi0 := bs_index0 (P := Tryd.prog) Tryd.underlying9 hb0 hy
        rw [hy] at q45
        have hd0 : decide ((1 : Int) < (l.length : Int)) = true := decide_eq_true (by omega)
        have j1 : (1 : Int) < (l.length : Int) := by omega
        clear hm hc h1 h2 hb0 hy
        go_enter Tryd.func45, Tryd.ntmps45
        go_wp2_with fail
        refine (cc.out _).mono ?_
        rintro e w1 ⟨rfl, b1⟩
        go_wp2
        go_ret2
        exact ⟨rfl, b1⟩
      · have hd0 : decide ((1 : Int) < (l.length : Int)) = false := decide_eq_false (by omega)
        clear hm hc h1 h2
        go_enter Tryd.func45, Tryd.ntmps45
        go_wp2_with fail
        refine (cc.out _).mono ?_
        rintro e w1 ⟨rfl, b1⟩
        go_wp2
        go_ret2
        exact ⟨rfl, b1⟩
set_option maxRecDepth 100000 in
set_option maxHeartbeats 1600000 in
theorem specDigits_any : ∀ (l : Bs), l.length ≤ 1000000000 → ∀ w : World, Calls Tryd.prog 45 #[.string (bs l)] w (GivesNB (digR l).1 (digR l).2 w)
  | [], hl, w => digits_plain [] w hl (by simp)
  | b :: l, hl, w => by
    by_cases hm : 1 < (b :: l).length ∧ (b :: l).head? = some 45
    · obtain ⟨h1, h2⟩ := hm
      obtain rfl : b = 45 := by simpa using h2
      have hl' : l.length ≤ 1000000000 := by rw [List.length_cons] at hl; omega
      have h0 : l ≠ [] := by intro e; rw [e] at h1; simp at h1
      have IH := Lib.hid (fun W => specDigits_any l hl' W)
      rw [digR_minus h0]
      obtain ⟨r1, r2⟩ := digR_range l
      have hsz : (bs (45 :: l)).size = l.length + 1 := by rw [bs_size]; rfl
      have hi0 := bs_index0 (P := Tryd.prog) Tryd.underlying9 (l := 45 :: l) (z := 45) rfl rfl
      have hex : (bs (45 :: l)).extract 1 (l.length + 1) = bs l := by rw [bs_extract]; simp
      have j1 : (1 : Int) < ((l.length : Int) + 1) := by rw [List.length_cons] at h1; omega
      have hd0 : decide ((1 : Int) < (l.length : Int) + 1) = true := decide_eq_true j1
      generalize hB : bs (45 :: l) = B at *
      obtain ⟨n, hn⟩ : ∃ n, (digR l).1 = n := ⟨_, rfl⟩
      obtain ⟨o, ho⟩ : ∃ o, (digR l).2 = o := ⟨_, rfl⟩
      rw [hn] at r1 r2
      rw [hn, ho] at IH ⊢
      clear h1 h2 hl hl' h0 hB hn ho
      go_enter Tryd.func45, Tryd.ntmps45
      go_wp2_with fail
      refine (IH.out _).mono ?_
      rintro e w1 ⟨rfl, b1⟩
      cases o with
      | false =>
        go_wp2
        go_ret2
        exact ⟨rfl, b1⟩
      | true =>
        by_cases hn0 : 0 < n
        · have g0 : decide (0 < n) = true := decide_eq_true hn0
          go_wp2
          go_ret2
          exact ⟨by rw [g0]; rfl, b1⟩
        · have g0 : decide (0 < n) = false := decide_eq_false hn0
          go_wp2
          go_ret2
          exact ⟨by rw [g0]; rfl, b1⟩
    · exact digits_plain _ w hl hm
end Go.Proofs.YtpdnakiilhohdaaDoor
