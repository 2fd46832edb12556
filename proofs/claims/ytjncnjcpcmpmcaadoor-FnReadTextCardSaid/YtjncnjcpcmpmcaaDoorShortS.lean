/- The model's ShortRow. No conditions but those typed. -/
import Derived.Test.YtjncnjcpcmpmcaaDoorCutS
import Derived.BigQuiet
namespace Go.Proofs.YtjncnjcpcmpmcaaDoor
open Go.RowKit Go.Sort

theorem bs_byte {l : Bs} {k : Nat} {b : UInt8} (h : l[k]? = some b) : (bs l).extract k (k + 1) = bs [b] := by
  have hk := (List.getElem?_eq_some_iff.1 h).1
  rw [bs_extract, List.take_add_one, h, List.drop_append_of_le_length (by rw [List.length_take]; omega), List.drop_of_length_le (by rw [List.length_take]; omega)]
  rfl
theorem numS_lit {n : Int} {l : Bs} (h : -1000000 < n ∧ n < 1000000) (hl : numB n = l) (w : World) : Calls Tryd.prog 41 #[.int .i64 n] w (Gives (.string (bs l)) w) := by
  subst hl; exact specNumber_any n h w
theorem numB_nat (n : Nat) : numB (n : Int) = natB n := by
  unfold numB
  rw [if_neg (by omega)]; rfl
theorem drop_at {l : Bs} {k : Nat} {b : UInt8} (h : l[k]? = some b) : l.drop k = b :: l.drop (k + 1) := by
  have hk := (List.getElem?_eq_some_iff.1 h).1
  rw [← (List.getElem?_eq_some_iff.1 h).2]
  exact List.drop_eq_getElem_cons hk
/-- one sign more: the last one; another one behind it; the same one behind it -/
theorem enc_last {l : Bs} {k t : Nat} {b : UInt8} (h : l[k]? = some b) (hl : k + 1 = l.length) : encF t (l.drop k) = emit (t + 1) b := by
  rw [drop_at h, List.drop_of_length_le (by omega), encF]
theorem enc_other {l : Bs} {k t : Nat} {b c : UInt8} (h : l[k]? = some b) (hc : l[k + 1]? = some c) (hne : c ≠ b) : encF t (l.drop k) = emit (t + 1) b ++ encF 0 (l.drop (k + 1)) := by
  rw [drop_at h, drop_at hc, encF, if_neg hne]
theorem enc_same {l : Bs} {k t : Nat} {b c : UInt8} (h : l[k]? = some b) (hc : l[k + 1]? = some c) (he : c = b) : encF t (l.drop k) = encF (t + 1) (l.drop (k + 1)) := by
  rw [drop_at h, drop_at hc, encF, if_pos he]
theorem emit_one (b : UInt8) : emit (0 + 1) b = [b] := by unfold emit; rfl
theorem emit_more {t : Nat} (h : 0 < t) (b : UInt8) : emit (t + 1) b = natB (t + 1) ++ [b] := by unfold emit; rw [if_pos (by omega)]

set_option maxRecDepth 100000 in
set_option maxHeartbeats 3200000 in
theorem specShort_any (l : Bs) (w : World) (hl : l.length ≤ 1000000000) : Calls Tryd.prog 25 #[.string (bs l)] w (Gives (.string (bs (shortR l))) w) := by
  have hsz := bs_size l
  by_cases h61 : 1 ≤ l.length ∧ l.length ≤ 61
  · have cc := Lib.hid (fun W => inS_lit (n := (l.length : Int)) (a := 1) (b := 61) (c := true) (decide_eq_true (by omega)) W)
    obtain ⟨h61a, h61b⟩ := h61
    have hel := encF_length (l := l) (t := 0) (by omega)
    go_enter Tryd.func25, Tryd.ntmps25
    go_wp2_with fail
    refine (cc.out _).mono ?_
    rintro e w1 ⟨rfl, b1⟩
    go_wp2
    go_loopw [3, 4, 5] (fun s n i wr => ∃ (k t : Nat) (o : Bs), k ≤ l.length ∧ t ≤ k ∧ i = .int .i64 (k : Int) ∧ n = .int .i64 (t : Int) ∧ s = .string (bs o) ∧ o ++ encF t (l.drop k) = encF 0 l ∧ (∀ b ∈ l.take k, isSign b = true) ∧ Below w.heap.size w wr) (fun _ _ i _ => l.length - (intOf i).toNat)
    case atStart => exact ⟨0, 0, [], Nat.zero_le _, Nat.le_refl _, rfl, rfl, rfl, rfl, by simp, b1⟩
    case round =>
      clear b1 cc
      obtain ⟨k, t, o, hk, htk, rfl, rfl, rfl, hinv, hall, hb⟩ := hrel
      have lo : o.length ≤ 61 := by
        have := congrArg List.length hinv
        rw [List.length_append] at this
        omega
      have hinv := Lib.hid hinv
      by_cases hlt : k < l.length
      · have hd : decide ((k : Int) < (l.length : Int)) = true := decide_eq_true (by omega)
        obtain ⟨b, hbk⟩ : ∃ b, l[k]? = some b := ⟨_, List.getElem?_eq_getElem hlt⟩
        have i0 : (0 : Int) ≤ (k : Int) := Int.natCast_nonneg _
        have i1 : (k : Int) < (l.length : Int) := by omega
        by_cases hbs : b = 35 ∨ b = 46
        · have hsg : isSign b = true := decide_eq_true hbs
          have HA := Lib.hid (show ∀ c ∈ l.take (k + 1), isSign c = true from fun c hc => by
            rw [List.take_add_one, hbk, List.mem_append] at hc
            rcases hc with hc | hc
            · exact hall c hc
            · rw [Option.toList_some, List.mem_singleton] at hc
              rw [hc]; exact hsg)
          have hix := bs_index (P := Tryd.prog) Tryd.underlying9 hbk
          have h35 := u8_lit (b := b) (c := 35) (k := 35) rfl
          have h46 := u8_lit (b := b) (c := 46) (k := 46) rfl
          have hex := bs_byte hbk
          obtain ⟨z, hz⟩ : ∃ z : Int, (b.toNat : Int) = z := ⟨_, rfl⟩
          rw [hz] at hix h35 h46
          clear hall hel hsg
          by_cases hb35 : b = 35
          · rw [decide_eq_true hb35] at h35
            have n35 : (z != 35) = false := by simp [bne, h35]
            clear hbs h46 hb35
            go_wp2
            by_cases hlast : k + 1 = l.length
            · have h1 : encF t (l.drop k) = emit (t + 1) b ++ encF 0 (l.drop (k + 1)) := by
                rw [enc_last hbk hlast, List.drop_of_length_le (by omega)]
                simp [encF]
              have g : ((k : Int) + 1 == (l.length : Int)) = true := by rw [beq_iff_eq]; omega
              have hex := (show (bs l).extract k l.length = bs [b] by rw [← hlast]; exact hex)
              have HL := Lib.hid hlast
              have h2 := trivial
              clear hbk hlast
              go_wp2
              refine wp_region_quiet_below (by kernel_rfl) (by kernel_rfl) ?_
              repeat (go_big_quiet_step (first | fail))
              refine wpQuiet_nil ?_
              intro w3 hw'
              obtain ⟨⟨dq, osq⟩, hw''⟩ := hw'
              have hq : Below wr.heap.size wr w3 := by rw [hw'']; exact below_regrown _ _ _
              clear hw'' dq osq
              have hb := below_step hb hq
              clear hq
              by_cases ht0 : t = 0
              · subst ht0
                have HE := Lib.hid (show o ++ [b] ++ encF 0 (l.drop (k + 1)) = encF 0 l by rw [← hinv.out, h1, emit_one, List.append_assoc])
                have ha := add_two (P := Tryd.prog) o [b] (by omega) (by simp)
                clear h1 h2
                go_wp2
                go_roundw
                case rel => exact ⟨k + 1, 0, o ++ [b], by omega, by omega, (by first | go_num | exact int_is (by have := HL.out; omega)), rfl, rfl, HE.out, HA.out, hb⟩
                case measure => simp [intOf]; omega
              · have g0 : decide ((1 : Int) < (t : Int) + 1) = true := decide_eq_true (by omega)
                have g1 : (1 : Int) < (t : Int) + 1 := by omega
                have HE := Lib.hid (show o ++ natB (t + 1) ++ [b] ++ encF 0 (l.drop (k + 1)) = encF 0 l by rw [← hinv.out, h1, emit_more (by omega)]; simp)
                have cc := Lib.hid (fun W => numS_lit (n := (t : Int) + 1) (l := natB (t + 1)) (by omega) (by have := numB_nat (t + 1); rw [Int.natCast_add] at this; exact this) W)
                have ln := natB_length 1 (t + 1) (by omega)
                generalize natB (t + 1) = X at *
                obtain ⟨o1, ho1⟩ : ∃ m, o ++ X = m := ⟨_, rfl⟩
                have ha1 := add_two (P := Tryd.prog) o X (by omega) (by omega)
                have lo1 : o1.length ≤ 100 := by rw [← ho1, List.length_append]; omega
                have ha2 := add_two (P := Tryd.prog) o1 [b] (by omega) (by simp)
                rw [ho1] at ha1
                have HO := Lib.hid ho1
                clear h1 h2 ho1
                go_wp2_with fail
                refine (cc.out _).mono ?_
                rintro e w6 ⟨rfl, b6⟩
                have hb := below_step hb b6
                go_wp2
                go_roundw
                case rel => exact ⟨k + 1, 0, o1 ++ [b], by omega, by omega, (by first | go_num | exact int_is (by have := HL.out; omega)), rfl, rfl, by rw [← HO.out]; exact HE.out, HA.out, hb⟩
                case measure => simp [intOf]; omega
            · have g : ((k : Int) + 1 == (l.length : Int)) = false := by rw [beq_eq_false_iff_ne]; omega
              obtain ⟨c, hck⟩ : ∃ c, l[k + 1]? = some c := ⟨_, List.getElem?_eq_getElem (by omega)⟩
              have hix2 := bs_index (P := Tryd.prog) Tryd.underlying9 hck
              have i2 : (k : Int) + 1 < (l.length : Int) := by omega
              have i3 : (0 : Int) ≤ (k : Int) + 1 := by omega
              rw [Int.natCast_add, Int.natCast_one] at hix2
              have hcb := u8_eq (a := c) (b := b)
              rw [hz] at hcb
              obtain ⟨y, hy⟩ : ∃ y : Int, (c.toNat : Int) = y := ⟨_, rfl⟩
              rw [hy] at hix2 hcb
              clear hlast hy
              by_cases he : c = b
              · have h1 := Lib.hid (enc_same (t := t) hbk hck he)
                rw [decide_eq_true he] at hcb
                have ncb : (y != z) = false := by simp [bne, hcb]
                clear hbk hck he
                go_wp2
                refine wp_region_quiet_below (by kernel_rfl) (by kernel_rfl) ?_
                repeat (go_big_quiet_step (first | fail))
                refine wpQuiet_nil ?_
                intro w3 hw'
                obtain ⟨⟨dq, osq⟩, hw''⟩ := hw'
                have hq : Below wr.heap.size wr w3 := by rw [hw'']; exact below_regrown _ _ _
                clear hw'' dq osq
                have hb := below_step hb hq
                clear hq
                go_wp2
                go_roundw
                case rel => exact ⟨k + 1, t + 1, o, by omega, by omega, by go_num, by go_num, rfl, by rw [← hinv.out, h1.out], HA.out, hb⟩
                case measure => simp [intOf]; omega
              · have h1 := enc_other (t := t) hbk hck he
                rw [decide_eq_false he] at hcb
                have ncb : (y != z) = true := by simp [bne, hcb]
                have HL := Lib.hid (rfl : k + 1 = k + 1)
                have h2 := trivial
                clear hbk hck he
                go_wp2
                refine wp_region_quiet_below (by kernel_rfl) (by kernel_rfl) ?_
                repeat (go_big_quiet_step (first | fail))
                refine wpQuiet_nil ?_
                intro w3 hw'
                obtain ⟨⟨dq, osq⟩, hw''⟩ := hw'
                have hq : Below wr.heap.size wr w3 := by rw [hw'']; exact below_regrown _ _ _
                clear hw'' dq osq
                have hb := below_step hb hq
                clear hq
                by_cases ht0 : t = 0
                · subst ht0
                  have HE := Lib.hid (show o ++ [b] ++ encF 0 (l.drop (k + 1)) = encF 0 l by rw [← hinv.out, h1, emit_one, List.append_assoc])
                  have ha := add_two (P := Tryd.prog) o [b] (by omega) (by simp)
                  clear h1 h2
                  go_wp2
                  go_roundw
                  case rel => exact ⟨k + 1, 0, o ++ [b], by omega, by omega, (by first | go_num | exact int_is (by have := HL.out; omega)), rfl, rfl, HE.out, HA.out, hb⟩
                  case measure => simp [intOf]; omega
                · have g0 : decide ((1 : Int) < (t : Int) + 1) = true := decide_eq_true (by omega)
                  have g1 : (1 : Int) < (t : Int) + 1 := by omega
                  have HE := Lib.hid (show o ++ natB (t + 1) ++ [b] ++ encF 0 (l.drop (k + 1)) = encF 0 l by rw [← hinv.out, h1, emit_more (by omega)]; simp)
                  have cc := Lib.hid (fun W => numS_lit (n := (t : Int) + 1) (l := natB (t + 1)) (by omega) (by have := numB_nat (t + 1); rw [Int.natCast_add] at this; exact this) W)
                  have ln := natB_length 1 (t + 1) (by omega)
                  generalize natB (t + 1) = X at *
                  obtain ⟨o1, ho1⟩ : ∃ m, o ++ X = m := ⟨_, rfl⟩
                  have ha1 := add_two (P := Tryd.prog) o X (by omega) (by omega)
                  have lo1 : o1.length ≤ 100 := by rw [← ho1, List.length_append]; omega
                  have ha2 := add_two (P := Tryd.prog) o1 [b] (by omega) (by simp)
                  rw [ho1] at ha1
                  have HO := Lib.hid ho1
                  clear h1 h2 ho1
                  go_wp2_with fail
                  refine (cc.out _).mono ?_
                  rintro e w6 ⟨rfl, b6⟩
                  have hb := below_step hb b6
                  go_wp2
                  go_roundw
                  case rel => exact ⟨k + 1, 0, o1 ++ [b], by omega, by omega, (by first | go_num | exact int_is (by have := HL.out; omega)), rfl, rfl, by rw [← HO.out]; exact HE.out, HA.out, hb⟩
                  case measure => simp [intOf]; omega
          · have hb46 : b = 46 := hbs.resolve_left hb35
            rw [decide_eq_false hb35] at h35
            rw [decide_eq_true hb46] at h46
            have n35 : (z != 35) = true := by simp [bne, h35]
            have n46 : (z != 46) = false := by simp [bne, h46]
            clear hbs hb35 hb46
            go_wp2
            by_cases hlast : k + 1 = l.length
            · have h1 : encF t (l.drop k) = emit (t + 1) b ++ encF 0 (l.drop (k + 1)) := by
                rw [enc_last hbk hlast, List.drop_of_length_le (by omega)]
                simp [encF]
              have g : ((k : Int) + 1 == (l.length : Int)) = true := by rw [beq_iff_eq]; omega
              have hex := (show (bs l).extract k l.length = bs [b] by rw [← hlast]; exact hex)
              have HL := Lib.hid hlast
              have h2 := trivial
              clear hbk hlast
              go_wp2
              refine wp_region_quiet_below (by kernel_rfl) (by kernel_rfl) ?_
              repeat (go_big_quiet_step (first | fail))
              refine wpQuiet_nil ?_
              intro w3 hw'
              obtain ⟨⟨dq, osq⟩, hw''⟩ := hw'
              have hq : Below wr.heap.size wr w3 := by rw [hw'']; exact below_regrown _ _ _
              clear hw'' dq osq
              have hb := below_step hb hq
              clear hq
              by_cases ht0 : t = 0
              · subst ht0
                have HE := Lib.hid (show o ++ [b] ++ encF 0 (l.drop (k + 1)) = encF 0 l by rw [← hinv.out, h1, emit_one, List.append_assoc])
                have ha := add_two (P := Tryd.prog) o [b] (by omega) (by simp)
                clear h1 h2
                go_wp2
                go_roundw
                case rel => exact ⟨k + 1, 0, o ++ [b], by omega, by omega, (by first | go_num | exact int_is (by have := HL.out; omega)), rfl, rfl, HE.out, HA.out, hb⟩
                case measure => simp [intOf]; omega
              · have g0 : decide ((1 : Int) < (t : Int) + 1) = true := decide_eq_true (by omega)
                have g1 : (1 : Int) < (t : Int) + 1 := by omega
                have HE := Lib.hid (show o ++ natB (t + 1) ++ [b] ++ encF 0 (l.drop (k + 1)) = encF 0 l by rw [← hinv.out, h1, emit_more (by omega)]; simp)
                have cc := Lib.hid (fun W => numS_lit (n := (t : Int) + 1) (l := natB (t + 1)) (by omega) (by have := numB_nat (t + 1); rw [Int.natCast_add] at this; exact this) W)
                have ln := natB_length 1 (t + 1) (by omega)
                generalize natB (t + 1) = X at *
                obtain ⟨o1, ho1⟩ : ∃ m, o ++ X = m := ⟨_, rfl⟩
                have ha1 := add_two (P := Tryd.prog) o X (by omega) (by omega)
                have lo1 : o1.length ≤ 100 := by rw [← ho1, List.length_append]; omega
                have ha2 := add_two (P := Tryd.prog) o1 [b] (by omega) (by simp)
                rw [ho1] at ha1
                have HO := Lib.hid ho1
                clear h1 h2 ho1
                go_wp2_with fail
                refine (cc.out _).mono ?_
                rintro e w6 ⟨rfl, b6⟩
                have hb := below_step hb b6
                go_wp2
                go_roundw
                case rel => exact ⟨k + 1, 0, o1 ++ [b], by omega, by omega, (by first | go_num | exact int_is (by have := HL.out; omega)), rfl, rfl, by rw [← HO.out]; exact HE.out, HA.out, hb⟩
                case measure => simp [intOf]; omega
            · have g : ((k : Int) + 1 == (l.length : Int)) = false := by rw [beq_eq_false_iff_ne]; omega
              obtain ⟨c, hck⟩ : ∃ c, l[k + 1]? = some c := ⟨_, List.getElem?_eq_getElem (by omega)⟩
              have hix2 := bs_index (P := Tryd.prog) Tryd.underlying9 hck
              have i2 : (k : Int) + 1 < (l.length : Int) := by omega
              have i3 : (0 : Int) ≤ (k : Int) + 1 := by omega
              rw [Int.natCast_add, Int.natCast_one] at hix2
              have hcb := u8_eq (a := c) (b := b)
              rw [hz] at hcb
              obtain ⟨y, hy⟩ : ∃ y : Int, (c.toNat : Int) = y := ⟨_, rfl⟩
              rw [hy] at hix2 hcb
              clear hlast hy
              by_cases he : c = b
              · have h1 := Lib.hid (enc_same (t := t) hbk hck he)
                rw [decide_eq_true he] at hcb
                have ncb : (y != z) = false := by simp [bne, hcb]
                clear hbk hck he
                go_wp2
                refine wp_region_quiet_below (by kernel_rfl) (by kernel_rfl) ?_
                repeat (go_big_quiet_step (first | fail))
                refine wpQuiet_nil ?_
                intro w3 hw'
                obtain ⟨⟨dq, osq⟩, hw''⟩ := hw'
                have hq : Below wr.heap.size wr w3 := by rw [hw'']; exact below_regrown _ _ _
                clear hw'' dq osq
                have hb := below_step hb hq
                clear hq
                go_wp2
                go_roundw
                case rel => exact ⟨k + 1, t + 1, o, by omega, by omega, by go_num, by go_num, rfl, by rw [← hinv.out, h1.out], HA.out, hb⟩
                case measure => simp [intOf]; omega
              · have h1 := enc_other (t := t) hbk hck he
                rw [decide_eq_false he] at hcb
                have ncb : (y != z) = true := by simp [bne, hcb]
                have HL := Lib.hid (rfl : k + 1 = k + 1)
                have h2 := trivial
                clear hbk hck he
                go_wp2
                refine wp_region_quiet_below (by kernel_rfl) (by kernel_rfl) ?_
                repeat (go_big_quiet_step (first | fail))
                refine wpQuiet_nil ?_
                intro w3 hw'
                obtain ⟨⟨dq, osq⟩, hw''⟩ := hw'
                have hq : Below wr.heap.size wr w3 := by rw [hw'']; exact below_regrown _ _ _
                clear hw'' dq osq
                have hb := below_step hb hq
                clear hq
                by_cases ht0 : t = 0
                · subst ht0
                  have HE := Lib.hid (show o ++ [b] ++ encF 0 (l.drop (k + 1)) = encF 0 l by rw [← hinv.out, h1, emit_one, List.append_assoc])
                  have ha := add_two (P := Tryd.prog) o [b] (by omega) (by simp)
                  clear h1 h2
                  go_wp2
                  go_roundw
                  case rel => exact ⟨k + 1, 0, o ++ [b], by omega, by omega, (by first | go_num | exact int_is (by have := HL.out; omega)), rfl, rfl, HE.out, HA.out, hb⟩
                  case measure => simp [intOf]; omega
                · have g0 : decide ((1 : Int) < (t : Int) + 1) = true := decide_eq_true (by omega)
                  have g1 : (1 : Int) < (t : Int) + 1 := by omega
                  have HE := Lib.hid (show o ++ natB (t + 1) ++ [b] ++ encF 0 (l.drop (k + 1)) = encF 0 l by rw [← hinv.out, h1, emit_more (by omega)]; simp)
                  have cc := Lib.hid (fun W => numS_lit (n := (t : Int) + 1) (l := natB (t + 1)) (by omega) (by have := numB_nat (t + 1); rw [Int.natCast_add] at this; exact this) W)
                  have ln := natB_length 1 (t + 1) (by omega)
                  generalize natB (t + 1) = X at *
                  obtain ⟨o1, ho1⟩ : ∃ m, o ++ X = m := ⟨_, rfl⟩
                  have ha1 := add_two (P := Tryd.prog) o X (by omega) (by omega)
                  have lo1 : o1.length ≤ 100 := by rw [← ho1, List.length_append]; omega
                  have ha2 := add_two (P := Tryd.prog) o1 [b] (by omega) (by simp)
                  rw [ho1] at ha1
                  have HO := Lib.hid ho1
                  clear h1 h2 ho1
                  go_wp2_with fail
                  refine (cc.out _).mono ?_
                  rintro e w6 ⟨rfl, b6⟩
                  have hb := below_step hb b6
                  go_wp2
                  go_roundw
                  case rel => exact ⟨k + 1, 0, o1 ++ [b], by omega, by omega, (by first | go_num | exact int_is (by have := HL.out; omega)), rfl, rfl, by rw [← HO.out]; exact HE.out, HA.out, hb⟩
                  case measure => simp [intOf]; omega
        · have hno : rowOk l = false := by
            cases h : rowOk l with
            | false => rfl
            | true =>
              have := (rowOk_is.1 h).2 b (List.mem_of_getElem? hbk)
              exact absurd (of_decide_eq_true this) hbs
          have HN := Lib.hid (shortR_no hno)
          have hix := bs_index (P := Tryd.prog) Tryd.underlying9 hbk
          have h35 := u8_lit (b := b) (c := 35) (k := 35) rfl
          have h46 := u8_lit (b := b) (c := 46) (k := 46) rfl
          rw [decide_eq_false (fun e => hbs (.inl e))] at h35
          rw [decide_eq_false (fun e => hbs (.inr e))] at h46
          obtain ⟨z, hz⟩ : ∃ z : Int, (b.toNat : Int) = z := ⟨_, rfl⟩
          rw [hz] at hix h35 h46
          have n35 : (z != 35) = true := by simp [bne, h35]
          have n46 : (z != 46) = true := by simp [bne, h46]
          clear hbk hz hno hbs hall hel
          go_wp2
          go_ret
          exact ⟨by rw [HN.out]; rfl, hb⟩
      · have hd : decide ((k : Int) < (l.length : Int)) = false := decide_eq_false (by omega)
        obtain rfl : k = l.length := by omega
        have hok : rowOk l = true := rowOk_is.2 ⟨⟨h61a, h61b⟩, by rw [List.take_length] at hall; exact hall⟩
        have hfin : o = encF 0 l := by
          have := hinv.out
          rw [List.drop_of_length_le (Nat.le_refl _)] at this
          cases t <;> simpa [encF] using this
        have HN := Lib.hid ((shortR_yes hok).trans hfin.symm)
        clear hok hfin hall hel
        go_wp2
        go_ret
        exact ⟨by rw [HN.out]; rfl, hb⟩
  · have hno : rowOk l = false := by
      cases h : rowOk l with
      | false => rfl
      | true => exact absurd (rowOk_is.1 h).1 h61
    rw [shortR_no hno]
    have cc := Lib.hid (fun W => inS_lit (n := (l.length : Int)) (a := 1) (b := 61) (c := false) (decide_eq_false (by omega)) W)
    clear hno
    go_enter Tryd.func25, Tryd.ntmps25
    go_wp2_with fail
    refine (cc.out _).mono ?_
    rintro e w1 ⟨rfl, b1⟩
    go_wp2
    go_ret
    exact ⟨rfl, b1⟩
end Go.Proofs.YtjncnjcpcmpmcaaDoor
