/- The model's LongRow. No conditions but those typed. -/
import Derived.Test.YtjncnjcpcmpmcaaDoorShortS
import Derived.Test.YtjncnjcpcmpmcaaDoorReadS
namespace Go.Proofs.YtjncnjcpcmpmcaaDoor
open Go.RowKit Go.Sort

theorem shortS_lit {l r : Bs} (hl : l.length ≤ 1000000000) (hr : shortR l = r) (w : World) : Calls Tryd.prog 25 #[.string (bs l)] w (Gives (.string (bs r)) w) := by
  subst hr; exact specShort_any l w hl
theorem rep_snoc {b : UInt8} (o : Bs) (j : Nat) : o ++ List.replicate j b ++ [b] = o ++ List.replicate (j + 1) b := by
  rw [List.replicate_succ', List.append_assoc]
theorem dec_sign {d r : Bs} {b : UInt8} (h : isSign b = true) : decS d (b :: r) = List.replicate (cntD d) b ++ decS [] r ∧ goodS d (b :: r) = (okD d && goodS [] r) := by
  rw [decS, goodS, h]; exact ⟨rfl, rfl⟩
theorem dec_other {d r : Bs} {b : UInt8} (h : isSign b = false) : decS d (b :: r) = decS (d ++ [b]) r ∧ goodS d (b :: r) = goodS (d ++ [b]) r := by
  rw [decS, goodS, h]; exact ⟨rfl, rfl⟩
/-- what is known of the row, if there is one: o has been read, d stands before what is left -/
def LongInv (l o d r : Bs) : Prop := ∀ row, rowOk row = true → shortR row = l → o ++ decS d r = row ∧ goodS d r = true
theorem LongInv.len {l o d r row : Bs} (h : LongInv l o d r) (h1 : rowOk row = true) (h2 : shortR row = l) : o.length ≤ 61 := by
  have h3 := (h row h1 h2).1
  have h4 := (rowOk_is.1 h1).1.2
  have := congrArg List.length h3
  rw [List.length_append] at this
  omega
theorem LongInv.sign {l o d r : Bs} {b : UInt8} (h : LongInv l o d (b :: r)) (hb : isSign b = true) : LongInv l (o ++ List.replicate (cntD d) b) [] r := fun row h1 h2 => by
  obtain ⟨h3, h4⟩ := h row h1 h2
  obtain ⟨e1, e2⟩ := dec_sign (d := d) (r := r) hb
  rw [e1] at h3
  rw [e2, Bool.and_eq_true] at h4
  exact ⟨by rw [List.append_assoc]; exact h3, h4.2⟩
theorem LongInv.okd {l o d r row : Bs} {b : UInt8} (h : LongInv l o d (b :: r)) (hb : isSign b = true) (h1 : rowOk row = true) (h2 : shortR row = l) : okD d = true := by
  obtain ⟨_, h4⟩ := h row h1 h2
  rw [(dec_sign (d := d) (r := r) hb).2, Bool.and_eq_true] at h4
  exact h4.1
theorem LongInv.other {l o d r : Bs} {b : UInt8} (h : LongInv l o d (b :: r)) (hb : isSign b = false) : LongInv l o (d ++ [b]) r := fun row h1 h2 => by
  obtain ⟨h3, h4⟩ := h row h1 h2
  obtain ⟨e1, e2⟩ := dec_other (d := d) (r := r) hb
  rw [e1] at h3
  rw [e2] at h4
  exact ⟨h3, h4⟩
theorem LongInv.start (l : Bs) : LongInv l [] [] l := fun row h1 h2 => by
  obtain ⟨h3, h4⟩ := dec_short h1
  rw [h2] at h3 h4
  exact ⟨h3, h4⟩
theorem LongInv.fin {l o d row : Bs} (h : LongInv l o d []) (h1 : rowOk row = true) (h2 : shortR row = l) : o = row := by
  have := (h row h1 h2).1
  rw [decS, List.append_nil] at this
  exact this
theorem take_drop_snoc {l : Bs} {k m : Nat} {b : UInt8} (h : l[k]? = some b) (hm : m ≤ k) : (l.take (k + 1)).drop m = (l.take k).drop m ++ [b] := by
  have hk := (List.getElem?_eq_some_iff.1 h).1
  rw [List.take_add_one, h, List.drop_append_of_le_length (by rw [List.length_take]; omega)]; rfl

set_option maxRecDepth 100000 in
set_option maxHeartbeats 3200000 in
theorem specLong_any (l : Bs) (w : World) (hl : l.length ≤ 1048576) : Calls Tryd.prog 28 #[.string (bs l)] w fun e w' => e = .returned (.tuple #[.string (bs (longR l)), .bool (longOk l)]) ∧ Below w.heap.size w w' := by
  have hsz := bs_size l
  have hts : (bs l).toList = l := ByteArray.toList_mk l
  go_enter Tryd.func28, Tryd.ntmps28
  go_wp2
  go_loopw [4, 5, 6] (fun s f i wr => ∃ (k m : Nat) (o : Bs), m ≤ k ∧ k ≤ l.length ∧ i = .int .i64 (k : Int) ∧ f = .int .i64 (m : Int) ∧ s = .string (bs o) ∧ o.length ≤ 122 ∧ (k = 0 → o = []) ∧ LongInv l o ((l.take k).drop m) (l.drop k) ∧ Below w.heap.size w wr) (fun _ _ i _ => l.length - (intOf i).toNat)
  case atStart => exact ⟨0, 0, [], Nat.le_refl _, Nat.zero_le _, rfl, rfl, rfl, by simp, fun _ => rfl, LongInv.start l, Below.refl _ _⟩
  case round =>
    obtain ⟨k, m, o, hm, hk, rfl, rfl, rfl, lo, hz0, hinv, hb⟩ := hrel
    have hinv := Lib.hid hinv
    have hos := bs_size o
    by_cases hgo : k < l.length ∧ o.length ≤ 61
    · obtain ⟨hlt, ho61⟩ := hgo
      have hd : decide ((k : Int) < (l.length : Int)) = true := decide_eq_true (by omega)
      have hd2 : decide ((o.length : Int) ≤ 61) = true := decide_eq_true (by omega)
      obtain ⟨b, hbk⟩ : ∃ b, l[k]? = some b := ⟨_, List.getElem?_eq_getElem hlt⟩
      have i0 : (0 : Int) ≤ (k : Int) := Int.natCast_nonneg _
      have i1 : (k : Int) < (l.length : Int) := by omega
      have i2 : (0 : Int) ≤ (m : Int) := Int.natCast_nonneg _
      have i3 : (m : Int) ≤ (k : Int) := by omega
      have hix := bs_index (P := Tryd.prog) Tryd.underlying9 hbk
      have h35 := u8_lit (b := b) (c := 35) (k := 35) rfl
      have h46 := u8_lit (b := b) (c := 46) (k := 46) rfl
      obtain ⟨z, hz⟩ : ∃ z : Int, (b.toNat : Int) = z := ⟨_, rfl⟩
      rw [hz] at hix h35 h46
      clear hz0
      by_cases hbs : b = 35 ∨ b = 46
      · have hsg : isSign b = true := decide_eq_true hbs
        by_cases hb35 : b = 35
        · rw [decide_eq_true hb35] at h35
          have n35 : (z != 35) = false := by simp [bne, h35]
          clear hbs h46 hb35 hz
          by_cases hkm : m < k
          · have g0 : decide ((m : Int) < (k : Int)) = true := decide_eq_true (by omega)
            have g1 : (m : Int) < (k : Int) := by omega
            have g2 : (k : Int) ≤ (l.length : Int) := by omega
            have hdne : (l.take k).drop m ≠ [] := fun e => by
              have := congrArg List.length e
              rw [List.length_drop, List.length_take] at this
              simp only [List.length_nil] at this
              omega
            have hext := bs_extract l m k
            have hokd := fun row h1 h2 => (LongInv.okd (by have h := hinv.out; rw [drop_at hbk] at h; exact h) hsg (row := row) h1 h2)
            have hcn : cntD ((l.take k).drop m) = (digR ((l.take k).drop m)).1.toNat := by unfold cntD; rw [if_neg hdne]
            have hok2 : okD ((l.take k).drop m) = ((digR ((l.take k).drop m)).2 && decide (2 ≤ (digR ((l.take k).drop m)).1 ∧ (digR ((l.take k).drop m)).1 ≤ 61)) := by unfold okD; rw [decide_eq_false hdne]; rfl
            have hdl : ((l.take k).drop m).length ≤ 1000000000 := by rw [List.length_drop, List.length_take]; omega
            obtain ⟨r1, r2⟩ := digR_range ((l.take k).drop m)
            obtain ⟨n, hn⟩ : ∃ n, (digR ((l.take k).drop m)).1 = n := ⟨_, rfl⟩
            obtain ⟨ok, hok⟩ : ∃ ok, (digR ((l.take k).drop m)).2 = ok := ⟨_, rfl⟩
            have cc := Lib.hid (fun W => digS_lit hdl hn hok W)
            rw [hn, hok] at hok2
            rw [hn] at hcn r1 r2
            generalize hD : (l.take k).drop m = D at *
            clear hn hok hdl hD hdne
            by_cases hgood : ok = true ∧ 2 ≤ n ∧ n ≤ 61
            · obtain ⟨rfl, n1, n2⟩ := hgood
              obtain ⟨N, rfl⟩ : ∃ N : Nat, n = (N : Int) := ⟨n.toNat, by omega⟩
              have hcnt : cntD D = N := by rw [hcn]; simp
              have q1 : decide ((N : Int) < 2) = false := decide_eq_false (by omega)
              have q2 : decide ((61 : Int) < (N : Int)) = false := decide_eq_false (by omega)
              have n3 : N ≤ 61 := by omega
              clear hcn hok2 hokd r1 r2
              go_wp2_with fail
              refine (cc.out _).mono ?_
              rintro e w6 ⟨rfl, b6⟩
              have hb := below_step hb b6
              clear b6
              go_wp2
              have HINV2 := Lib.hid (show LongInv l (o ++ List.replicate (N) b) ((l.take (k + 1)).drop (k + 1)) (l.drop (k + 1)) by
                rw [List.drop_of_length_le (by rw [List.length_take]; omega)]
                have h := hinv.out
                rw [drop_at hbk] at h
                have h2 := h.sign hsg
                rw [hcnt] at h2
                exact h2)
              have hex := bs_byte hbk
              clear hbk hsg hcnt
              go_loopw [4, 10] (fun s j wr => ∃ i : Nat, i ≤ N ∧ j = .int .i64 (i : Int) ∧ s = .string (bs (o ++ List.replicate i b)) ∧ Below w.heap.size w wr) (fun _ j _ => N - (intOf j).toNat)
              case atStart => exact ⟨0, Nat.zero_le _, rfl, by rw [List.replicate_zero, List.append_nil], hb⟩
              case round =>
                clear hb
                obtain ⟨i, hi, rfl, rfl, hb⟩ := hrel
                by_cases hli : i < N
                · have hdi : decide ((i : Int) < (N : Nat)) = true := decide_eq_true (by omega)
                  have hdi2 : (i : Int) < ((N : Nat) : Int) := by omega
                  have HR := Lib.hid (rep_snoc (b := b) o i)
                  have hlen : (o ++ List.replicate i b).length ≤ 200 := by rw [List.length_append, List.length_replicate]; omega
                  generalize o ++ List.replicate i b = O at *
                  have ha := add_two (P := Tryd.prog) O [b] (by omega) (by simp)
                  go_wp2
                  go_roundw
                  case rel => exact ⟨i + 1, by omega, by go_num, by rw [← HR.out], hb⟩
                  case measure => simp [intOf]; omega
                · have hdi : decide ((i : Int) < (N : Nat)) = false := decide_eq_false (by omega)
                  have hdi2 : ¬ (i : Int) < ((N : Nat) : Int) := by omega
                  obtain rfl : i = N := by omega
                  go_wp2
                  go_roundw
                  case rel => exact ⟨k + 1, k + 1, _, Nat.le_refl _, by omega, by go_num, by go_num, rfl, by rw [List.length_append, List.length_replicate]; omega, fun e => by omega, HINV2.out, hb⟩
                  case measure => simp [intOf]; omega
            · have hno : ∀ row, rowOk row = true → shortR row ≠ l := fun row h1 h2 => by
                have h := hokd row h1 h2
                rw [hok2, Bool.and_eq_true, decide_eq_true_eq] at h
                exact hgood ⟨h.1, h.2⟩
              have HN := Lib.hid (long_no hno)
              clear hokd hcn hok2 hno hbk
              cases ok with
              | false =>
                go_wp2_with fail
                refine (cc.out _).mono ?_
                rintro e w6 ⟨rfl, b6⟩
                have hb := below_step hb b6
                go_wp2
                go_ret2
                exact ⟨by rw [HN.out.1, HN.out.2]; rfl, hb⟩
              | true =>
                by_cases q : n < 2
                · have q1 : decide (n < 2) = true := decide_eq_true q
                  go_wp2_with fail
                  refine (cc.out _).mono ?_
                  rintro e w6 ⟨rfl, b6⟩
                  have hb := below_step hb b6
                  go_wp2
                  go_ret2
                  exact ⟨by rw [HN.out.1, HN.out.2]; rfl, hb⟩
                · have q1 : decide (n < 2) = false := decide_eq_false q
                  have q2 : decide (61 < n) = true := decide_eq_true (by
                    by_cases h : 61 < n
                    · exact h
                    · exact absurd ⟨rfl, by omega, by omega⟩ hgood)
                  clear hgood
                  go_wp2_with fail
                  refine (cc.out _).mono ?_
                  rintro e w6 ⟨rfl, b6⟩
                  have hb := below_step hb b6
                  go_wp2
                  go_ret2
                  exact ⟨by rw [HN.out.1, HN.out.2]; rfl, hb⟩
          · have g0 : decide ((m : Int) < (k : Int)) = false := decide_eq_false (by omega)
            have g1 : ¬ (m : Int) < (k : Int) := by omega
            have hcnt : cntD ((l.take k).drop m) = 1 := by
              unfold cntD
              rw [if_pos (List.drop_of_length_le (by rw [List.length_take]; omega))]
            go_wp2
            have HINV2 := Lib.hid (show LongInv l (o ++ List.replicate (1) b) ((l.take (k + 1)).drop (k + 1)) (l.drop (k + 1)) by
              rw [List.drop_of_length_le (by rw [List.length_take]; omega)]
              have h := hinv.out
              rw [drop_at hbk] at h
              have h2 := h.sign hsg
              rw [hcnt] at h2
              exact h2)
            have hex := bs_byte hbk
            clear hbk hsg hcnt
            go_loopw [4, 10] (fun s j wr => ∃ i : Nat, i ≤ 1 ∧ j = .int .i64 (i : Int) ∧ s = .string (bs (o ++ List.replicate i b)) ∧ Below w.heap.size w wr) (fun _ j _ => 1 - (intOf j).toNat)
            case atStart => exact ⟨0, Nat.zero_le _, rfl, by rw [List.replicate_zero, List.append_nil], hb⟩
            case round =>
              clear hb
              obtain ⟨i, hi, rfl, rfl, hb⟩ := hrel
              by_cases hli : i < 1
              · have hdi : decide ((i : Int) < (1 : Nat)) = true := decide_eq_true (by omega)
                have hdi2 : (i : Int) < ((1 : Nat) : Int) := by omega
                have HR := Lib.hid (rep_snoc (b := b) o i)
                have hlen : (o ++ List.replicate i b).length ≤ 200 := by rw [List.length_append, List.length_replicate]; omega
                generalize o ++ List.replicate i b = O at *
                have ha := add_two (P := Tryd.prog) O [b] (by omega) (by simp)
                go_wp2
                go_roundw
                case rel => exact ⟨i + 1, by omega, by go_num, by rw [← HR.out], hb⟩
                case measure => simp [intOf]; omega
              · have hdi : decide ((i : Int) < (1 : Nat)) = false := decide_eq_false (by omega)
                have hdi2 : ¬ (i : Int) < ((1 : Nat) : Int) := by omega
                obtain rfl : i = 1 := by omega
                go_wp2
                go_roundw
                case rel => exact ⟨k + 1, k + 1, _, Nat.le_refl _, by omega, by go_num, by go_num, rfl, by rw [List.length_append, List.length_replicate]; omega, fun e => by omega, HINV2.out, hb⟩
                case measure => simp [intOf]; omega
        · have hb46 : b = 46 := hbs.resolve_left hb35
          rw [decide_eq_false hb35] at h35
          rw [decide_eq_true hb46] at h46
          have n35 : (z != 35) = true := by simp [bne, h35]
          have n46 : (z != 46) = false := by simp [bne, h46]
          clear hbs hb35 hb46 hz
          by_cases hkm : m < k
          · have g0 : decide ((m : Int) < (k : Int)) = true := decide_eq_true (by omega)
            have g1 : (m : Int) < (k : Int) := by omega
            have g2 : (k : Int) ≤ (l.length : Int) := by omega
            have hdne : (l.take k).drop m ≠ [] := fun e => by
              have := congrArg List.length e
              rw [List.length_drop, List.length_take] at this
              simp only [List.length_nil] at this
              omega
            have hext := bs_extract l m k
            have hokd := fun row h1 h2 => (LongInv.okd (by have h := hinv.out; rw [drop_at hbk] at h; exact h) hsg (row := row) h1 h2)
            have hcn : cntD ((l.take k).drop m) = (digR ((l.take k).drop m)).1.toNat := by unfold cntD; rw [if_neg hdne]
            have hok2 : okD ((l.take k).drop m) = ((digR ((l.take k).drop m)).2 && decide (2 ≤ (digR ((l.take k).drop m)).1 ∧ (digR ((l.take k).drop m)).1 ≤ 61)) := by unfold okD; rw [decide_eq_false hdne]; rfl
            have hdl : ((l.take k).drop m).length ≤ 1000000000 := by rw [List.length_drop, List.length_take]; omega
            obtain ⟨r1, r2⟩ := digR_range ((l.take k).drop m)
            obtain ⟨n, hn⟩ : ∃ n, (digR ((l.take k).drop m)).1 = n := ⟨_, rfl⟩
            obtain ⟨ok, hok⟩ : ∃ ok, (digR ((l.take k).drop m)).2 = ok := ⟨_, rfl⟩
            have cc := Lib.hid (fun W => digS_lit hdl hn hok W)
            rw [hn, hok] at hok2
            rw [hn] at hcn r1 r2
            generalize hD : (l.take k).drop m = D at *
            clear hn hok hdl hD hdne
            by_cases hgood : ok = true ∧ 2 ≤ n ∧ n ≤ 61
            · obtain ⟨rfl, n1, n2⟩ := hgood
              obtain ⟨N, rfl⟩ : ∃ N : Nat, n = (N : Int) := ⟨n.toNat, by omega⟩
              have hcnt : cntD D = N := by rw [hcn]; simp
              have q1 : decide ((N : Int) < 2) = false := decide_eq_false (by omega)
              have q2 : decide ((61 : Int) < (N : Int)) = false := decide_eq_false (by omega)
              have n3 : N ≤ 61 := by omega
              clear hcn hok2 hokd r1 r2
              go_wp2_with fail
              refine (cc.out _).mono ?_
              rintro e w6 ⟨rfl, b6⟩
              have hb := below_step hb b6
              clear b6
              go_wp2
              have HINV2 := Lib.hid (show LongInv l (o ++ List.replicate (N) b) ((l.take (k + 1)).drop (k + 1)) (l.drop (k + 1)) by
                rw [List.drop_of_length_le (by rw [List.length_take]; omega)]
                have h := hinv.out
                rw [drop_at hbk] at h
                have h2 := h.sign hsg
                rw [hcnt] at h2
                exact h2)
              have hex := bs_byte hbk
              clear hbk hsg hcnt
              go_loopw [4, 10] (fun s j wr => ∃ i : Nat, i ≤ N ∧ j = .int .i64 (i : Int) ∧ s = .string (bs (o ++ List.replicate i b)) ∧ Below w.heap.size w wr) (fun _ j _ => N - (intOf j).toNat)
              case atStart => exact ⟨0, Nat.zero_le _, rfl, by rw [List.replicate_zero, List.append_nil], hb⟩
              case round =>
                clear hb
                obtain ⟨i, hi, rfl, rfl, hb⟩ := hrel
                by_cases hli : i < N
                · have hdi : decide ((i : Int) < (N : Nat)) = true := decide_eq_true (by omega)
                  have hdi2 : (i : Int) < ((N : Nat) : Int) := by omega
                  have HR := Lib.hid (rep_snoc (b := b) o i)
                  have hlen : (o ++ List.replicate i b).length ≤ 200 := by rw [List.length_append, List.length_replicate]; omega
                  generalize o ++ List.replicate i b = O at *
                  have ha := add_two (P := Tryd.prog) O [b] (by omega) (by simp)
                  go_wp2
                  go_roundw
                  case rel => exact ⟨i + 1, by omega, by go_num, by rw [← HR.out], hb⟩
                  case measure => simp [intOf]; omega
                · have hdi : decide ((i : Int) < (N : Nat)) = false := decide_eq_false (by omega)
                  have hdi2 : ¬ (i : Int) < ((N : Nat) : Int) := by omega
                  obtain rfl : i = N := by omega
                  go_wp2
                  go_roundw
                  case rel => exact ⟨k + 1, k + 1, _, Nat.le_refl _, by omega, by go_num, by go_num, rfl, by rw [List.length_append, List.length_replicate]; omega, fun e => by omega, HINV2.out, hb⟩
                  case measure => simp [intOf]; omega
            · have hno : ∀ row, rowOk row = true → shortR row ≠ l := fun row h1 h2 => by
                have h := hokd row h1 h2
                rw [hok2, Bool.and_eq_true, decide_eq_true_eq] at h
                exact hgood ⟨h.1, h.2⟩
              have HN := Lib.hid (long_no hno)
              clear hokd hcn hok2 hno hbk
              cases ok with
              | false =>
                go_wp2_with fail
                refine (cc.out _).mono ?_
                rintro e w6 ⟨rfl, b6⟩
                have hb := below_step hb b6
                go_wp2
                go_ret2
                exact ⟨by rw [HN.out.1, HN.out.2]; rfl, hb⟩
              | true =>
                by_cases q : n < 2
                · have q1 : decide (n < 2) = true := decide_eq_true q
                  go_wp2_with fail
                  refine (cc.out _).mono ?_
                  rintro e w6 ⟨rfl, b6⟩
                  have hb := below_step hb b6
                  go_wp2
                  go_ret2
                  exact ⟨by rw [HN.out.1, HN.out.2]; rfl, hb⟩
                · have q1 : decide (n < 2) = false := decide_eq_false q
                  have q2 : decide (61 < n) = true := decide_eq_true (by
                    by_cases h : 61 < n
                    · exact h
                    · exact absurd ⟨rfl, by omega, by omega⟩ hgood)
                  clear hgood
                  go_wp2_with fail
                  refine (cc.out _).mono ?_
                  rintro e w6 ⟨rfl, b6⟩
                  have hb := below_step hb b6
                  go_wp2
                  go_ret2
                  exact ⟨by rw [HN.out.1, HN.out.2]; rfl, hb⟩
          · have g0 : decide ((m : Int) < (k : Int)) = false := decide_eq_false (by omega)
            have g1 : ¬ (m : Int) < (k : Int) := by omega
            have hcnt : cntD ((l.take k).drop m) = 1 := by
              unfold cntD
              rw [if_pos (List.drop_of_length_le (by rw [List.length_take]; omega))]
            go_wp2
            have HINV2 := Lib.hid (show LongInv l (o ++ List.replicate (1) b) ((l.take (k + 1)).drop (k + 1)) (l.drop (k + 1)) by
              rw [List.drop_of_length_le (by rw [List.length_take]; omega)]
              have h := hinv.out
              rw [drop_at hbk] at h
              have h2 := h.sign hsg
              rw [hcnt] at h2
              exact h2)
            have hex := bs_byte hbk
            clear hbk hsg hcnt
            go_loopw [4, 10] (fun s j wr => ∃ i : Nat, i ≤ 1 ∧ j = .int .i64 (i : Int) ∧ s = .string (bs (o ++ List.replicate i b)) ∧ Below w.heap.size w wr) (fun _ j _ => 1 - (intOf j).toNat)
            case atStart => exact ⟨0, Nat.zero_le _, rfl, by rw [List.replicate_zero, List.append_nil], hb⟩
            case round =>
              clear hb
              obtain ⟨i, hi, rfl, rfl, hb⟩ := hrel
              by_cases hli : i < 1
              · have hdi : decide ((i : Int) < (1 : Nat)) = true := decide_eq_true (by omega)
                have hdi2 : (i : Int) < ((1 : Nat) : Int) := by omega
                have HR := Lib.hid (rep_snoc (b := b) o i)
                have hlen : (o ++ List.replicate i b).length ≤ 200 := by rw [List.length_append, List.length_replicate]; omega
                generalize o ++ List.replicate i b = O at *
                have ha := add_two (P := Tryd.prog) O [b] (by omega) (by simp)
                go_wp2
                go_roundw
                case rel => exact ⟨i + 1, by omega, by go_num, by rw [← HR.out], hb⟩
                case measure => simp [intOf]; omega
              · have hdi : decide ((i : Int) < (1 : Nat)) = false := decide_eq_false (by omega)
                have hdi2 : ¬ (i : Int) < ((1 : Nat) : Int) := by omega
                obtain rfl : i = 1 := by omega
                go_wp2
                go_roundw
                case rel => exact ⟨k + 1, k + 1, _, Nat.le_refl _, by omega, by go_num, by go_num, rfl, by rw [List.length_append, List.length_replicate]; omega, fun e => by omega, HINV2.out, hb⟩
                case measure => simp [intOf]; omega
      · have hsg : isSign b = false := decide_eq_false hbs
        rw [decide_eq_false (fun e => hbs (.inl e))] at h35
        rw [decide_eq_false (fun e => hbs (.inr e))] at h46
        have n35 : (z != 35) = true := by simp [bne, h35]
        have n46 : (z != 46) = true := by simp [bne, h46]
        have HI := Lib.hid (show LongInv l o ((l.take (k + 1)).drop m) (l.drop (k + 1)) by
          rw [take_drop_snoc hbk hm]
          have h := hinv.out
          rw [drop_at hbk] at h
          exact h.other hsg)
        clear hbs hz hsg hbk
        go_wp2
        go_roundw
        case rel => exact ⟨k + 1, m, o, by omega, by omega, by go_num, rfl, rfl, lo, fun e => by omega, HI.out, hb⟩
        case measure => simp [intOf]; omega
    · have hfin : ∀ row, rowOk row = true → shortR row = l → o = row := fun row h1 h2 => by
        have h3 := hinv.out.len h1 h2
        have hk2 : k = l.length := by omega
        have h4 := hinv.out
        rw [hk2, List.drop_length] at h4
        exact h4.fin h1 h2
      have hfin := Lib.hid hfin
      have hot : (bs o).toList = o := ByteArray.toList_mk o
      by_cases he : o = []
      · have hno : ∀ row, rowOk row = true → shortR row ≠ l := fun row h1 h2 => by
          have h3 := hfin.out row h1 h2
          have h4 := (rowOk_is.1 h1).1.1
          rw [← h3, he] at h4
          simp at h4
        have HN := Lib.hid (long_no hno)
        have h1 : o.length = 0 := by rw [he]; rfl
        obtain rfl : k = l.length := by omega
        have hq : (o == []) = true := by rw [he]; rfl
        clear hno hfin hgo hinv hz0 he hos lo h1
        go_wp2
        go_ret2
        exact ⟨by rw [HN.out.1, HN.out.2]; rfl, hb⟩
      · have hq : (o == []) = false := by rw [beq_eq_false_iff_ne]; exact he
        obtain ⟨X, hX⟩ : ∃ X, shortR o = X := ⟨_, rfl⟩
        have cs := Lib.hid (fun W => shortS_lit (l := o) (r := X) (by omega) hX W)
        have htx : (bs X).toList = X := ByteArray.toList_mk X
        by_cases hXl : X = l
        · have hok : rowOk o = true := by
            cases h : rowOk o with
            | true => rfl
            | false =>
              have h1 := shortR_no h
              rw [hX, hXl] at h1
              have h2 : k = 0 := by rw [h1] at hk; simpa using hk
              exact absurd (hz0 h2) he
          have HN := Lib.hid (long_yes hok (hX.trans hXl))
          have hxl : (X == l) = true := by rw [hXl]; simp
          by_cases hk2 : k < l.length
          · have hd : decide ((k : Int) < (l.length : Int)) = true := decide_eq_true (by omega)
            have h62 : ¬ o.length ≤ 61 := fun q => hgo ⟨hk2, q⟩
            have hd2 : decide ((o.length : Int) ≤ 61) = false := decide_eq_false (by omega)
            clear hok hXl hX hfin hgo hinv hz0 he
            go_wp2_with fail
            refine (cs.out _).mono ?_
            rintro e w6 ⟨rfl, b6⟩
            have hb := below_step hb b6
            go_wp2
            go_ret2
            exact ⟨by rw [HN.out.1, HN.out.2]; rfl, hb⟩
          · obtain rfl : k = l.length := by omega
            clear hok hXl hX hfin hgo hinv hz0 he
            go_wp2_with fail
            refine (cs.out _).mono ?_
            rintro e w6 ⟨rfl, b6⟩
            have hb := below_step hb b6
            go_wp2
            go_ret2
            exact ⟨by rw [HN.out.1, HN.out.2]; rfl, hb⟩
        · have hno : ∀ row, rowOk row = true → shortR row ≠ l := fun row h1 h2 => by
            have h3 := hfin.out row h1 h2
            rw [h3] at hX
            exact hXl (hX.symm.trans h2)
          have HN := Lib.hid (long_no hno)
          have hxl : (X == l) = false := by rw [beq_eq_false_iff_ne]; exact hXl
          by_cases hk2 : k < l.length
          · have hd : decide ((k : Int) < (l.length : Int)) = true := decide_eq_true (by omega)
            have h62 : ¬ o.length ≤ 61 := fun q => hgo ⟨hk2, q⟩
            have hd2 : decide ((o.length : Int) ≤ 61) = false := decide_eq_false (by omega)
            clear hno hXl hX hfin hgo hinv hz0 he
            go_wp2_with fail
            refine (cs.out _).mono ?_
            rintro e w6 ⟨rfl, b6⟩
            have hb := below_step hb b6
            go_wp2
            go_ret2
            exact ⟨by rw [HN.out.1, HN.out.2]; rfl, hb⟩
          · obtain rfl : k = l.length := by omega
            clear hno hXl hX hfin hgo hinv hz0 he
            go_wp2_with fail
            refine (cs.out _).mono ?_
            rintro e w6 ⟨rfl, b6⟩
            have hb := below_step hb b6
            go_wp2
            go_ret2
            exact ⟨by rw [HN.out.1, HN.out.2]; rfl, hb⟩
end Go.Proofs.YtjncnjcpcmpmcaaDoor
