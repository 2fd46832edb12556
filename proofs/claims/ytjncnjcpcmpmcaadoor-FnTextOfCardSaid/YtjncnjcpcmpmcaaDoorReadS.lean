/- The model's ReadText. No conditions but those typed. -/
import Derived.Test.YtjncnjcpcmpmcaaDoorCutS
import Derived.Test.YtjncnjcpcmpmcaaDoorPut
import Derived.Test.YtjncnjcpcmpmcaaDoorMove
namespace Go.Proofs.YtjncnjcpcmpmcaaDoor
open Go.RowKit Go.Sort

/-- what has been scanned: k rows, and j signs of the next one -/
def scanK (x y : Int) (rows : List Bs) (k j : Nat) : List Sp := scanRows x y (rows.take k) ++ scanRow x (y - (k : Int)) ((rows.getD k []).take j)
theorem scanK_zero (x y : Int) (rows : List Bs) : scanK x y rows 0 0 = [] := by unfold scanK; simp [scanRows, scanRow]
theorem scanK_next {x y : Int} {rows : List Bs} {k : Nat} {l : Bs} (h : rows[k]? = some l) : scanK x y rows k l.length = scanK x y rows (k + 1) 0 := by
  have hk := (List.getElem?_eq_some_iff.1 h).1
  unfold scanK
  rw [List.getD_eq_getElem?_getD, h]
  simp only [Option.getD_some, List.take_length, List.take_zero, scanRow, List.append_nil]
  rw [List.take_add_one, h, Option.toList_some, scanRows_append, List.length_take, Nat.min_eq_left (Nat.le_of_lt hk)]
  simp [scanRows]
theorem scanK_step {x y : Int} {rows : List Bs} {k j : Nat} {l : Bs} {b : UInt8} (h : rows[k]? = some l) (hb : l[j]? = some b) : scanK x y rows k (j + 1) = scanK x y rows k j ++ (if b = 35 then [(x + (j : Int), y - (k : Int))] else []) := by
  have hj := (List.getElem?_eq_some_iff.1 hb).1
  unfold scanK
  rw [List.getD_eq_getElem?_getD, h]
  simp only [Option.getD_some]
  rw [List.take_add_one, hb, Option.toList_some, scanRow_append, List.length_take, Nat.min_eq_left (Nat.le_of_lt hj), List.append_assoc]
  simp [scanRow]
theorem scanK_all (x y : Int) (rows : List Bs) : scanK x y rows rows.length 0 = scanRows x y rows := by
  unfold scanK
  simp [scanRow]
theorem scanK_le {x y : Int} {rows : List Bs} {k j : Nat} : (scanK x y rows k j).length ≤ (scanRows x y rows).length := by
  by_cases hk : k < rows.length
  · obtain ⟨l, hl⟩ : ∃ l, rows[k]? = some l := ⟨_, List.getElem?_eq_getElem hk⟩
    have e : rows = rows.take k ++ l :: rows.drop (k + 1) := by
      have h2 := (List.getElem?_eq_some_iff.1 hl).2
      rw [← h2, ← List.drop_eq_getElem_cons hk, List.take_append_drop]
    have e2 : scanRows x y rows = scanRows x y (rows.take k) ++ (scanRow x (y - (k : Int)) l ++ scanRows x (y - (k : Int) - 1) (rows.drop (k + 1))) := by
      conv => lhs; rw [e, scanRows_append, List.length_take, Nat.min_eq_left (Nat.le_of_lt hk)]
      rfl
    have e3 : scanRow x (y - (k : Int)) l = scanRow x (y - (k : Int)) (l.take j) ++ scanRow (x + ((l.take j).length : Int)) (y - (k : Int)) (l.drop j) := by
      conv => lhs; rw [← List.take_append_drop j l, scanRow_append]
    unfold scanK
    rw [e2, List.getD_eq_getElem?_getD, hl, e3]
    simp only [Option.getD_some, List.length_append]
    omega
  · unfold scanK
    rw [List.take_of_length_le (by omega), List.getD_eq_getElem?_getD, List.getElem?_eq_none (by omega)]
    simp [scanRow]
/-- what the text of a picture is cut into -/
theorem text_parts {p : List Sp} {s : Bs} (hp : picB p = true) (e : textT p = s) (hs : s ≠ [45]) : p ≠ [] ∧ cutB 58 s = [numB (boxL p).1.1 ++ 44 :: numB (boxL p).1.2, joinB 47 (rowsT p)] := by
  have h0 : p ≠ [] := fun k => hs (by rw [← e, k]; rfl)
  exact ⟨h0, by rw [← e]; exact cut_colon hp h0⟩
/-- all that is asked of the parts, if the text is that of a picture -/
theorem text_all {p : List Sp} {s a b c d : Bs} (hp : picB p = true) (e : textT p = s) (hs : s ≠ [45]) (hab : cutB 58 s = [a, b]) (hcd : cutB 44 a = [c, d]) :
    (digR c).2 = true ∧ (digR d).2 = true ∧ (cutB 47 b).length ≤ 61 ∧ (scanRows (digR c).1 ((digR d).1 + ((cutB 47 b).length : Int) - 1) (cutB 47 b)).length ≤ 60 ∧ puts [] (scanRows (digR c).1 ((digR d).1 + ((cutB 47 b).length : Int) - 1) (cutB 47 b)) = p := by
  obtain ⟨h0, h1⟩ := text_parts hp e hs
  rw [hab] at h1
  obtain ⟨e1, e2⟩ := List.cons.inj h1
  obtain ⟨e2, _⟩ := List.cons.inj e2
  have h2 := cut_comma p
  rw [← e1, hcd] at h2
  obtain ⟨e3, e4⟩ := List.cons.inj h2
  obtain ⟨e4, _⟩ := List.cons.inj e4
  obtain ⟨d1, d2⟩ := digR_box hp h0
  rw [e3, e4, e2, cut_rows hp h0, d1, d2]
  have hr := rows_are hp h0
  have hy : (boxL p).1.2 + ((rowsT p).length : Int) - 1 = (boxL p).2.2 := by have := hr.many; omega
  obtain ⟨_, b2⟩ := box_in hp h0
  simp only []
  rw [hy]
  refine ⟨trivial, trivial, by have := hr.many; omega, ?_, puts_scan hp h0⟩
  rw [scan_length hp h0]
  exact (picB_pic hp).1
theorem textS_lit {p : List Sp} {v : Value} {w : World} {l : Bs} (h : Reads w w.heap.size v p) (hl : textT p = l) : Calls Tryd.prog 13 #[v] w (Gives (.string (bs l)) w) := by
  subst hl; exact specText_any p v w h
theorem digS_lit {l : Bs} {n : Int} {b : Bool} (hl : l.length ≤ 1000000000) (hn : (digR l).1 = n) (hb : (digR l).2 = b) (w : World) : Calls Tryd.prog 52 #[.string (bs l)] w (GivesNB n b w) := by
  subst hn hb; exact specDigits_any l hl w
theorem cutS_lit {l : Bs} {c : UInt8} {k : Int} {r : List Bs} (hl : l.length ≤ 1000000000) (hr : cutB c l = r) (hk : (c.toNat : Int) = k) (w : World) : Calls Tryd.prog 51 #[.string (bs l), .int .u8 k] w (GivesStrs r w) := by
  subst hr hk; exact specCut_any l c w hl
theorem cutB_part {c : UInt8} : ∀ {l e : Bs}, e ∈ cutB c l → e.length ≤ l.length
  | [], e, h => by
    simp [cutB] at h
    rw [h]; simp
  | b :: l, e, h => by
    unfold cutB at h
    split at h
    · rcases List.mem_cons.1 h with rfl | h
      · simp
      · have := cutB_part h
        rw [List.length_cons]; omega
    · split at h
      · rename_i h1 t1 e1
        rcases List.mem_cons.1 h with rfl | h
        · have := cutB_part (c := c) (l := l) (e := h1) (by rw [e1]; simp)
          simp only [List.length_cons]; omega
        · have := cutB_part (c := c) (l := l) (e := e) (by rw [e1]; exact List.mem_cons_of_mem _ h)
          rw [List.length_cons]; omega
      · simp at h
        rw [h]; simp
set_option maxRecDepth 100000 in
set_option maxHeartbeats 3200000 in
theorem specRead_any (s : Bs) (w : World) (hl : s.length ≤ 1000000000) : Calls Tryd.prog 22 #[.string (bs s)] w (Gives2' (readR s) (readOk s) w) := by
  have hts : (bs s).toList = s := ByteArray.toList_mk s
  have o0 := Owns.empty w w.heap.size (Nat.le_refl _)
  have b0 : Below w.heap.size w (w.alloc (.cells #[] 32)) := (Below.refl _ _).alloc (Nat.le_refl _) _
  by_cases hs : s = [45]
  · have hr := read_yes (p := []) (s := s) rfl hs.symm
    rw [hr.1, hr.2]
    subst hs
    clear hr
    go_enter Tryd.func22, Tryd.ntmps22
    go_wp2
    go_ret2
    exact ⟨_, rfl, o0, b0⟩
  · have hq : (s == [45]) = false := by rw [beq_eq_false_iff_ne]; exact hs
    by_cases hA : ∃ a b, cutB 58 s = [a, b]
    · obtain ⟨a, b, hab⟩ := hA
      have la := cutB_part (c := 58) (l := s) (e := a) (by rw [hab]; simp)
      have lb := cutB_part (c := 58) (l := s) (e := b) (by rw [hab]; simp)
      have cc1 := Lib.hid (fun W => cutS_lit (l := s) (c := 58) (k := 58) hl hab rfl W)
      by_cases hB : ∃ c d, cutB 44 a = [c, d]
      · obtain ⟨c, d, hcd⟩ := hB
        have lc := cutB_part (c := 44) (l := a) (e := c) (by rw [hcd]; simp)
        have ld := cutB_part (c := 44) (l := a) (e := d) (by rw [hcd]; simp)
        have cc2 := Lib.hid (fun W => cutS_lit (l := a) (c := 44) (k := 44) (by omega) hcd rfl W)
        have hall := fun p hp e => text_all (p := p) hp e hs hab hcd
        obtain ⟨x, hx⟩ : ∃ x, (digR c).1 = x := ⟨_, rfl⟩
        obtain ⟨y, hy⟩ : ∃ y, (digR d).1 = y := ⟨_, rfl⟩
        obtain ⟨one, hone⟩ : ∃ o, (digR c).2 = o := ⟨_, rfl⟩
        obtain ⟨two, htwo⟩ : ∃ o, (digR d).2 = o := ⟨_, rfl⟩
        obtain ⟨R, hR⟩ : ∃ R, cutB 47 b = R := ⟨_, rfl⟩
        obtain ⟨x1, x2⟩ := digR_range c
        obtain ⟨y1, y2⟩ := digR_range d
        have lR := fun e (he : e ∈ cutB 47 b) => Nat.le_trans (cutB_part (c := 47) (l := b) he) (Nat.le_trans lb hl)
        have cd1 := Lib.hid (fun W => digS_lit (l := c) (by omega) hx hone W)
        have cd2 := Lib.hid (fun W => digS_lit (l := d) (by omega) hy htwo W)
        have cc3 := Lib.hid (fun W => cutS_lit (l := b) (c := 47) (k := 47) (by omega) hR rfl W)
        have nR := cutB_length 47 b
        rw [hx] at x1 x2
        rw [hy] at y1 y2
        rw [hR] at nR lR
        rw [hx, hy, hone, htwo, hR] at hall
        clear hab hcd hx hy hone htwo hR lc ld
        by_cases hok : one = true ∧ two = true ∧ R.length ≤ 61
        · obtain ⟨rfl, rfl, hRl⟩ := hok
          have hR61 : decide ((61 : Int) < (R.length : Int)) = false := decide_eq_false (by omega)
          have hall := Lib.hid hall
          clear nR la lb
          go_enter Tryd.func22, Tryd.ntmps22
          go_wp2_with fail
          refine (cc1.out _).mono ?_
          rintro e w1 ⟨v1, rfl, o1, b1⟩
          obtain ⟨A1, c1, rfl, hc1, hm1, hg1⟩ := o1.shape
          obtain ⟨g1, rfl, hg1, hg1'⟩ := hg1 (show 0 < 2 by omega)
          have L1 : (strZ [a, b]).length = 2 := rfl
          rw [L1] at hc1 ⊢
          have o0 := o0.below b1
          have b0 := below_step b0 b1
          have k0 : w1.cell? ⟨g1, 0, none⟩ = some (.string (bs a)) := o1.cell (k := 0) (show 0 < 2 by omega)
          have O1 := Lib.hid o1
          clear o1 b1 hm1
          go_wp2_with fail
          refine (cc2.out _).mono ?_
          rintro e w2 ⟨v2, rfl, o2, b2⟩
          obtain ⟨A2, c2, rfl, hc2, hm2, hg2⟩ := o2.shape
          have o0 := o0.below b2
          have b0 := below_step b0 b2
          obtain ⟨g2, rfl, hg2, hg2'⟩ := hg2 (show 0 < 2 by omega)
          have L2 : (strZ [c, d]).length = 2 := rfl
          rw [L2] at hc2 ⊢
          have k1 : w2.cell? ⟨g2, 0, none⟩ = some (.string (bs c)) := o2.cell (k := 0) (show 0 < 2 by omega)
          have O2 := Lib.hid o2
          have O1 := Lib.hid (O1.out.below b2)
          clear o2 b2 hm2 k0
          go_wp2_with fail
          refine (cd1.out _).mono ?_
          rintro e w3 ⟨rfl, b3⟩
          have k2 : w3.cell? ⟨g2, 1, none⟩ = some (.string (bs d)) := (O2.out.below b3).cell (k := 1) (show 1 < 2 by omega)
          have O1 := Lib.hid (O1.out.below b3)
          have o0 := o0.below b3
          have b0 := below_step b0 b3
          clear b3 k1 O2
          go_wp2_with fail
          refine (cd2.out _).mono ?_
          rintro e w4 ⟨rfl, b4⟩
          have k3 : w4.cell? ⟨g1, 1, none⟩ = some (.string (bs b)) := (O1.out.below b4).cell (k := 1) (show 1 < 2 by omega)
          have o0 := o0.below b4
          have b0 := below_step b0 b4
          clear b4 k2 O1
          go_wp2_with fail
          refine (cc3.out _).mono ?_
          rintro e w5 ⟨v5, rfl, o5, b5⟩
          obtain ⟨A5, c5, rfl, hc5, hm5, hg5⟩ := o5.shape
          rw [strZ_len] at hc5 hg5 ⊢
          have o0 := o0.below b5
          have b0 := below_step b0 b5
          clear b5 k3
          have O5 := Lib.hid o5
          obtain ⟨Y, hY⟩ : ∃ Y, y + (R.length : Int) - 1 = Y := ⟨_, rfl⟩
          obtain ⟨T, hT⟩ : ∃ T, (scanRows x Y R).length = T := ⟨_, rfl⟩
          rw [hY] at hall
          have HY := Lib.hid hY
          have HT := Lib.hid hT
          have HK := Lib.hid (fun (k j : Nat) => (scanK_le (x := x) (y := Y) (rows := R) (k := k) (j := j)))
          have q0 : T ≤ 60 → ([] : List Sp) = puts [] (scanK x Y R 0 0) := fun _ => by rw [scanK_zero]; rfl
          clear o5 hc1 hc2 hm5 hg1 hg1' hg2 hg2' cc1 cc2 cc3 cd1 cd2 hY hT
          go_wp2
          go_loopw [4, 12] (fun o i wr => ∃ (k : Nat) (q : List Sp), k ≤ R.length ∧ i = .int .i64 (k : Int) ∧ Owns wr w.heap.size o q ∧ q.length ≤ 61 ∧ (T ≤ 60 → q = puts [] (scanK x Y R k 0)) ∧ Below w5.heap.size w5 wr) (fun _ i _ => R.length - (intOf i).toNat)
          case atStart => exact ⟨0, [], Nat.zero_le _, rfl, o0, by simp, q0, Below.refl _ _⟩
          case round =>
            clear q0 o0
            obtain ⟨k, q, hk, rfl, own, hql, hqs, hb⟩ := hrel
            have hqs := Lib.hid hqs
            by_cases hlt : k < R.length
            · have hd : decide ((k : Int) < (R.length : Int)) = true := decide_eq_true (by omega)
              obtain ⟨l, hlk⟩ : ∃ l, R[k]? = some l := ⟨_, List.getElem?_eq_getElem hlt⟩
              obtain ⟨g5, rfl, hg5a, hg5b⟩ := hg5 (by omega)
              have lln := lR l (List.mem_of_getElem? hlk)
              have HNX := Lib.hid (scanK_next (x := x) (y := Y) hlk)
              have HST := Lib.hid (fun (j : Nat) (b : UInt8) (h : l[j]? = some b) => scanK_step (x := x) (y := Y) hlk h)
              have i0 : (0 : Int) ≤ (k : Int) := Int.natCast_nonneg _
              have i1 : (k : Int) < (R.length : Int) := by omega
              have hce := Lib.hid (show ∀ W, Below w5.heap.size w5 W → W.cell? ⟨g5, k, none⟩ = some (.string (bs l)) from fun W hW => ((O5.out.below hW).cell (by rw [strZ_len]; exact hlt)).trans (strZ_at hlk))
              have hsz := bs_size l
              clear hlk
              go_wp2
              go_loopw [4, 13] (fun o i wr => ∃ (j : Nat) (q : List Sp), j ≤ l.length ∧ i = .int .i64 (j : Int) ∧ Owns wr w.heap.size o q ∧ q.length ≤ 61 ∧ (T ≤ 60 → q = puts [] (scanK x Y R k j)) ∧ Below w5.heap.size w5 wr) (fun _ i _ => l.length - (intOf i).toNat)
              case atStart => exact ⟨0, q, Nat.zero_le _, rfl, own, hql, hqs.out, hb⟩
              case round =>
                clear own hql hb hqs
                obtain ⟨j, q, hj, rfl, own, hql, hqs, hb⟩ := hrel
                have hqs := Lib.hid hqs
                obtain ⟨A, c, rfl, hc, hm⟩ := own.reads.slice
                unfold maxLen at hm
                have ce := hce.out _ hb
                have hws : w.heap.size ≤ wr.heap.size := Nat.le_trans b0.size hb.size
                by_cases hlj : j < l.length
                · have hd2 : decide ((j : Int) < (l.length : Int)) = true := decide_eq_true (by omega)
                  by_cases h60 : q.length ≤ 60
                  · have hd3 : decide ((q.length : Int) ≤ 60) = true := decide_eq_true (by omega)
                    obtain ⟨b, hbj⟩ : ∃ b, l[j]? = some b := ⟨_, List.getElem?_eq_getElem hlj⟩
                    have hix := bs_index (P := Tryd.prog) Tryd.underlying9 hbj
                    have HS := HST.out j b hbj
                    have h35 := u8_lit (b := b) (c := 35) (k := 35) rfl
                    have i2 : (0 : Int) ≤ (j : Int) := Int.natCast_nonneg _
                    have i3 : (j : Int) < (l.length : Int) := by omega
                    have i4 : (j : Int) < 1000000001 := by omega
                    obtain ⟨z, hz⟩ : ∃ z : Int, (b.toNat : Int) = z := ⟨_, rfl⟩
                    rw [hz] at hix h35
                    clear hbj hz
                    by_cases hb35 : b = 35
                    · rw [decide_eq_true hb35] at h35
                      rw [if_pos hb35] at HS
                      have HS := Lib.hid HS
                      have hpl := length_put_le q (x + (j : Int), y + (R.length : Int) - 1 - (k : Int))
                      have cc := Lib.hid (l1Put_any q _ (x + (j : Int)) (y + (R.length : Int) - 1 - (k : Int)) w.heap.size wr own hws (by omega))
                      clear hb35
                      go_wp2_with fail
                      refine (cc.out).mono ?_
                      rintro e w6 ⟨v6, rfl, o6, b6⟩
                      have hb6 := hb.trans (b6.mono hb.size)
                      clear own
                      go_wp2
                      go_roundw
                      case rel => exact ⟨j + 1, _, by omega, by go_num, o6, by omega, fun hT => by rw [HS.out, puts_snoc, ← hqs.out hT, ← HY.out], hb6⟩
                      case measure => simp [intOf]; omega
                    · rw [decide_eq_false hb35] at h35
                      rw [if_neg hb35, List.append_nil] at HS
                      have HS := Lib.hid HS
                      clear hb35
                      go_wp2
                      go_roundw
                      case rel => exact ⟨j + 1, q, by omega, by go_num, own, hql, fun hT => by rw [HS.out]; exact hqs.out hT, hb⟩
                      case measure => simp [intOf]; omega
                  · have hd3 : decide ((q.length : Int) ≤ 60) = false := decide_eq_false (by omega)
                    have hno : ¬ T ≤ 60 := fun hT => by
                      have h1 := hqs.out hT
                      have h2 := length_puts_le (scanK x Y R k j) []
                      have h3 := HK.out k j
                      rw [HT.out] at h3
                      rw [← h1] at h2
                      simp only [List.length_nil] at h2
                      omega
                    have HN := Lib.hid hno
                    clear hno
                    go_wp2
                    go_roundw
                    case rel => exact ⟨k + 1, q, by omega, by go_num, own, hql, fun hT => absurd hT HN.out, hb⟩
                    case measure => simp [intOf]; omega
                · have hd2 : decide ((j : Int) < (l.length : Int)) = false := decide_eq_false (by omega)
                  obtain rfl : j = l.length := by omega
                  go_wp2
                  go_roundw
                  case rel => exact ⟨k + 1, q, by omega, by go_num, own, hql, fun hT => by rw [← HNX.out]; exact hqs.out hT, hb⟩
                  case measure => simp [intOf]; omega
            · have hd : decide ((k : Int) < (R.length : Int)) = false := decide_eq_false (by omega)
              obtain rfl : k = R.length := by omega
              have b0 := b0.trans (hb.mono b0.size)
              rw [scanK_all] at hqs
              have hfin : ∀ p, picB p = true → textT p = s → q = p := fun p hp e => by
                have h := hall.out p hp e
                have hT : T ≤ 60 := by rw [← HT.out]; exact h.2.2.2.1
                rw [hqs.out hT]; exact h.2.2.2.2
              have hfin := Lib.hid hfin
              obtain ⟨A, c, rfl, hc, hm⟩ := own.reads.slice
              clear hall hqs hg5 lR O5 hk hlt
              rcases hp : picB q with _ | _
              · have hno : ∀ p, picB p = true → textT p ≠ s := fun p hp' e => by rw [hfin.out p hp' e, hp'] at hp; cases hp
                have HN := Lib.hid (read_no hno)
                have cc := gives_is hp (specPicture_any q _ _ own.reads)
                clear hno hp
                go_wp2_with fail
                refine cc.mono ?_
                rintro e w6 ⟨rfl, b6⟩
                have b0 := below_step b0 b6
                go_wp2
                go_ret2
                exact ⟨_, by rw [HN.out.2]; rfl, by rw [HN.out.1]; exact Owns.empty _ _ b0.size, b0.alloc b0.size _⟩
              · have cc := gives_is hp (specPicture_any q _ _ own.reads)
                obtain ⟨X, hX⟩ : ∃ X, textT q = X := ⟨_, rfl⟩
                have ct := Lib.hid (fun W (hW : Reads W W.heap.size (.slice A q.length c) q) => textS_lit hW hX)
                have htx : (bs X).toList = X := ByteArray.toList_mk X
                by_cases hXs : X = s
                · have hr := read_yes hp (hX.trans hXs)
                  have HN := Lib.hid hr
                  have hxs : (X == s) = true := by rw [hXs]; simp
                  clear hr hXs hX hp hfin
                  go_wp2_with fail
                  refine cc.mono ?_
                  rintro e w6 ⟨rfl, b6⟩
                  have own := own.below b6
                  have b0 := below_step b0 b6
                  go_wp2_with fail
                  refine (ct.out _ own.reads).mono ?_
                  rintro e w7 ⟨rfl, b7⟩
                  have own := own.below b7
                  have b0 := below_step b0 b7
                  go_wp2
                  go_ret2
                  exact ⟨_, by rw [HN.out.2]; rfl, by rw [HN.out.1]; exact own, b0⟩
                · have hno : ∀ p, picB p = true → textT p ≠ s := fun p hp' e => by
                    have h := hfin.out p hp' e
                    rw [h] at hX
                    exact hXs (hX.symm.trans e)
                  have HN := Lib.hid (read_no hno)
                  have hxs : (X == s) = false := by rw [beq_eq_false_iff_ne]; exact hXs
                  clear hno hXs hX hp hfin
                  go_wp2_with fail
                  refine cc.mono ?_
                  rintro e w6 ⟨rfl, b6⟩
                  have own := own.below b6
                  have b0 := below_step b0 b6
                  go_wp2_with fail
                  refine (ct.out _ own.reads).mono ?_
                  rintro e w7 ⟨rfl, b7⟩
                  have b0 := below_step b0 b7
                  go_wp2
                  go_ret2
                  exact ⟨_, by rw [HN.out.2]; rfl, by rw [HN.out.1]; exact Owns.empty _ _ b0.size, b0.alloc b0.size _⟩
        · have hno := read_no (fun p hp e => hok ⟨(hall p hp e).1, (hall p hp e).2.1, (hall p hp e).2.2.1⟩)
          rw [hno.1, hno.2]
          clear hno
          clear hall la lb
          go_enter Tryd.func22, Tryd.ntmps22
          go_wp2_with fail
          refine (cc1.out _).mono ?_
          rintro e w1 ⟨v1, rfl, o1, b1⟩
          obtain ⟨A1, c1, rfl, hc1, hm1, hg1⟩ := o1.shape
          obtain ⟨g1, rfl, hg1, hg1'⟩ := hg1 (show 0 < 2 by omega)
          have L1 : (strZ [a, b]).length = 2 := rfl
          rw [L1] at hc1 ⊢
          have o0 := o0.below b1
          have b0 := below_step b0 b1
          have k0 : w1.cell? ⟨g1, 0, none⟩ = some (.string (bs a)) := o1.cell (k := 0) (show 0 < 2 by omega)
          have O1 := Lib.hid o1
          clear o1 b1 hm1
          go_wp2_with fail
          refine (cc2.out _).mono ?_
          rintro e w2 ⟨v2, rfl, o2, b2⟩
          obtain ⟨A2, c2, rfl, hc2, hm2, hg2⟩ := o2.shape
          have o0 := o0.below b2
          have b0 := below_step b0 b2
          obtain ⟨g2, rfl, hg2, hg2'⟩ := hg2 (show 0 < 2 by omega)
          have L2 : (strZ [c, d]).length = 2 := rfl
          rw [L2] at hc2 ⊢
          have k1 : w2.cell? ⟨g2, 0, none⟩ = some (.string (bs c)) := o2.cell (k := 0) (show 0 < 2 by omega)
          have O2 := Lib.hid o2
          have O1 := Lib.hid (O1.out.below b2)
          clear o2 b2 hm2 k0
          go_wp2_with fail
          refine (cd1.out _).mono ?_
          rintro e w3 ⟨rfl, b3⟩
          have k2 : w3.cell? ⟨g2, 1, none⟩ = some (.string (bs d)) := (O2.out.below b3).cell (k := 1) (show 1 < 2 by omega)
          have O1 := Lib.hid (O1.out.below b3)
          have o0 := o0.below b3
          have b0 := below_step b0 b3
          clear b3 k1 O2
          go_wp2_with fail
          refine (cd2.out _).mono ?_
          rintro e w4 ⟨rfl, b4⟩
          have k3 : w4.cell? ⟨g1, 1, none⟩ = some (.string (bs b)) := (O1.out.below b4).cell (k := 1) (show 1 < 2 by omega)
          have o0 := o0.below b4
          have b0 := below_step b0 b4
          clear b4 k2 O1
          go_wp2_with fail
          refine (cc3.out _).mono ?_
          rintro e w5 ⟨v5, rfl, o5, b5⟩
          obtain ⟨A5, c5, rfl, hc5, hm5, hg5⟩ := o5.shape
          rw [strZ_len] at hc5 hg5 ⊢
          have o0 := o0.below b5
          have b0 := below_step b0 b5
          clear b5 k3
          cases one with
          | false =>
            go_wp2
            go_ret2
            exact ⟨_, rfl, o0, b0⟩
          | true =>
            cases two with
            | false =>
              go_wp2
              go_ret2
              exact ⟨_, rfl, o0, b0⟩
            | true =>
              have hR61 : decide ((61 : Int) < (R.length : Int)) = true := decide_eq_true (by
                have : ¬ R.length ≤ 61 := fun k => hok ⟨rfl, rfl, k⟩
                omega)
              clear hok
              go_wp2
              go_ret2
              exact ⟨_, rfl, o0, b0⟩
      · have hno := fun p hp e => hB (by
          obtain ⟨h0, h1⟩ := text_parts (p := p) hp e hs
          rw [hab] at h1
          exact ⟨_, _, by rw [(List.cons.inj h1).1]; exact cut_comma p⟩)
        have hno := read_no hno
        rw [hno.1, hno.2]
        clear hno
        have hne : (((cutB 44 a).length : Int) == 2) = false := by
          rw [beq_eq_false_iff_ne]
          intro e
          refine hB ?_
          match h : cutB 44 a with
          | [] => rw [h] at e; simp at e
          | [_] => rw [h] at e; simp at e
          | [a, b] => exact ⟨a, b, rfl⟩
          | _ :: _ :: _ :: _ => rw [h] at e; simp at e; omega
        have cc2 := Lib.hid (fun W => cutS_lit (l := a) (c := 44) (k := 44) (by omega) rfl rfl W)
        generalize cutB 44 a = R at *
        clear hB hab
        go_enter Tryd.func22, Tryd.ntmps22
        go_wp2_with fail
        refine (cc1.out _).mono ?_
        rintro e w1 ⟨v1, rfl, o1, b1⟩
        obtain ⟨A1, c1, rfl, hc1, hm1, hg1⟩ := o1.shape
        obtain ⟨g1, rfl, hg1, hg1'⟩ := hg1 (show 0 < 2 by omega)
        have L1 : (strZ [a, b]).length = 2 := rfl
        rw [L1] at hc1 ⊢
        have o0 := o0.below b1
        have b0 := below_step b0 b1
        have k0 : w1.cell? ⟨g1, 0, none⟩ = some (.string (bs a)) := o1.cell (k := 0) (show 0 < 2 by omega)
        have O1 := Lib.hid o1
        clear o1 b1 hm1
        go_wp2_with fail
        refine (cc2.out _).mono ?_
        rintro e w2 ⟨v2, rfl, o2, b2⟩
        obtain ⟨A2, c2, rfl, hc2, hm2, _⟩ := o2.shape
        rw [strZ_len] at hc2 ⊢
        have o0 := o0.below b2
        have b0 := below_step b0 b2
        go_wp2
        go_ret2
        exact ⟨_, rfl, o0, b0⟩
    · have hno := read_no (fun p hp e => hA ⟨_, _, (text_parts hp e hs).2⟩)
      rw [hno.1, hno.2]
      clear hno
      have hne : (((cutB 58 s).length : Int) == 2) = false := by
        rw [beq_eq_false_iff_ne]
        intro e
        refine hA ?_
        match h : cutB 58 s with
        | [] => rw [h] at e; simp at e
        | [_] => rw [h] at e; simp at e
        | [a, b] => exact ⟨a, b, rfl⟩
        | _ :: _ :: _ :: _ => rw [h] at e; simp at e; omega
      have cc := Lib.hid (fun W => cutS_lit (l := s) (c := 58) (k := 58) hl rfl rfl W)
      generalize cutB 58 s = R at *
      clear hA
      go_enter Tryd.func22, Tryd.ntmps22
      go_wp2_with fail
      refine (cc.out _).mono ?_
      rintro e w1 ⟨v1, rfl, o1, b1⟩
      obtain ⟨A1, c1, rfl, hc1, hm1, _⟩ := o1.shape
      rw [strZ_len] at hc1 ⊢
      have o0 := o0.below b1
      have b0 := below_step b0 b1
      go_wp2
      go_ret2
      exact ⟨_, rfl, o0, b0⟩
end Go.Proofs.YtjncnjcpcmpmcaaDoor
