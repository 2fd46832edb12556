/- The program's ReadDeed, JournalText and ReadJournal. No conditions but those typed: what the listed variables of the library hold ('PowOk', 'ErrOk'). -/
import Derived.Test.YtpdnakiilhohdaaDoorDeedI
namespace Go.Proofs.YtpdnakiilhohdaaDoor
open Go.RowKit Go.Sort

def GivesD (a : Sp × Int) (b : Bool) (w : World) (e : Ending) (w' : World) : Prop := e = .returned (.tuple #[.agg #[.int .i64 a.1.1, .int .i64 a.1.2, .int .i64 a.2], .bool b]) ∧ Below w.heap.size w w'
theorem deedI_is {k x y : Int} {s : Bs} {w : World} (h : deedT ((k, x), y) = s) (hp : PowOk w) : Calls Tryd.prog 11 #[.agg #[.int .i64 k, .int .i64 x, .int .i64 y]] w (Gives (strV s) w) := by
  subst h; exact implDeedT_any k x y w hp
theorem kind_is {wd : Bs} {k : Int} (h : kindR wd = k) (w : World) : Calls Tryd.prog 41 #[.string (bs wd)] w (Gives (.int .i64 k) w) := by
  subst h; exact kind_any wd w
set_option maxRecDepth 100000 in
set_option maxHeartbeats 1600000 in
theorem implReadD_any (s : Bs) (hl : s.length ≤ 100000000) (w : World) (hp : PowOk w) (he : ErrOk w) : Calls Tryd.prog 14 #[.string (bs s)] w (GivesD (readDR s) (readDOk s) w) := by
  obtain ⟨W, hW⟩ : ∃ W, W = w.alloc (.cells #[.int .i64 0, .int .i64 0, .int .i64 0] 24) := ⟨_, rfl⟩
  have b0 : Below w.heap.size w W := by rw [hW]; exact box_below _ _ _
  have r0 : W.heap[w.heap.size]? = some (.cells #[.int .i64 0, .int .i64 0, .int .i64 0] 24 (0, 0)) := by rw [hW]; exact heap_alloc_new _ _
  have s0 : w.heap.size < W.heap.size := by rw [hW]; simp
  obtain ⟨R, hR⟩ : ∃ R, readDR s = R := ⟨_, rfl⟩
  obtain ⟨OK, hOK⟩ : ∃ OK, readDOk s = OK := ⟨_, rfl⟩
  have HR := Lib.hid hR
  have HK := Lib.hid hOK
  rw [hR, hOK]
  obtain ⟨⟨Rk, Rx⟩, Ry⟩ := R
  have hst : (bs s).toList = s := ByteArray.toList_mk s
  clear hR hOK
  go_enter Tryd.func14, Tryd.ntmps14
  go_wp2_with (first | (rw [← hW]; clear hW) | fail)
  refine (parts_any s hl W (he.below b0)).mono ?_
  rintro e w1 ⟨b1, x, y, rfl, X, Y⟩
  have HX := Lib.hid X
  have HY := Lib.hid Y
  obtain ⟨k, hk⟩ : ∃ k, kindR (cutAt 32 s).1 = k := ⟨_, rfl⟩
  have Hk := Lib.hid hk
  obtain ⟨P, hP⟩ : ∃ P, (cutAt 32 s).1 = P := ⟨_, rfl⟩
  have HP := Lib.hid hP
  have r1 := (b1.block _ s0).trans r0
  have bb := below_step b0 b1
  rw [hP] at hk
  rw [hP]
  have hkP := Lib.hid hk
  clear X Y hk hP r0 b0 b1
  have s1 : w.heap.size < w1.heap.size := (Array.getElem?_eq_some_iff.1 r1).1
  go_wp2_with fail
  refine (kind_is hkP.out w1).mono ?_
  rintro e w2 ⟨rfl, b2⟩
  have r2 := (b2.block _ s1).trans r1
  have bb := below_step bb b2
  have s2 : w.heap.size < w2.heap.size := (Array.getElem?_eq_some_iff.1 r2).1
  obtain ⟨W3, hW3⟩ : ∃ W, W = w2.alloc (.cells #[.int .i64 k, .int .i64 x, .int .i64 y] 24) := ⟨_, rfl⟩
  have b3 : Below w2.heap.size w2 W3 := by rw [hW3]; exact box_below _ _ _
  have q3 : W3.heap[w2.heap.size]? = some (.cells #[.int .i64 k, .int .i64 x, .int .i64 y] 24 (0, 0)) := by rw [hW3]; exact heap_alloc_new _ _
  have r3 := (b3.block _ s2).trans r2
  have bb := below_step bb b3
  have hne : w.heap.size ≠ w2.heap.size := by omega
  have s3 : w.heap.size < W3.heap.size := (Array.getElem?_eq_some_iff.1 r3).1
  have s4 : w2.heap.size < W3.heap.size := (Array.getElem?_eq_some_iff.1 q3).1
  clear r1 r2 b2 b3
  obtain ⟨q0, q1, q2⟩ := cells3_d q3
  obtain ⟨T, hT⟩ : ∃ T, deedT ((k, x), y) = T := ⟨_, rfl⟩
  have HT := Lib.hid hT
  have hTt : (bs T).toList = T := ByteArray.toList_mk T
  clear hT
  rcases hs : (s == []) with _ | _
  · have Hs := Lib.hid (beq_eq_false_iff_ne.1 hs)
    rcases hq : (T == s) with _ | _
    · have hno := again_no (s := s) HX.out HY.out (by rw [Hk.out, HT.out]; exact beq_eq_false_iff_ne.1 hq)
      rw [HR.out, HK.out] at hno
      obtain ⟨e1, e2⟩ := hno
      cases e1
      subst e2
      go_wp2_with (first | (rw [← hW3]; clear hW3) | fail)
      refine (deedI_is HT.out (hp.below bb)).mono ?_
      rintro e w4 ⟨rfl, b4⟩
      have r4 := (b4.block _ s3).trans r3
      have f0 := frozen_of_row w4 _ 0 _ _ r4
      have f1 := frozen_of_row w4 _ 1 _ _ r4
      have f2 := frozen_of_row w4 _ 2 _ _ r4
      obtain ⟨a0, a1, a2⟩ := cells3_d r4
      have bb := below_step bb b4
      go_wp2
      refine bodyPost_ret (v := .tuple #[.agg #[.int .i64 0, .int .i64 0, .int .i64 0], .bool false]) (by simp [results, Tryd.results14, go_sem, *]) rfl ⟨rfl, ?_⟩
      first | exact bb | exact ((bb.setCell (p := ⟨w.heap.size, 0, none⟩) (Nat.le_refl _) _).setCell (p := ⟨w.heap.size, 1, none⟩) (Nat.le_refl _) _).setCell (p := ⟨w.heap.size, 2, none⟩) (Nat.le_refl _) _
    · have hyes := again_yes (s := s) Hs.out (HT.out.trans (beq_iff_eq.1 hq))
      rw [HR.out, HK.out] at hyes
      obtain ⟨e1, e2⟩ := hyes
      cases e1
      subst e2
      go_wp2_with (first | (rw [← hW3]; clear hW3) | fail)
      refine (deedI_is HT.out (hp.below bb)).mono ?_
      rintro e w4 ⟨rfl, b4⟩
      have r4 := (b4.block _ s3).trans r3
      have q4 := (b4.block _ s4).trans q3
      have f0 := frozen_of_row w4 _ 0 _ _ r4
      have f1 := frozen_of_row w4 _ 1 _ _ r4
      have f2 := frozen_of_row w4 _ 2 _ _ r4
      obtain ⟨a0, a1, a2⟩ := cells3_d r4
      obtain ⟨c0, c1, c2⟩ := cells3_d q4
      have bb := below_step bb b4
      clear q0 q1 q2
      go_wp2
      refine bodyPost_ret (v := .tuple #[.agg #[.int .i64 Rk, .int .i64 Rx, .int .i64 Ry], .bool true]) (by simp [results, Tryd.results14, go_sem, *]) rfl ⟨rfl, ?_⟩
      exact ((bb.setCell (p := ⟨w.heap.size, 0, none⟩) (Nat.le_refl _) _).setCell (p := ⟨w.heap.size, 1, none⟩) (Nat.le_refl _) _).setCell (p := ⟨w.heap.size, 2, none⟩) (Nat.le_refl _) _
  · have hno := readD_nil
    obtain rfl := beq_iff_eq.1 hs
    rw [HR.out, HK.out] at hno
    obtain ⟨e1, e2⟩ := hno
    cases e1
    subst e2
    have f0 := frozen_of_row W3 _ 0 _ _ r3
    have f1 := frozen_of_row W3 _ 1 _ _ r3
    have f2 := frozen_of_row W3 _ 2 _ _ r3
    obtain ⟨a0, a1, a2⟩ := cells3_d r3
    go_wp2_with (first | (rw [← hW3]; clear hW3) | fail)
    refine bodyPost_ret (v := .tuple #[.agg #[.int .i64 0, .int .i64 0, .int .i64 0], .bool false]) (by simp [results, Tryd.results14, go_sem, *]) rfl ⟨rfl, ?_⟩
    first | exact bb | exact ((bb.setCell (p := ⟨w.heap.size, 0, none⟩) (Nat.le_refl _) _).setCell (p := ⟨w.heap.size, 1, none⟩) (Nat.le_refl _) _).setCell (p := ⟨w.heap.size, 2, none⟩) (Nat.le_refl _) _

/-! ### journals -/
theorem jour_step {l : List (Sp × Int)} {j : Nat} {a : Sp × Int} (h : l[j]? = some a) : jourL (l.take (j + 1)) = jourL (l.take j) ++ deedT a ++ [10] := by
  rw [List.take_add_one, h, Option.toList_some, jourL_snoc, List.append_assoc]
def OkUpto (l : List (Sp × Int)) (j : Nat) : Prop := ∀ (i : Nat) (a : Sp × Int), i < j → l[i]? = some a → deedOk a = true
theorem OkUpto.next {l : List (Sp × Int)} {j : Nat} {a : Sp × Int} (h : OkUpto l j) (ha : l[j]? = some a) (hb : deedOk a = true) : OkUpto l (j + 1) := fun i b hi hb' => by
  by_cases e : i = j
  · subst e; rw [ha] at hb'; cases hb'; exact hb
  · exact h i b (by omega) hb'
theorem OkUpto.all {l : List (Sp × Int)} (h : OkUpto l l.length) : jourOk l = true := jourOk_is.2 fun a ha => by
  obtain ⟨i, hi⟩ := List.mem_iff_getElem?.1 ha
  exact h i a (List.getElem?_eq_some_iff.1 hi).1 hi
theorem write_big (B b : Nat) (l m : Bs) (w : World) (h : IsB B b l w) (hl : l.length ≤ 1000000000) (hm : m.length ≤ 1000000000) (hB : B ≤ w.heap.size) :
    Calls Tryd.prog 48 #[.pointer (some ⟨b, 0, none⟩), .string (bs m)] w fun e w' => e = .returned (.tuple #[.int .i64 (m.length : Int), .nilIface]) ∧ IsB B b (l ++ m) w' ∧ Below B w w' := by
  refine (Go.Proofs.Any.Builder_WriteString_k lay166 bx166 B b (Lib.byteCells l) (bs m) w h (by rw [Lib.byteCells_length, bs_size]; omega) hB).mono ?_
  rintro e w' ⟨rfl, h1, h2, _⟩
  refine ⟨by rw [bs_size], .inr ?_, h2⟩
  rw [Lib.byteCells_append]
  exact h1
theorem wr_lit {B b : Nat} {l m n : Bs} {M : ByteArray} {w : World} (hM : bs m = M) (hn : l ++ m = n) (h : IsB B b l w) (hl : l.length ≤ 1000000000) (hm : m.length ≤ 1000000000) (hB : B ≤ w.heap.size) :
    Calls Tryd.prog 48 #[.pointer (some ⟨b, 0, none⟩), .string M] w fun e w' => e = .returned (.tuple #[.int .i64 (m.length : Int), .nilIface]) ∧ IsB B b n w' ∧ Below B w w' := by
  subst hM; subst hn
  exact write_big B b l m w h hl hm hB
set_option maxRecDepth 100000 in
set_option maxHeartbeats 1600000 in
theorem implJour_any (l : List (Sp × Int)) (v : Value) (w : World) (h : CReads w w.heap.size v l) (hl : l.length ≤ 2000000) (hp : PowOk w) : Calls Tryd.prog 18 #[v] w (Gives (strV (jourT l)) w) := by
  obtain ⟨A, c, rfl, hcl, hcm, hcA, hcell⟩ := h.is
  obtain ⟨W, hW⟩ : ∃ W, W = w.alloc (.cells #[.pointer none, .slice none 0 0] 77) := ⟨_, rfl⟩
  have bW : Below w.heap.size w W := by rw [hW]; exact box_below _ _ _
  have i0 : IsB w.heap.size w.heap.size (jourL (l.take 0)) W := by rw [hW]; exact isB_fresh w
  unfold maxLen at hcm
  have HJ := Lib.hid (fun k => jourL_len (l.take k))
  go_enter Tryd.func18, Tryd.ntmps18
  go_wp2_with (first | (rw [← hW]; clear hW) | fail)
  go_loopw [9] (fun i wr => ∃ j : Nat, j ≤ l.length ∧ i = .int .i64 j ∧ OkUpto l j ∧ IsB w.heap.size w.heap.size (jourL (l.take j)) wr ∧ Below w.heap.size w wr) (fun i _ => l.length - (intOf i).toNat)
  case atStart => exact ⟨0, Nat.zero_le _, rfl, fun i a hi => by omega, i0, bW⟩
  case round =>
    obtain ⟨j, hj, rfl, hI, hB, hbw⟩ := hrel
    have HI := Lib.hid hI
    clear hI
    have hbs := hbw.size
    by_cases hlt : j < l.length
    · obtain ⟨⟨⟨k, x⟩, y⟩, hxy⟩ : ∃ a, l[j]? = some a := ⟨_, List.getElem?_eq_getElem hlt⟩
      obtain ⟨b, off, rfl, hb, hat⟩ := hcell (by omega)
      obtain ⟨a0, a1, a2⟩ := hat j k x y hxy
      have d0 := (hbw.cell (p := ⟨b, off + j * 3, none⟩) hb).trans a0
      have d1 := (hbw.cell (p := ⟨b, off + j * 3 + 1, none⟩) hb).trans a1
      have d2 := (hbw.cell (p := ⟨b, off + j * 3 + 2, none⟩) hb).trans a2
      clear a0 a1 a2
      have hm3 : (0 : Int) ≤ (j : Int) := Int.natCast_nonneg _
      have hm4 : (j : Int) < (l.length : Int) := by omega
      obtain ⟨X, hX⟩ : ∃ X, X = wr.alloc (.cells #[.int .i64 k, .int .i64 x, .int .i64 y] 24) := ⟨_, rfl⟩
      have bX : Below wr.heap.size wr X := by rw [hX]; exact box_below _ _ _
      have q3 : X.heap[wr.heap.size]? = some (.cells #[.int .i64 k, .int .i64 x, .int .i64 y] 24 (0, 0)) := by rw [hX]; exact heap_alloc_new _ _
      obtain ⟨c0, c1, c2⟩ := cells3_d q3
      have bb : Below w.heap.size w X := hbw.trans (bX.mono hbs)
      have hBX := hB.below bX
      obtain ⟨T, hT⟩ : ∃ T, deedT ((k, x), y) = T := ⟨_, rfl⟩
      have HT := Lib.hid hT
      have hTl : T.length ≤ 14 := by rw [← hT]; exact deedT_len _
      have hTt : (bs T).toList = T := ByteArray.toList_mk T
      have hjl := HJ.out j
      have hjs := HJ.out (j + 1)
      rw [List.length_take] at hjl hjs
      have HS := Lib.hid (jour_step hxy)
      rw [hT] at HS
      have hTs : T ≠ [] → deedOk ((k, x), y) = true := fun h => deedT_ok (by rw [hT]; exact h)
      have hTn : T = [] → jourOk l = false := fun h => jourOk_bad hxy (by
        rcases e : deedOk ((k, x), y) with _ | _
        · rfl
        · exact absurd (hT.trans h) (deedT_ne e))
      have HN := Lib.hid hTs
      have HM := Lib.hid hTn
      have HXY := Lib.hid hxy
      clear hT hTs hTn hxy
      rcases hq : (T == []) with _ | _
      · have HQ := Lib.hid (beq_eq_false_iff_ne.1 hq)
        go_wp2_with (first | (rw [← hX]; clear hX) | fail)
        refine (deedI_is HT.out (hp.below bb)).mono ?_
        rintro e w2 ⟨rfl, b2⟩
        have hB2 := hBX.below b2
        have bb2 := below_step bb b2
        have s2 := bb2.size
        clear hB hBX
        go_wp2_with fail
        refine (wr_lit (m := T) rfl rfl hB2 (by omega) (by omega) s2).mono ?_
        rintro e w3 ⟨rfl, hB3, b3⟩
        have bb3 := bb2.trans b3
        have s3 := bb3.size
        clear hB2
        go_wp2_with fail
        refine (wr_lit (m := [10]) (M := { data := #[10] }) rfl HS.out.symm hB3 (by rw [List.length_append]; omega) (by simp) s3).mono ?_
        rintro e w4 ⟨rfl, hB4, b4⟩
        have bb4 := bb3.trans b4
        go_wp2
        go_roundw
        case rel => exact ⟨j + 1, by omega, by go_num, HI.out.next HXY.out (HN.out HQ.out), hB4, bb4⟩
        case measure => simp [intOf]; omega
      · have HQ := Lib.hid (beq_iff_eq.1 hq)
        have hbad := HM.out HQ.out
        rw [jourT_no hbad]
        clear hbad
        go_wp2_with (first | (rw [← hX]; clear hX) | fail)
        refine (deedI_is HT.out (hp.below bb)).mono ?_
        rintro e w2 ⟨rfl, b2⟩
        go_wp2
        go_ret
        exact ⟨rfl, below_step bb b2⟩
    · obtain rfl : j = l.length := by omega
      rw [List.take_length] at hB
      have HA := Lib.hid (jourT_yes HI.out.all)
      go_wp2_with fail
      refine (bstr_any w.heap.size w.heap.size (jourL l) wr hB hbs).mono ?_
      rintro e w2 ⟨rfl, b2⟩
      go_wp2
      go_ret
      exact ⟨by rw [HA.out]; rfl, hbw.trans b2⟩
def GivesJ (l : List (Sp × Int)) (n : Nat) (w : World) (e : Ending) (w' : World) : Prop := ∃ v', e = .returned (.tuple #[v', .int .i64 (n : Int)]) ∧ COwns w' w.heap.size v' l ∧ Below w.heap.size w w'
theorem readI_is {s : Bs} {a : Sp × Int} {b : Bool} {w : World} (h1 : readDR s = a) (h2 : readDOk s = b) (hl : s.length ≤ 100000000) (hp : PowOk w) (he : ErrOk w) : Calls Tryd.prog 14 #[.string (bs s)] w (GivesD a b w) := by
  subst h1; subst h2; exact implReadD_any s hl w hp he
set_option maxRecDepth 100000 in
set_option maxHeartbeats 1600000 in
theorem implReadJ_any (s : Bs) (hl : s.length ≤ 10000000) (w : World) (hp : PowOk w) (he : ErrOk w) : Calls Tryd.prog 20 #[.string (bs s)] w (GivesJ (jread [] s).1 (jread [] s).2 w) := by
  have hsz := bs_size s
  go_enter Tryd.func20, Tryd.ntmps20
  go_wp2_with fail
  go_loopw [4, 5] (fun v i wr => ∃ (l : List (Sp × Int)) (j : Nat), j ≤ s.length ∧ l.length ≤ j ∧ i = .int .i64 j ∧ COwns wr w.heap.size v l ∧ (jread [] s).1 = l ++ (jread [] (s.drop j)).1 ∧ (jread [] s).2 = j + (jread [] (s.drop j)).2 ∧ Below w.heap.size w wr) (fun _ i _ => s.length - (intOf i).toNat)
  case atStart => exact ⟨[], 0, Nat.zero_le _, Nat.le_refl _, rfl, COwns.nil _ _, by simp, by simp, Below.refl _ _⟩
  case round =>
    obtain ⟨l, j, hj, hlj, rfl, hown, hJ1, hJ2, hbw⟩ := hrel
    have H1 := Lib.hid hJ1
    have H2 := Lib.hid hJ2
    clear hJ1 hJ2
    have hbs := hbw.size
    obtain ⟨r, hr⟩ : ∃ r, s.drop j = r := ⟨_, rfl⟩
    have hrl : r.length = s.length - j := by rw [← hr, List.length_drop]
    have hex : (bs s).extract j s.length = bs r := by rw [bs_extract, List.take_length, hr]
    rw [hr] at H1 H2
    obtain ⟨P, hP⟩ : ∃ P, (cutAt 10 r).1 = P := ⟨_, rfl⟩
    obtain ⟨Q, hQ⟩ : ∃ Q, (cutAt 10 r).2.1 = Q := ⟨_, rfl⟩
    obtain ⟨b, hb⟩ : ∃ b, (cutAt 10 r).2.2 = b := ⟨_, rfl⟩
    obtain ⟨D, hD⟩ : ∃ D, readDR P = D := ⟨_, rfl⟩
    obtain ⟨ok, hok⟩ : ∃ ok, readDOk P = ok := ⟨_, rfl⟩
    have hPl : P.length ≤ r.length := by rw [← hP]; exact (cutAt_le 10 r).1
    have c1 := fun w => cut_lit (w := w) (show bs [10] = { data := #[10] } from rfl) hP hQ hb (by omega)
    have HP := Lib.hid hP
    have HQ := Lib.hid hQ
    have HB := Lib.hid hb
    have HD := Lib.hid hD
    have HO := Lib.hid hok
    have HRr := Lib.hid hr
    have hrL := Lib.hid hrl
    have k0 : (0 : Int) ≤ (j : Int) := Int.natCast_nonneg _
    have k1 : (j : Int) ≤ (s.length : Int) := by omega
    have hPsz := bs_size P
    clear hP hQ hb hD hok hr hrl
    go_wp2_with fail
    refine (c1 _).mono ?_
    rintro e w1 ⟨rfl, b1⟩
    have bb1 := below_step hbw b1
    clear c1
    go_wp2_with fail
    refine (readI_is HD.out HO.out (by have := hrL.out; omega) (hp.below bb1) (he.below bb1)).mono ?_
    rintro e w2 ⟨rfl, b2⟩
    have bb2 := below_step bb1 b2
    obtain ⟨⟨Dk, Dx⟩, Dy⟩ := D
    obtain ⟨X, hX⟩ : ∃ X, X = w2.alloc (.cells #[.int .i64 Dk, .int .i64 Dx, .int .i64 Dy] 24) := ⟨_, rfl⟩
    have bX : Below w2.heap.size w2 X := by rw [hX]; exact box_below _ _ _
    have q3 : X.heap[w2.heap.size]? = some (.cells #[.int .i64 Dk, .int .i64 Dx, .int .i64 Dy] 24 (0, 0)) := by rw [hX]; exact heap_alloc_new _ _
    have lX : w2.heap.size < X.heap.size := by rw [hX]; simp
    have bb3 := below_step bb2 bX
    have own3 := ((hown.below b1).below b2).below bX
    have hsX := bb3.size
    clear hown b1 b2 bX
    cases b with
    | false =>
      have HS := Lib.hid (jread_stop (s := r) (.inl HB.out))
      go_wp2_with (first | (rw [← hX]; clear hX) | fail)
      go_ret2
      refine ⟨u4, ?_, ?_, bb3⟩
      · rw [H2.out, HS.out]; rfl
      · rw [H1.out, HS.out, List.append_nil]; exact own3
    | true =>
      cases ok with
      | false =>
        have HS := Lib.hid (jread_stop (s := r) (.inr (by rw [HP.out]; exact HO.out)))
        go_wp2_with (first | (rw [← hX]; clear hX) | fail)
        go_ret2
        refine ⟨u4, ?_, ?_, bb3⟩
        · rw [H2.out, HS.out]; rfl
        · rw [H1.out, HS.out, List.append_nil]; exact own3
      | true =>
        obtain ⟨g1, g2, g3⟩ := jread_go (s := r) HB.out (by rw [HP.out]; exact HO.out)
        rw [HP.out] at g1 g2
        rw [HP.out, HQ.out, HD.out] at g3
        rw [HQ.out] at g2
        have G1 := Lib.hid g1
        have G2 := Lib.hid g2
        have G3 := Lib.hid g3
        have hj1 : j + (P.length + 1) ≤ s.length := by have := hrL.out; omega
        clear g1 g2 g3
        obtain ⟨c0, c1, c2⟩ := cells3_d q3
        have own4 := own3.below (box_below X #[.int .i64 Dk, .int .i64 Dx, .int .i64 Dy] 24)
        have bbY := below_step bb3 (box_below X #[.int .i64 Dk, .int .i64 Dx, .int .i64 Dy] 24)
        have hj2 : (P.length : Int) + 1 ≤ 10000001 := by omega
        go_wp2_with (first | (rw [← hX]; clear hX) | (at_builtin; refine wpList_append_cents (m := [((Dk, Dx), Dy)]) own4 (CReads.one (g := X.heap.size) (by simp [go_sem]) (by simp [go_sem]) (by simp [go_sem])) (by simp only [List.length_cons, List.length_nil]; omega) bbY.size rfl (.tmp 32) (.tmp 34) rfl rfl rfl ?_) | fail)
        intro v7 w7 o7 g7 hv7
        have b7 := own4.below_app bbY bbY.size g7
        clear own3 own4 g7 hv7
        go_wp2
        go_roundw
        case rel =>
          refine ⟨l ++ [((Dk, Dx), Dy)], j + (P.length + 1), hj1, by simp; omega, by go_num, o7, ?_, ?_, b7⟩
          · rw [H1.out, G3.out, ← List.drop_drop, HRr.out, G2.out, List.append_assoc]; rfl
          · rw [H2.out, G3.out, ← List.drop_drop, HRr.out, G2.out]; simp only; omega
        case measure => simp [intOf]; omega
end Go.Proofs.YtpdnakiilhohdaaDoor
