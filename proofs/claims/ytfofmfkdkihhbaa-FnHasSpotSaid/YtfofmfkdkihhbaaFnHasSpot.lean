/-
  Proved: the law of HasSpot (FnHasSpot) returns true for every code, and the code reads afterwards as it read before. No conditions.
-/
import Derived.Test.YtfofmfkdkihhbaaDraws1
import Derived.Test.YtfofmfkdkihhbaaPics3
import Derived.Test.YtfofmfkdkihhbaaHas2
import Derived.Test.YtfofmfkdkihhbaaOpen
namespace Go.Proofs.Ytfofmfkdkihhbaa.fnHasSpot
open Go.ChangeShapes Go.WideShapes Go.ChangeAt Go.RowKit

theorem take_next {ps : List Sp} {k : Nat} {a x : Sp} (h : ps[k]? = some a) : decide (x ∈ ps.take (k + 1)) = (decide (x ∈ ps.take k) || decide (x = a)) := by
  rw [List.take_add_one, h]
  rw [Bool.eq_iff_iff]
  simp
set_option maxHeartbeats 1600000 in
theorem walk (A : Option Addr) (n c : Nat) (w : World) (hb : Bytes w w.heap.size A n) (hn : n ≤ c) (hc : c ≤ 9223372036854775807) :
    Calls Try.prog 3 #[.slice A n c] w (Gives (.bool true) w) := by
  by_cases hbig : 1048576 < n
  · go_enter Try.func3, Try.ntmps3
    go_wp2
    go_ret
    exact ⟨rfl, Below.refl _ _⟩
  · go_enter Try.func3, Try.ntmps3
    go_wp2_with fail
    refine (drawHasSpot_any A n c _ hb hn hc).mono ?_
    rintro e w1 ⟨v, ps, x, y, rfl, D, _⟩
    have b1 := D.below
    have r1 := D.own.reads
    have hl := D.len
    clear D
    obtain ⟨W, hW⟩ : ∃ W, W = w1.alloc (.cells #[.int .i64 x, .int .i64 y] 25) := ⟨_, rfl⟩
    have bW : Below w1.heap.size w1 W := by rw [hW]; exact box_below w1 _ _
    have s1 : w1.heap.size < W.heap.size := by rw [hW]; simp
    have a0 : W.cell? ⟨w1.heap.size, 0, none⟩ = some (.int .i64 x) := by rw [hW]; simp [go_sem]
    have a1 : W.cell? ⟨w1.heap.size, 1, none⟩ = some (.int .i64 y) := by rw [hW]; simp [go_sem]
    obtain ⟨A1, c1', rfl, hc1, hm1, hA1, hr⟩ := r1.is
    unfold maxLen at hm1
    rcases hp : picB ps with _ | _
    · rcases hm : decide ((x, y) ∈ ps) with _ | _
      · have hq : hasB ps (x, y) = false := by unfold hasB; rw [hp, hm]; rfl
        have HM := Lib.hid hm
        have HP := Lib.hid hp
        clear hm hp
        by_cases h0 : ps.length = 0
        · obtain rfl := List.eq_nil_of_length_eq_zero h0
          go_wp2_with fail
          rw [← hW]
          clear hW
          refine (gives_is hq (implHas_any _ _ x y _ (r1.kept bW))).mono ?_
          rintro e w2 ⟨rfl, b2⟩
          have bb2 := below_step bW b2
          have c0 := (b2.cell (p := ⟨w1.heap.size, 0, none⟩) s1).trans a0
          have c1 := (b2.cell (p := ⟨w1.heap.size, 1, none⟩) s1).trans a1
          have s2 := Nat.le_trans s1 b2.size
          go_wp2_with fail
          refine (gives_is hq (specHas_any _ _ x y _ (r1.kept bb2))).mono ?_
          rintro e w3 ⟨rfl, b3⟩
          have bb3 := below_step bb2 b3
          go_wp2
          refine wp_loop_rounds 1 ?_
          rw [rounds_succ]
          go_wp2_with fail
          refine (alive_any _).mono ?_
          rintro e w5 ⟨rfl, b5⟩
          go_wp2
          go_ret
          exact ⟨rfl, below_step b1 (below_step bb3 b5)⟩
        · obtain ⟨b, off, rfl, hb', hcell⟩ := hr (by omega)
          go_wp2_with fail
          rw [← hW]
          clear hW
          refine (gives_is hq (implHas_any _ _ x y _ (r1.kept bW))).mono ?_
          rintro e w2 ⟨rfl, b2⟩
          have bb2 := below_step bW b2
          have c0 := (b2.cell (p := ⟨w1.heap.size, 0, none⟩) s1).trans a0
          have c1 := (b2.cell (p := ⟨w1.heap.size, 1, none⟩) s1).trans a1
          have s2 := Nat.le_trans s1 b2.size
          go_wp2_with fail
          refine (gives_is hq (specHas_any _ _ x y _ (r1.kept bb2))).mono ?_
          rintro e w3 ⟨rfl, b3⟩
          have bb3 := below_step bb2 b3
          have c0 := (b3.cell (p := ⟨w1.heap.size, 0, none⟩) s2).trans c0
          have c1 := (b3.cell (p := ⟨w1.heap.size, 1, none⟩) s2).trans c1
          have s3 := Nat.le_trans s2 b3.size
          clear a0 a1 hq
          go_wp2
          go_loopw [6, 7] (fun f i wr => ∃ (k : Nat) (fb : Bool), k ≤ ps.length ∧ i = .int .i64 k ∧ f = .bool fb ∧ decide ((x, y) ∈ ps.take k) = fb ∧ Below w3.heap.size w3 wr) (fun _ i _ => ps.length - (intOf i).toNat)
          case atStart => exact ⟨0, false, Nat.zero_le _, rfl, rfl, by simp, Below.refl _ _⟩
          case round =>
            obtain ⟨k, fb, hk, rfl, rfl, hfb, hbw⟩ := hrel
            have hbs := hbw.size
            by_cases hlt : k < ps.length
            · obtain ⟨⟨px, py⟩, hxy⟩ : ∃ a, ps[k]? = some a := ⟨_, List.getElem?_eq_getElem hlt⟩
              have ht := take_next (x := (x, y)) hxy
              rw [hfb] at ht
              obtain ⟨e0, e1⟩ := hcell k px py hxy
              have bbr := below_step bb3 hbw
              have f0 := cell_regrown ((bbr.cell (p := ⟨b, off + k * 2, none⟩) hb').trans e0)
              have f1 := cell_regrown ((bbr.cell (p := ⟨b, off + k * 2 + 1, none⟩) hb').trans e1)
              have g0 := cell_regrown ((hbw.cell (p := ⟨w1.heap.size, 0, none⟩) s3).trans c0)
              have g1 := cell_regrown ((hbw.cell (p := ⟨w1.heap.size, 1, none⟩) s3).trans c1)
              clear e0 e1 hxy hfb
              cases fb with
              | true =>
                have HT := Lib.hid ht
                clear ht
                go_wp2
                refine wp_region_quiet_below (by kernel_rfl) (by kernel_rfl) ?_
                repeat (go_big_quiet_step (first | fail))
                refine wpQuiet_nil ?_
                intro _ hw'
                obtain ⟨⟨dq, osq⟩, hw''⟩ := hw'
                subst hw''
                go_wp2
                go_roundw
                case rel => exact ⟨k + 1, true, by omega, by go_num, rfl, HT.out, hbw.trans ((below_regrown _ _ _).mono hbs)⟩
                case measure => simp [intOf]; omega
              | false =>
                by_cases hx : (x, y) = (px, py)
                · have HT := Lib.hid (ht.trans (by rw [decide_eq_true hx]; rfl : _ = true))
                  obtain ⟨rfl, rfl⟩ := Prod.mk.inj hx
                  clear hx ht
                  go_wp2
                  refine wp_region_quiet_below (by kernel_rfl) (by kernel_rfl) ?_
                  repeat (go_big_quiet_step (first | fail))
                  refine wpQuiet_nil ?_
                  intro _ hw'
                  obtain ⟨⟨dq, osq⟩, hw''⟩ := hw'
                  subst hw''
                  go_wp2
                  go_roundw
                  case rel => exact ⟨k + 1, true, by omega, by go_num, rfl, HT.out, hbw.trans ((below_regrown _ _ _).mono hbs)⟩
                  case measure => simp [intOf]; omega
                · have HT := Lib.hid (ht.trans (by rw [decide_eq_false hx]; rfl : _ = false))
                  clear ht
                  by_cases hxu : px = x
                  · subst hxu
                    have hyv : ¬ py = y := fun e => hx (by rw [e])
                    clear hx
                    go_wp2
                    refine wp_region_quiet_below (by kernel_rfl) (by kernel_rfl) ?_
                    repeat (go_big_quiet_step (first | fail))
                    refine wpQuiet_nil ?_
                    intro _ hw'
                    obtain ⟨⟨dq, osq⟩, hw''⟩ := hw'
                    subst hw''
                    go_wp2
                    go_roundw
                    case rel => exact ⟨k + 1, false, by omega, by go_num, rfl, HT.out, hbw.trans ((below_regrown _ _ _).mono hbs)⟩
                    case measure => simp [intOf]; omega
                  · clear hx
                    go_wp2
                    refine wp_region_quiet_below (by kernel_rfl) (by kernel_rfl) ?_
                    repeat (go_big_quiet_step (first | fail))
                    refine wpQuiet_nil ?_
                    intro _ hw'
                    obtain ⟨⟨dq, osq⟩, hw''⟩ := hw'
                    subst hw''
                    go_wp2
                    go_roundw
                    case rel => exact ⟨k + 1, false, by omega, by go_num, rfl, HT.out, hbw.trans ((below_regrown _ _ _).mono hbs)⟩
                    case measure => simp [intOf]; omega
            · rw [List.take_of_length_le (by omega)] at hfb
              obtain rfl : fb = false := hfb.symm.trans HM.out
              clear hfb
              have bbr := below_step bb3 hbw
              go_wp2_with fail
              refine (alive_any _).mono ?_
              rintro e w5 ⟨rfl, b5⟩
              go_wp2
              go_ret
              exact ⟨rfl, below_step b1 (below_step bbr b5)⟩
      · have hq : hasB ps (x, y) = false := by unfold hasB; rw [hp, hm]; rfl
        have HM := Lib.hid hm
        have HP := Lib.hid hp
        clear hm hp
        by_cases h0 : ps.length = 0
        · obtain rfl := List.eq_nil_of_length_eq_zero h0
          go_wp2_with fail
          rw [← hW]
          clear hW
          refine (gives_is hq (implHas_any _ _ x y _ (r1.kept bW))).mono ?_
          rintro e w2 ⟨rfl, b2⟩
          have bb2 := below_step bW b2
          have c0 := (b2.cell (p := ⟨w1.heap.size, 0, none⟩) s1).trans a0
          have c1 := (b2.cell (p := ⟨w1.heap.size, 1, none⟩) s1).trans a1
          have s2 := Nat.le_trans s1 b2.size
          go_wp2_with fail
          refine (gives_is hq (specHas_any _ _ x y _ (r1.kept bb2))).mono ?_
          rintro e w3 ⟨rfl, b3⟩
          have bb3 := below_step bb2 b3
          go_wp2
          refine wp_loop_rounds 1 ?_
          rw [rounds_succ]
          have h := HM.out
          simp at h
        · obtain ⟨b, off, rfl, hb', hcell⟩ := hr (by omega)
          go_wp2_with fail
          rw [← hW]
          clear hW
          refine (gives_is hq (implHas_any _ _ x y _ (r1.kept bW))).mono ?_
          rintro e w2 ⟨rfl, b2⟩
          have bb2 := below_step bW b2
          have c0 := (b2.cell (p := ⟨w1.heap.size, 0, none⟩) s1).trans a0
          have c1 := (b2.cell (p := ⟨w1.heap.size, 1, none⟩) s1).trans a1
          have s2 := Nat.le_trans s1 b2.size
          go_wp2_with fail
          refine (gives_is hq (specHas_any _ _ x y _ (r1.kept bb2))).mono ?_
          rintro e w3 ⟨rfl, b3⟩
          have bb3 := below_step bb2 b3
          have c0 := (b3.cell (p := ⟨w1.heap.size, 0, none⟩) s2).trans c0
          have c1 := (b3.cell (p := ⟨w1.heap.size, 1, none⟩) s2).trans c1
          have s3 := Nat.le_trans s2 b3.size
          clear a0 a1 hq
          go_wp2
          go_loopw [6, 7] (fun f i wr => ∃ (k : Nat) (fb : Bool), k ≤ ps.length ∧ i = .int .i64 k ∧ f = .bool fb ∧ decide ((x, y) ∈ ps.take k) = fb ∧ Below w3.heap.size w3 wr) (fun _ i _ => ps.length - (intOf i).toNat)
          case atStart => exact ⟨0, false, Nat.zero_le _, rfl, rfl, by simp, Below.refl _ _⟩
          case round =>
            obtain ⟨k, fb, hk, rfl, rfl, hfb, hbw⟩ := hrel
            have hbs := hbw.size
            by_cases hlt : k < ps.length
            · obtain ⟨⟨px, py⟩, hxy⟩ : ∃ a, ps[k]? = some a := ⟨_, List.getElem?_eq_getElem hlt⟩
              have ht := take_next (x := (x, y)) hxy
              rw [hfb] at ht
              obtain ⟨e0, e1⟩ := hcell k px py hxy
              have bbr := below_step bb3 hbw
              have f0 := cell_regrown ((bbr.cell (p := ⟨b, off + k * 2, none⟩) hb').trans e0)
              have f1 := cell_regrown ((bbr.cell (p := ⟨b, off + k * 2 + 1, none⟩) hb').trans e1)
              have g0 := cell_regrown ((hbw.cell (p := ⟨w1.heap.size, 0, none⟩) s3).trans c0)
              have g1 := cell_regrown ((hbw.cell (p := ⟨w1.heap.size, 1, none⟩) s3).trans c1)
              clear e0 e1 hxy hfb
              cases fb with
              | true =>
                have HT := Lib.hid ht
                clear ht
                go_wp2
                refine wp_region_quiet_below (by kernel_rfl) (by kernel_rfl) ?_
                repeat (go_big_quiet_step (first | fail))
                refine wpQuiet_nil ?_
                intro _ hw'
                obtain ⟨⟨dq, osq⟩, hw''⟩ := hw'
                subst hw''
                go_wp2
                go_roundw
                case rel => exact ⟨k + 1, true, by omega, by go_num, rfl, HT.out, hbw.trans ((below_regrown _ _ _).mono hbs)⟩
                case measure => simp [intOf]; omega
              | false =>
                by_cases hx : (x, y) = (px, py)
                · have HT := Lib.hid (ht.trans (by rw [decide_eq_true hx]; rfl : _ = true))
                  obtain ⟨rfl, rfl⟩ := Prod.mk.inj hx
                  clear hx ht
                  go_wp2
                  refine wp_region_quiet_below (by kernel_rfl) (by kernel_rfl) ?_
                  repeat (go_big_quiet_step (first | fail))
                  refine wpQuiet_nil ?_
                  intro _ hw'
                  obtain ⟨⟨dq, osq⟩, hw''⟩ := hw'
                  subst hw''
                  go_wp2
                  go_roundw
                  case rel => exact ⟨k + 1, true, by omega, by go_num, rfl, HT.out, hbw.trans ((below_regrown _ _ _).mono hbs)⟩
                  case measure => simp [intOf]; omega
                · have HT := Lib.hid (ht.trans (by rw [decide_eq_false hx]; rfl : _ = false))
                  clear ht
                  by_cases hxu : px = x
                  · subst hxu
                    have hyv : ¬ py = y := fun e => hx (by rw [e])
                    clear hx
                    go_wp2
                    refine wp_region_quiet_below (by kernel_rfl) (by kernel_rfl) ?_
                    repeat (go_big_quiet_step (first | fail))
                    refine wpQuiet_nil ?_
                    intro _ hw'
                    obtain ⟨⟨dq, osq⟩, hw''⟩ := hw'
                    subst hw''
                    go_wp2
                    go_roundw
                    case rel => exact ⟨k + 1, false, by omega, by go_num, rfl, HT.out, hbw.trans ((below_regrown _ _ _).mono hbs)⟩
                    case measure => simp [intOf]; omega
                  · clear hx
                    go_wp2
                    refine wp_region_quiet_below (by kernel_rfl) (by kernel_rfl) ?_
                    repeat (go_big_quiet_step (first | fail))
                    refine wpQuiet_nil ?_
                    intro _ hw'
                    obtain ⟨⟨dq, osq⟩, hw''⟩ := hw'
                    subst hw''
                    go_wp2
                    go_roundw
                    case rel => exact ⟨k + 1, false, by omega, by go_num, rfl, HT.out, hbw.trans ((below_regrown _ _ _).mono hbs)⟩
                    case measure => simp [intOf]; omega
            · rw [List.take_of_length_le (by omega)] at hfb
              obtain rfl : fb = true := hfb.symm.trans HM.out
              clear hfb
              have bbr := below_step bb3 hbw
              have hp := HP.out
              go_wp2_with fail
              refine (gives_is hp (implPicture_any _ _ _ (r1.kept bbr))).mono ?_
              rintro e w4 ⟨rfl, b4⟩
              clear hp
              go_wp2_with fail
              refine (alive_any _).mono ?_
              rintro e w5 ⟨rfl, b5⟩
              go_wp2
              go_ret
              exact ⟨rfl, below_step b1 (below_step (below_step bbr b4) b5)⟩
    · rcases hm : decide ((x, y) ∈ ps) with _ | _
      · have hq : hasB ps (x, y) = false := by unfold hasB; rw [hp, hm]; rfl
        have HM := Lib.hid hm
        have HP := Lib.hid hp
        clear hm hp
        by_cases h0 : ps.length = 0
        · obtain rfl := List.eq_nil_of_length_eq_zero h0
          go_wp2_with fail
          rw [← hW]
          clear hW
          refine (gives_is hq (implHas_any _ _ x y _ (r1.kept bW))).mono ?_
          rintro e w2 ⟨rfl, b2⟩
          have bb2 := below_step bW b2
          have c0 := (b2.cell (p := ⟨w1.heap.size, 0, none⟩) s1).trans a0
          have c1 := (b2.cell (p := ⟨w1.heap.size, 1, none⟩) s1).trans a1
          have s2 := Nat.le_trans s1 b2.size
          go_wp2_with fail
          refine (gives_is hq (specHas_any _ _ x y _ (r1.kept bb2))).mono ?_
          rintro e w3 ⟨rfl, b3⟩
          have bb3 := below_step bb2 b3
          go_wp2
          refine wp_loop_rounds 1 ?_
          rw [rounds_succ]
          go_wp2_with fail
          refine (alive_any _).mono ?_
          rintro e w5 ⟨rfl, b5⟩
          go_wp2
          go_ret
          exact ⟨rfl, below_step b1 (below_step bb3 b5)⟩
        · obtain ⟨b, off, rfl, hb', hcell⟩ := hr (by omega)
          go_wp2_with fail
          rw [← hW]
          clear hW
          refine (gives_is hq (implHas_any _ _ x y _ (r1.kept bW))).mono ?_
          rintro e w2 ⟨rfl, b2⟩
          have bb2 := below_step bW b2
          have c0 := (b2.cell (p := ⟨w1.heap.size, 0, none⟩) s1).trans a0
          have c1 := (b2.cell (p := ⟨w1.heap.size, 1, none⟩) s1).trans a1
          have s2 := Nat.le_trans s1 b2.size
          go_wp2_with fail
          refine (gives_is hq (specHas_any _ _ x y _ (r1.kept bb2))).mono ?_
          rintro e w3 ⟨rfl, b3⟩
          have bb3 := below_step bb2 b3
          have c0 := (b3.cell (p := ⟨w1.heap.size, 0, none⟩) s2).trans c0
          have c1 := (b3.cell (p := ⟨w1.heap.size, 1, none⟩) s2).trans c1
          have s3 := Nat.le_trans s2 b3.size
          clear a0 a1 hq
          go_wp2
          go_loopw [6, 7] (fun f i wr => ∃ (k : Nat) (fb : Bool), k ≤ ps.length ∧ i = .int .i64 k ∧ f = .bool fb ∧ decide ((x, y) ∈ ps.take k) = fb ∧ Below w3.heap.size w3 wr) (fun _ i _ => ps.length - (intOf i).toNat)
          case atStart => exact ⟨0, false, Nat.zero_le _, rfl, rfl, by simp, Below.refl _ _⟩
          case round =>
            obtain ⟨k, fb, hk, rfl, rfl, hfb, hbw⟩ := hrel
            have hbs := hbw.size
            by_cases hlt : k < ps.length
            · obtain ⟨⟨px, py⟩, hxy⟩ : ∃ a, ps[k]? = some a := ⟨_, List.getElem?_eq_getElem hlt⟩
              have ht := take_next (x := (x, y)) hxy
              rw [hfb] at ht
              obtain ⟨e0, e1⟩ := hcell k px py hxy
              have bbr := below_step bb3 hbw
              have f0 := cell_regrown ((bbr.cell (p := ⟨b, off + k * 2, none⟩) hb').trans e0)
              have f1 := cell_regrown ((bbr.cell (p := ⟨b, off + k * 2 + 1, none⟩) hb').trans e1)
              have g0 := cell_regrown ((hbw.cell (p := ⟨w1.heap.size, 0, none⟩) s3).trans c0)
              have g1 := cell_regrown ((hbw.cell (p := ⟨w1.heap.size, 1, none⟩) s3).trans c1)
              clear e0 e1 hxy hfb
              cases fb with
              | true =>
                have HT := Lib.hid ht
                clear ht
                go_wp2
                refine wp_region_quiet_below (by kernel_rfl) (by kernel_rfl) ?_
                repeat (go_big_quiet_step (first | fail))
                refine wpQuiet_nil ?_
                intro _ hw'
                obtain ⟨⟨dq, osq⟩, hw''⟩ := hw'
                subst hw''
                go_wp2
                go_roundw
                case rel => exact ⟨k + 1, true, by omega, by go_num, rfl, HT.out, hbw.trans ((below_regrown _ _ _).mono hbs)⟩
                case measure => simp [intOf]; omega
              | false =>
                by_cases hx : (x, y) = (px, py)
                · have HT := Lib.hid (ht.trans (by rw [decide_eq_true hx]; rfl : _ = true))
                  obtain ⟨rfl, rfl⟩ := Prod.mk.inj hx
                  clear hx ht
                  go_wp2
                  refine wp_region_quiet_below (by kernel_rfl) (by kernel_rfl) ?_
                  repeat (go_big_quiet_step (first | fail))
                  refine wpQuiet_nil ?_
                  intro _ hw'
                  obtain ⟨⟨dq, osq⟩, hw''⟩ := hw'
                  subst hw''
                  go_wp2
                  go_roundw
                  case rel => exact ⟨k + 1, true, by omega, by go_num, rfl, HT.out, hbw.trans ((below_regrown _ _ _).mono hbs)⟩
                  case measure => simp [intOf]; omega
                · have HT := Lib.hid (ht.trans (by rw [decide_eq_false hx]; rfl : _ = false))
                  clear ht
                  by_cases hxu : px = x
                  · subst hxu
                    have hyv : ¬ py = y := fun e => hx (by rw [e])
                    clear hx
                    go_wp2
                    refine wp_region_quiet_below (by kernel_rfl) (by kernel_rfl) ?_
                    repeat (go_big_quiet_step (first | fail))
                    refine wpQuiet_nil ?_
                    intro _ hw'
                    obtain ⟨⟨dq, osq⟩, hw''⟩ := hw'
                    subst hw''
                    go_wp2
                    go_roundw
                    case rel => exact ⟨k + 1, false, by omega, by go_num, rfl, HT.out, hbw.trans ((below_regrown _ _ _).mono hbs)⟩
                    case measure => simp [intOf]; omega
                  · clear hx
                    go_wp2
                    refine wp_region_quiet_below (by kernel_rfl) (by kernel_rfl) ?_
                    repeat (go_big_quiet_step (first | fail))
                    refine wpQuiet_nil ?_
                    intro _ hw'
                    obtain ⟨⟨dq, osq⟩, hw''⟩ := hw'
                    subst hw''
                    go_wp2
                    go_roundw
                    case rel => exact ⟨k + 1, false, by omega, by go_num, rfl, HT.out, hbw.trans ((below_regrown _ _ _).mono hbs)⟩
                    case measure => simp [intOf]; omega
            · rw [List.take_of_length_le (by omega)] at hfb
              obtain rfl : fb = false := hfb.symm.trans HM.out
              clear hfb
              have bbr := below_step bb3 hbw
              go_wp2_with fail
              refine (alive_any _).mono ?_
              rintro e w5 ⟨rfl, b5⟩
              go_wp2
              go_ret
              exact ⟨rfl, below_step b1 (below_step bbr b5)⟩
      · have hq : hasB ps (x, y) = true := by unfold hasB; rw [hp, hm]; rfl
        have HM := Lib.hid hm
        have HP := Lib.hid hp
        clear hm hp
        by_cases h0 : ps.length = 0
        · obtain rfl := List.eq_nil_of_length_eq_zero h0
          go_wp2_with fail
          rw [← hW]
          clear hW
          refine (gives_is hq (implHas_any _ _ x y _ (r1.kept bW))).mono ?_
          rintro e w2 ⟨rfl, b2⟩
          have bb2 := below_step bW b2
          have c0 := (b2.cell (p := ⟨w1.heap.size, 0, none⟩) s1).trans a0
          have c1 := (b2.cell (p := ⟨w1.heap.size, 1, none⟩) s1).trans a1
          have s2 := Nat.le_trans s1 b2.size
          go_wp2_with fail
          refine (gives_is hq (specHas_any _ _ x y _ (r1.kept bb2))).mono ?_
          rintro e w3 ⟨rfl, b3⟩
          have bb3 := below_step bb2 b3
          go_wp2
          refine wp_loop_rounds 1 ?_
          rw [rounds_succ]
          have h := HM.out
          simp at h
        · obtain ⟨b, off, rfl, hb', hcell⟩ := hr (by omega)
          go_wp2_with fail
          rw [← hW]
          clear hW
          refine (gives_is hq (implHas_any _ _ x y _ (r1.kept bW))).mono ?_
          rintro e w2 ⟨rfl, b2⟩
          have bb2 := below_step bW b2
          have c0 := (b2.cell (p := ⟨w1.heap.size, 0, none⟩) s1).trans a0
          have c1 := (b2.cell (p := ⟨w1.heap.size, 1, none⟩) s1).trans a1
          have s2 := Nat.le_trans s1 b2.size
          go_wp2_with fail
          refine (gives_is hq (specHas_any _ _ x y _ (r1.kept bb2))).mono ?_
          rintro e w3 ⟨rfl, b3⟩
          have bb3 := below_step bb2 b3
          have c0 := (b3.cell (p := ⟨w1.heap.size, 0, none⟩) s2).trans c0
          have c1 := (b3.cell (p := ⟨w1.heap.size, 1, none⟩) s2).trans c1
          have s3 := Nat.le_trans s2 b3.size
          clear a0 a1 hq
          go_wp2
          go_loopw [6, 7] (fun f i wr => ∃ (k : Nat) (fb : Bool), k ≤ ps.length ∧ i = .int .i64 k ∧ f = .bool fb ∧ decide ((x, y) ∈ ps.take k) = fb ∧ Below w3.heap.size w3 wr) (fun _ i _ => ps.length - (intOf i).toNat)
          case atStart => exact ⟨0, false, Nat.zero_le _, rfl, rfl, by simp, Below.refl _ _⟩
          case round =>
            obtain ⟨k, fb, hk, rfl, rfl, hfb, hbw⟩ := hrel
            have hbs := hbw.size
            by_cases hlt : k < ps.length
            · obtain ⟨⟨px, py⟩, hxy⟩ : ∃ a, ps[k]? = some a := ⟨_, List.getElem?_eq_getElem hlt⟩
              have ht := take_next (x := (x, y)) hxy
              rw [hfb] at ht
              obtain ⟨e0, e1⟩ := hcell k px py hxy
              have bbr := below_step bb3 hbw
              have f0 := cell_regrown ((bbr.cell (p := ⟨b, off + k * 2, none⟩) hb').trans e0)
              have f1 := cell_regrown ((bbr.cell (p := ⟨b, off + k * 2 + 1, none⟩) hb').trans e1)
              have g0 := cell_regrown ((hbw.cell (p := ⟨w1.heap.size, 0, none⟩) s3).trans c0)
              have g1 := cell_regrown ((hbw.cell (p := ⟨w1.heap.size, 1, none⟩) s3).trans c1)
              clear e0 e1 hxy hfb
              cases fb with
              | true =>
                have HT := Lib.hid ht
                clear ht
                go_wp2
                refine wp_region_quiet_below (by kernel_rfl) (by kernel_rfl) ?_
                repeat (go_big_quiet_step (first | fail))
                refine wpQuiet_nil ?_
                intro _ hw'
                obtain ⟨⟨dq, osq⟩, hw''⟩ := hw'
                subst hw''
                go_wp2
                go_roundw
                case rel => exact ⟨k + 1, true, by omega, by go_num, rfl, HT.out, hbw.trans ((below_regrown _ _ _).mono hbs)⟩
                case measure => simp [intOf]; omega
              | false =>
                by_cases hx : (x, y) = (px, py)
                · have HT := Lib.hid (ht.trans (by rw [decide_eq_true hx]; rfl : _ = true))
                  obtain ⟨rfl, rfl⟩ := Prod.mk.inj hx
                  clear hx ht
                  go_wp2
                  refine wp_region_quiet_below (by kernel_rfl) (by kernel_rfl) ?_
                  repeat (go_big_quiet_step (first | fail))
                  refine wpQuiet_nil ?_
                  intro _ hw'
                  obtain ⟨⟨dq, osq⟩, hw''⟩ := hw'
                  subst hw''
                  go_wp2
                  go_roundw
                  case rel => exact ⟨k + 1, true, by omega, by go_num, rfl, HT.out, hbw.trans ((below_regrown _ _ _).mono hbs)⟩
                  case measure => simp [intOf]; omega
                · have HT := Lib.hid (ht.trans (by rw [decide_eq_false hx]; rfl : _ = false))
                  clear ht
                  by_cases hxu : px = x
                  · subst hxu
                    have hyv : ¬ py = y := fun e => hx (by rw [e])
                    clear hx
                    go_wp2
                    refine wp_region_quiet_below (by kernel_rfl) (by kernel_rfl) ?_
                    repeat (go_big_quiet_step (first | fail))
                    refine wpQuiet_nil ?_
                    intro _ hw'
                    obtain ⟨⟨dq, osq⟩, hw''⟩ := hw'
                    subst hw''
                    go_wp2
                    go_roundw
                    case rel => exact ⟨k + 1, false, by omega, by go_num, rfl, HT.out, hbw.trans ((below_regrown _ _ _).mono hbs)⟩
                    case measure => simp [intOf]; omega
                  · clear hx
                    go_wp2
                    refine wp_region_quiet_below (by kernel_rfl) (by kernel_rfl) ?_
                    repeat (go_big_quiet_step (first | fail))
                    refine wpQuiet_nil ?_
                    intro _ hw'
                    obtain ⟨⟨dq, osq⟩, hw''⟩ := hw'
                    subst hw''
                    go_wp2
                    go_roundw
                    case rel => exact ⟨k + 1, false, by omega, by go_num, rfl, HT.out, hbw.trans ((below_regrown _ _ _).mono hbs)⟩
                    case measure => simp [intOf]; omega
            · rw [List.take_of_length_le (by omega)] at hfb
              obtain rfl : fb = true := hfb.symm.trans HM.out
              clear hfb
              have bbr := below_step bb3 hbw
              have hp := HP.out
              go_wp2_with fail
              refine (gives_is hp (implPicture_any _ _ _ (r1.kept bbr))).mono ?_
              rintro e w4 ⟨rfl, b4⟩
              clear hp
              go_wp2_with fail
              refine (alive_any _).mono ?_
              rintro e w5 ⟨rfl, b5⟩
              go_wp2
              go_ret
              exact ⟨rfl, below_step b1 (below_step (below_step bbr b4) b5)⟩
set_option maxRecDepth 100000 in
theorem lifted (os : Os) (started : os.Started) (H : Type) (enc : TypeId × Value → H) :
    ReturnsInHanded {} Try.checked os 3 .any (Rows.fnHasSpotSpec.pre6 enc Try.prog Try.f3 Rows.fnHasSpotRow.domain false) (Rows.fnHasSpotSpec.post enc Try.prog Try.f3 false true false false) := by
  refine returnsInHanded_of_change (C := Try.checked) own started (by kernel_rfl) Try.func3
    (ChangeSpec.witness6 (enc := enc) (C := Try.checked) false ⟨#[], #[.slice none 0 0], []⟩ 8 (by kernel_rfl) (by kernel_rfl) (by kernel_rfl) (by kernel_rfl)) ?_
  intro W base args ds gs before hval0 hW _ _
  have hval : ∀ (j : Nat) t v, Try.f3.params[j]? = some t → args[j]? = some v → Value.okWide Try.prog W .any base t v := hval0
  have hW' := hW
  obtain ⟨p, q, hA0, hV, rfl, _, _⟩ := hW
  have hA : DataW.TrodAll enc Try.prog W 0 (fun _ => true) true Try.f3.params.toList args.toList ds p := hA0
  rw [Try.params3] at hA hval
  obtain ⟨v0, d0, rfl, rfl, h0⟩ := trodAll_one hA
  obtain ⟨rfl, rfl⟩ := trodVars_none hV
  clear hA0 hval0
  simp only [List.append_nil] at hW'
  have hlt : ∀ x ∈ p, x.block < W.heap.size := fun x hx => by simpa using hW'.lt x hx
  have r0 := open_bytes (hval 0 22 v0 rfl rfl) h0 hlt
  obtain ⟨⟨bA, bn, bc⟩, rfl, rb, rn, rc⟩ := r0
  simp only at rb rn rc
  refine (walk bA bn bc W rb rn rc).mono fun e W' hg => ?_
  obtain ⟨he, hb⟩ := hg
  subst he
  exact ⟨_, rfl, _, _, _, [], p, [], hW', trodAll_mk1 (shut_bool Try.underlying4 _), trodAll_mk1 (kept_arg (by kernel_rfl) (of_decide_eq_true (by kernel_rfl)) h0 hb hlt), rfl, hb.frame _, fun h => by cases h⟩

theorem holds : Rows.FnHasSpotSaid :=
  OpenClaim.holds_of_wide 3 Try.f3 rfl rfl rfl rfl rfl rfl rfl ⟨rfl, rfl, rfl, rfl, rfl⟩ rfl rfl rfl rfl rfl (by kernel_rfl) Try.func3 (by kernel_rfl)
    (of_decide_eq_true (by kernel_rfl)) (by unfold Func.isWrapper; first | (rw [if_pos (by decide +kernel)]; kernel_rfl) | (rw [if_neg (by decide +kernel)]; exact ⟨rfl, rfl⟩))
    (fun os started H enc _ => lifted os started H enc)
end Go.Proofs.Ytfofmfkdkihhbaa.fnHasSpot
