/-
  Proved: the law of DeskRun (FnDeskRun) returns true for every code, and the code reads afterwards as it read before. No conditions.
-/
import Derived.Test.YtkiidmdgdjphjaaGreatDeskE
import Derived.Test.YtkiidmdgdjphjaaGreatDeskY
import Derived.Test.YtkiidmdgdjphjaaGreatDeskG
import Derived.Test.YtkiidmdgdjphjaaGreatDrawRun
import Derived.Deep.CutRange
import Derived.Deep.RegionHeld3
namespace Go.Proofs.YtkiidmdgdjphjaaGreat.fnDeskRun
open Go.ChangeShapes Go.WideShapes Go.ChangeAt Go.RowKit

/-- a list of deeds cut at an index -/
theorem cut_lo {w : World} {B n c k : Nat} {A : Option Addr} {l : List Dd} (h : CReads w B (.slice A n c) l) (hk : k ≤ l.length) :
    ∃ A', (∀ W, (Instr.slice 38 (.slice A n c) none (some (.int .i64 (k : Int))) none).run Tryz.prog W = .ok (.slice A' k c) W) ∧ CReads w B (.slice A' k c) (l.take k) := by
  obtain ⟨A0, c0, e, h1, h2, h3, h4⟩ := h.is
  cases e
  refine ⟨if c = 0 then A else A.map (·.add (0 * 3)), fun W => ?_, ?_, c, ?_, ?_, h2, ?_, ?_⟩
  · rw [run_slice_h (P := Tryz.prog) (w := W) 38 A l.length c (by kernel_rfl) .i64 (k : Int) (by omega) (by omega)]
    have hz : (sizeOf (Tryz.prog.elem 38)).run Tryz.prog W = .ok 3 W := by kernel_rfl
    rw [hz]
    simp only [Result.andThen, sliced, Int.toNat_natCast, Nat.sub_zero]
  · exact if c = 0 then A else A.map (·.add (0 * 3))
  · rw [List.length_take, Nat.min_eq_left hk]
  · rw [List.length_take]; omega
  · intro e
    split at e
    · assumption
    · cases A with
      | none => exact h3 rfl
      | some a => cases e
  · intro hc
    obtain ⟨b, off, e1, e2, e3⟩ := h4 hc
    refine ⟨b, off, ?_, e2, fun j x y r hj => e3 j x y r ?_⟩
    · rw [if_neg (by omega), e1]; rfl
    · rw [List.getElem?_take] at hj
      split at hj
      · exact hj
      · cases hj
theorem cut_hi {w : World} {B n c k : Nat} {A : Option Addr} {l : List Dd} (h : CReads w B (.slice A n c) l) (hk : k ≤ l.length) :
    ∃ A', (∀ W, (Instr.slice 38 (.slice A n c) (some (.int .i64 (k : Int))) none none).run Tryz.prog W = .ok (.slice A' (l.length - k) (c - k)) W) ∧ CReads w B (.slice A' (l.length - k) (c - k)) (l.drop k) := by
  obtain ⟨A0, c0, e, h1, h2, h3, h4⟩ := h.is
  cases e
  refine ⟨if c = k then A else A.map (·.add (k * 3)), fun W => ?_, ?_, c - k, ?_, ?_, by omega, ?_, ?_⟩
  · rw [run_slice_l (P := Tryz.prog) (w := W) 38 A l.length c (by kernel_rfl) .i64 (k : Int) (by omega) (by omega)]
    have hz : (sizeOf (Tryz.prog.elem 38)).run Tryz.prog W = .ok 3 W := by kernel_rfl
    rw [hz]
    simp only [Result.andThen, sliced, Int.toNat_natCast]
  · exact if c = k then A else A.map (·.add (k * 3))
  · rw [List.length_drop]
  · rw [List.length_drop]; omega
  · intro e
    split at e
    · omega
    · cases A with
      | none => have := h3 rfl; omega
      | some a => cases e
  · intro hc
    obtain ⟨b, off, e1, e2, e3⟩ := h4 (by omega)
    refine ⟨b, off + k * 3, ?_, e2, fun j x y r hj => ?_⟩
    · rw [if_neg (by omega), e1]; simp [Addr.add]
    · rw [List.getElem?_drop] at hj
      have a := e3 (k + j) x y r hj
      have e4 : off + (k + j) * 3 = off + k * 3 + j * 3 := by omega
      exact ⟨by have := a.c0; rwa [e4] at this, by have := a.c1; rwa [e4] at this, by have := a.c2; rwa [e4] at this⟩
theorem run_is {d : Dk} {l : List Dd} {R : Dk} {N : Int} {v vl : Value} {w : World} (hR : deskRunR d l = R) (hN : deskRunN d l = N) (h : DeskR w w.heap.size v d) (hl : CReads w w.heap.size vl l) : Calls Tryz.prog 13 #[v, vl] w (GivesDeskN R N w) := by
  subst hR; subst hN; exact implDeskRun_any d l v vl w h hl
theorem runS_is {d : Dk} {l : List Dd} {R : Dk} {N : Int} {v vl : Value} {w : World} (hR : deskRunR d l = R) (hN : deskRunN d l = N) (h : DeskR w w.heap.size v d) (hl : CReads w w.heap.size vl l) : Calls Tryz.prog 14 #[v, vl] w (GivesDeskN R N w) := by
  subst hR; subst hN; exact specDeskRun_any d l v vl w h hl
set_option maxRecDepth 100000 in
set_option maxHeartbeats 6400000 in
theorem walk (A : Option Addr) (n c : Nat) (w : World) (hb : Bytes w w.heap.size A n) (hn : n ≤ c) (hc : c ≤ 9223372036854775807) :
    Calls Tryz.prog 4 #[.slice A n c] w (Gives (.bool true) w) := by
  by_cases hbig : 1048576 < n
  · go_enter Tryz.func4, Tryz.ntmps4
    go_wp2
    go_ret
    exact ⟨rfl, Below.refl _ _⟩
  · go_enter Tryz.func4, Tryz.ntmps4
    go_wp2_with fail
    refine (drawRun_any A n c _ hb hn hc).mono ?_
    rintro e w1 ⟨v, d, lo, hi, u, l, rfl, oD, rU, hl41, bb⟩
    have rD := oD.rd
    obtain ⟨n2, p2, e2, rn, rp⟩ := oD.rd
    subst e2
    obtain ⟨An, cn, rfl, _, _⟩ := rn.slice
    obtain ⟨Ap, cp, rfl, _, _⟩ := rp.slice
    obtain ⟨Al, cl, rfl, hl1, hl2⟩ := rU.slice
    unfold maxLen at hl2
    clear rn rp oD hb hn hc
    obtain ⟨W, hW⟩ : ∃ W, W = w1.alloc (.cells #[.slice An d.1.length cn, .slice Ap d.2.length cp] 26) := ⟨_, rfl⟩
    have bW : Below w1.heap.size w1 W := by rw [hW]; exact box_below w1 _ _
    have HD : Held W w1.heap.size (.slice An d.1.length cn) (.slice Ap d.2.length cp) d := ⟨by rw [hW]; exact heap_alloc_new w1 _, rD.kept bW⟩
    have HU : CReads W W.heap.size (.slice Al l.length cl) l := rU.kept bW
    replace bb := below_step bb bW
    clear bW rD rU
    have a0 := HD.c0
    have a1 := HD.c1
    obtain ⟨R, hR⟩ : ∃ R, deskRunR d l = R := ⟨_, rfl⟩
    obtain ⟨N, hN⟩ : ∃ N, deskRunN d l = N := ⟨_, rfl⟩
    have HR := Lib.hid hR
    have HN := Lib.hid hN
    go_wp2_with (first | (rw [← hW]; clear hW) | fail)
    refine (run_is HR.out HN.out HD.rd HU).mono ?_
    rintro e w2 ⟨vg, rfl, og, b2⟩
    replace bb := below_step bb b2
    replace HD := HD.below b2
    replace HU := HU.kept b2
    clear a0 a1
    have a0 := HD.c0
    have a1 := HD.c1
    obtain ⟨nx, px, ex, rnx, rpx⟩ := (og).rd
    subst ex
    obtain ⟨A5, c5, rfl, _, _⟩ := rnx.slice
    obtain ⟨P5, d5, rfl, _, _⟩ := rpx.slice
    clear rnx rpx
    obtain ⟨W5, hW5⟩ : ∃ W, W = (w2).alloc (.cells #[.slice A5 (R).1.length c5, .slice P5 (R).2.length d5] 26) := ⟨_, rfl⟩
    have bx5 : Below (w2).heap.size w2 W5 := by rw [hW5]; exact box_below _ _ _
    have r5 : (W5).heap[(w2).heap.size]? = some (.cells #[.slice A5 (R).1.length c5, .slice P5 (R).2.length d5] 26 (0, 0)) := by rw [hW5]; exact heap_alloc_new _ _
    have s5 : (w2).heap.size + 1 = (W5).heap.size := by rw [hW5]; simp
    have o5 := (og).below bx5
    have HX : Held W5 w2.heap.size _ _ R := ⟨r5, o5.rd⟩
    replace bb := below_step bb bx5
    replace HD := HD.below bx5
    replace HU := HU.kept bx5
    clear a0 a1
    have a0 := HD.c0
    have a1 := HD.c1
    have x0 := HX.c0
    have x1 := HX.c1
    clear o5 r5 og s5
    go_wp2_with (first | (rw [← hW5]; clear hW5) | fail)
    refine (runS_is HR.out HN.out HD.rd HU).mono ?_
    rintro e w3 ⟨vw, rfl, ow, b3⟩
    replace bb := below_step bb b3
    replace HD := HD.below b3
    replace HU := HU.kept b3
    clear a0 a1
    have a0 := HD.c0
    have a1 := HD.c1
    replace HX := HX.below b3
    clear x0 x1
    have x0 := HX.c0
    have x1 := HX.c1
    obtain ⟨nx, px, ex, rnx, rpx⟩ := (ow).rd
    subst ex
    obtain ⟨A7, c7, rfl, _, _⟩ := rnx.slice
    obtain ⟨P7, d7, rfl, _, _⟩ := rpx.slice
    clear rnx rpx
    obtain ⟨W7, hW7⟩ : ∃ W, W = (w3).alloc (.cells #[.slice A7 (R).1.length c7, .slice P7 (R).2.length d7] 26) := ⟨_, rfl⟩
    have bx7 : Below (w3).heap.size w3 W7 := by rw [hW7]; exact box_below _ _ _
    have r7 : (W7).heap[(w3).heap.size]? = some (.cells #[.slice A7 (R).1.length c7, .slice P7 (R).2.length d7] 26 (0, 0)) := by rw [hW7]; exact heap_alloc_new _ _
    have s7 : (w3).heap.size + 1 = (W7).heap.size := by rw [hW7]; simp
    have o7 := (ow).below bx7
    have HY : Held W7 w3.heap.size _ _ R := ⟨r7, o7.rd⟩
    replace bb := below_step bb bx7
    replace HD := HD.below bx7
    replace HU := HU.kept bx7
    clear a0 a1
    have a0 := HD.c0
    have a1 := HD.c1
    replace HX := HX.below bx7
    clear x0 x1
    have x0 := HX.c0
    have x1 := HX.c1
    have y0 := HY.c0
    have y1 := HY.c1
    clear o7 r7 ow s7
    go_wp2_with (first | (rw [← hW7]; clear hW7) | fail)
    refine (sameD_is (b := true) (by simp) HX.rd HY.rd).mono ?_
    rintro e w4 ⟨rfl, bn⟩
    replace bb := below_step bb bn
    replace HD := HD.below bn
    replace HU := HU.kept bn
    clear a0 a1
    have a0 := HD.c0
    have a1 := HD.c1
    replace HX := HX.below bn
    clear x0 x1
    have x0 := HX.c0
    have x1 := HX.c1
    clear HY y0 y1 bn bx5 bx7 b2 b3
    rcases hru : runB d l with _ | _
    · have e1 : R = ([], []) := by rw [← hR, (run_no hru).1]
      have e2 : N = 0 := by rw [← hN, (run_no hru).2]
      have hno : decide (R = (([], []) : Dk)) = true := decide_eq_true e1
      clear hR hN HR HN
      subst e2
      replace e1 := Lib.hid e1
      rcases hdk : deskB d with _ | _
      · go_wp2_with fail
        refine (dokS_is hdk HD.rd).mono ?_
        rintro e w5 ⟨rfl, bn⟩
        replace bb := below_step bb bn
        replace HD := HD.below bn
        replace HU := HU.kept bn
        clear a0 a1
        have a0 := HD.c0
        have a1 := HD.c1
        replace HX := HX.below bn
        clear x0 x1
        have x0 := HX.c0
        have x1 := HX.c1
        clear bn
        go_wp2_with fail
        refine (noDesk_any R hno _ _ HX.rd).mono ?_
        rintro e w6 ⟨rfl, bn⟩
        replace bb := below_step bb bn
        replace HD := HD.below bn
        replace HU := HU.kept bn
        clear a0 a1
        have a0 := HD.c0
        have a1 := HD.c1
        clear bn
        go_wp2_with fail
        refine (alive_any _).mono ?_
        rintro e w13 ⟨rfl, bn⟩
        go_wp2
        go_ret
        exact ⟨rfl, below_step bb bn⟩
      · have h40 : (40 : Int) < (l.length : Int) := by
          unfold runB at hru
          rw [hdk, Bool.true_and, decide_eq_false_iff_not] at hru
          omega
        go_wp2_with fail
        refine (dokS_is hdk HD.rd).mono ?_
        rintro e w5 ⟨rfl, bn⟩
        replace bb := below_step bb bn
        replace HD := HD.below bn
        replace HU := HU.kept bn
        clear a0 a1
        have a0 := HD.c0
        have a1 := HD.c1
        replace HX := HX.below bn
        clear x0 x1
        have x0 := HX.c0
        have x1 := HX.c1
        clear bn
        go_wp2_with fail
        refine (noDesk_any R hno _ _ HX.rd).mono ?_
        rintro e w6 ⟨rfl, bn⟩
        replace bb := below_step bb bn
        replace HD := HD.below bn
        replace HU := HU.kept bn
        clear a0 a1
        have a0 := HD.c0
        have a1 := HD.c1
        clear bn
        go_wp2_with fail
        refine (alive_any _).mono ?_
        rintro e w13 ⟨rfl, bn⟩
        go_wp2
        go_ret
        exact ⟨rfl, below_step bb bn⟩
    · obtain ⟨hdk, hl40⟩ := run_parts hru
      have hRok : deskB R = true := by rw [← hR, (run_yes hru).1]; exact desk_runR l hdk
      have hNr : 0 ≤ N ∧ N ≤ 40 := by
        rw [← hN, (run_yes hru).2]
        have := runN_le d l
        omega
      have h40 : ¬ (40 : Int) < (l.length : Int) := by omega
      go_wp2_with fail
      refine (dokS_is hdk HD.rd).mono ?_
      rintro e w5 ⟨rfl, bn⟩
      replace bb := below_step bb bn
      replace HD := HD.below bn
      replace HU := HU.kept bn
      clear a0 a1
      have a0 := HD.c0
      have a1 := HD.c1
      replace HX := HX.below bn
      clear x0 x1
      have x0 := HX.c0
      have x1 := HX.c1
      clear bn
      obtain ⟨k, hk⟩ : ∃ k, l.length / 2 = k := ⟨_, rfl⟩
      have hkl : k ≤ l.length := by omega
      have hkI : ((l.length : Int)).tdiv 2 = (k : Int) := by rw [Int.tdiv_eq_ediv_of_nonneg (by omega)]; omega
      have hkJ : (l.length : Int) / 2 = (k : Int) := by omega
      obtain ⟨hh1, hh2, hh3, hh4⟩ := run_halves hru k
      rw [hR] at hh3
      rw [hN] at hh4
      obtain ⟨R1, hR1⟩ : ∃ R1, deskRunR d (l.take k) = R1 := ⟨_, rfl⟩
      obtain ⟨N1, hN1⟩ : ∃ N1, deskRunN d (l.take k) = N1 := ⟨_, rfl⟩
      rw [hR1] at hh3 hh4
      rw [hN1] at hh4
      obtain ⟨N2, hN2⟩ : ∃ N2, deskRunN R1 (l.drop k) = N2 := ⟨_, rfl⟩
      rw [hN2] at hh4
      have HR1 := Lib.hid hR1
      have HN1 := Lib.hid hN1
      have HR2 := Lib.hid hh3
      have HN2 := Lib.hid hN2
      have HSum := Lib.hid hh4
      clear hR hN hh1 hh2 hh3 hh4 hR1 hN1 hN2 hk
      obtain ⟨A1, hs1, _⟩ := cut_lo HU hkl
      obtain ⟨A2, hs2, _⟩ := cut_hi HU hkl
      have L1 : CReads w5 w5.heap.size (.slice A1 k cl) (l.take k) := by assumption
      have L2 : CReads w5 w5.heap.size (.slice A2 (l.length - k) (cl - k)) (l.drop k) := by assumption
      clear HU
      have D0 := (HD).below ((Below.refl (w5).heap.size w5).drew)
      have D0a := (HD).below ((box_below w5 #[.slice none 0 0, .slice none 0 0] 26).drew)
      have L0 := (L1).kept ((Below.refl (w5).heap.size w5).drew)
      have L0a := (L1).kept ((box_below w5 #[.slice none 0 0, .slice none 0 0] 26).drew)
      have ta0 := D0.c0
      have ta1 := D0.c1
      have tb0 := D0a.c0
      have tb1 := D0a.c1
      have rGa : ((w5).alloc (.cells #[.slice none 0 0, .slice none 0 0] 26)).drew.heap[(w5).heap.size]? = some (.cells #[.slice none 0 0, .slice none 0 0] 26 (0, 0)) := heap_alloc_new w5 _
      have lGa : (w5).heap.size < ((w5).alloc (.cells #[.slice none 0 0, .slice none 0 0] 26)).drew.heap.size := by simp
      have n1N : w1.heap.size ≠ (w5).heap.size := by have := (HD).lt; omega
      have n2N := Ne.symm n1N
      go_upto_region 11 with fail
      go_cut [10, 11] from 14 (fun s1 s2 wx => ∃ G u n v p, s1 = .pointer (some ⟨G, 0, none⟩) ∧ s2 = .int .i64 N1 ∧ Held wx G (.slice u R1.1.length n) (.slice v R1.2.length p) R1 ∧ Below (w5).heap.size w5 wx)
      case first =>
        go_region_held3 (fun w' => w'.cell? ⟨w1.heap.size, 0, none⟩ = some (.slice An d.1.length cn) ∧ w'.cell? ⟨w1.heap.size, 1, none⟩ = some (.slice Ap d.2.length cp)) (first | (refine ⟨?_, ?_⟩ <;> with_reducible assumption) | go_keep)
          (first
            | (go_at_call 13; (with_reducible refine (run_is HR1.out HN1.out D0.rd L0).mono ?_); rintro e wc ⟨vw, rfl, ow, bn⟩; have F1 := (Below.refl (w5).heap.size w5).drew; have bnn := bn; obtain ⟨nx, px, ex, rnx, rpx⟩ := ow.rd; subst ex; obtain ⟨Aw, cw, rfl, _, _⟩ := rnx.slice; obtain ⟨Pw, dw, rfl, _, _⟩ := rpx.slice; clear rnx rpx; have ta0 := (D0.below bn).c0; have ta1 := (D0.below bn).c1)
            | (go_at_call 13; (with_reducible refine (run_is HR1.out HN1.out D0a.rd L0a).mono ?_); rintro e wc ⟨vw, rfl, ow, bn⟩; have F1 := (box_below w5 #[.slice none 0 0, .slice none 0 0] 26).drew; have bnn := bn; obtain ⟨nx, px, ex, rnx, rpx⟩ := ow.rd; subst ex; obtain ⟨Aw, cw, rfl, _, _⟩ := rnx.slice; obtain ⟨Pw, dw, rfl, _, _⟩ := rpx.slice; clear rnx rpx; have ta0 := (D0a.below bn).c0; have ta1 := (D0a.below bn).c1; have rG := (bn.block _ lGa).trans rGa; have g0 := (cells_of_row rG).1; have g1 := (cells_of_row rG).2; have fr0 := frozen_of_row wc _ 0 _ _ rG; have fr1 := frozen_of_row wc _ 1 _ _ rG))
        all_goals
          go_wp2_with fail
          go_meet
          case rel =>
            have z1 := F1.size
            have z2 := bnn.size
            first
              | exact ⟨_, Aw, cw, Pw, dw, rfl, rfl, boxd_held (boxd_late F1 bnn ow), below_step (below_step F1 bnn) (box_below _ _ _)⟩
              | exact ⟨_, Aw, cw, Pw, dw, rfl, rfl, boxd_held (boxd_early F1 bnn ow ⟨(by first | omega | (simp; omega)), lGa⟩ rG), ((below_step F1 bnn).setCell (p := ⟨_, 0, none⟩) (by simp only []; first | omega | (simp; omega)) _).setCell (p := ⟨_, 1, none⟩) (by simp only []; first | omega | (simp; omega)) _⟩
      case rest =>
        obtain ⟨G, u1, c1, v1, d1, rfl, rfl, HB, F6⟩ := hcut
        generalize wc = w6 at *
        clear D0 D0a L0 L0a ta0 ta1 tb0 tb1 rGa lGa n1N n2N L1
        replace bb := below_step bb F6
        replace HX := HX.below F6
        replace L2 := L2.kept F6
        clear x0 x1 F6 a0 a1 HD
        have D0 := (HB).below ((Below.refl (w6).heap.size w6).drew)
        have D0a := (HB).below ((box_below w6 #[.slice none 0 0, .slice none 0 0] 26).drew)
        have L0 := (L2).kept ((Below.refl (w6).heap.size w6).drew)
        have L0a := (L2).kept ((box_below w6 #[.slice none 0 0, .slice none 0 0] 26).drew)
        have ta0 := D0.c0
        have ta1 := D0.c1
        have tb0 := D0a.c0
        have tb1 := D0a.c1
        have rGa : ((w6).alloc (.cells #[.slice none 0 0, .slice none 0 0] 26)).drew.heap[(w6).heap.size]? = some (.cells #[.slice none 0 0, .slice none 0 0] 26 (0, 0)) := heap_alloc_new w6 _
        have lGa : (w6).heap.size < ((w6).alloc (.cells #[.slice none 0 0, .slice none 0 0] 26)).drew.heap.size := by simp
        have n1N : G ≠ (w6).heap.size := by have := (HB).lt; omega
        have n2N := Ne.symm n1N
        go_upto_region 12 with fail
        go_cut [12, 13] from 14 (fun s1 s2 wx => ∃ G u n v p, s1 = .pointer (some ⟨G, 0, none⟩) ∧ s2 = .int .i64 N2 ∧ Held wx G (.slice u R.1.length n) (.slice v R.2.length p) R ∧ Below (w6).heap.size w6 wx)
        case first =>
          go_region_held3 (fun w' => w'.cell? ⟨G, 0, none⟩ = some (.slice u1 R1.1.length c1) ∧ w'.cell? ⟨G, 1, none⟩ = some (.slice v1 R1.2.length d1)) (first | (refine ⟨?_, ?_⟩ <;> with_reducible assumption) | go_keep)
            (first
              | (go_at_call 13; (with_reducible refine (run_is HR2.out HN2.out D0.rd L0).mono ?_); rintro e wc ⟨vw, rfl, ow, bn⟩; have F1 := (Below.refl (w6).heap.size w6).drew; have bnn := bn; obtain ⟨nx, px, ex, rnx, rpx⟩ := ow.rd; subst ex; obtain ⟨Aw, cw, rfl, _, _⟩ := rnx.slice; obtain ⟨Pw, dw, rfl, _, _⟩ := rpx.slice; clear rnx rpx; have ta0 := (D0.below bn).c0; have ta1 := (D0.below bn).c1)
              | (go_at_call 13; (with_reducible refine (run_is HR2.out HN2.out D0a.rd L0a).mono ?_); rintro e wc ⟨vw, rfl, ow, bn⟩; have F1 := (box_below w6 #[.slice none 0 0, .slice none 0 0] 26).drew; have bnn := bn; obtain ⟨nx, px, ex, rnx, rpx⟩ := ow.rd; subst ex; obtain ⟨Aw, cw, rfl, _, _⟩ := rnx.slice; obtain ⟨Pw, dw, rfl, _, _⟩ := rpx.slice; clear rnx rpx; have ta0 := (D0a.below bn).c0; have ta1 := (D0a.below bn).c1; have rG := (bn.block _ lGa).trans rGa; have g0 := (cells_of_row rG).1; have g1 := (cells_of_row rG).2; have fr0 := frozen_of_row wc _ 0 _ _ rG; have fr1 := frozen_of_row wc _ 1 _ _ rG))
          all_goals
            go_wp2_with fail
            go_meet
            case rel =>
              have z1 := F1.size
              have z2 := bnn.size
              first
                | exact ⟨_, Aw, cw, Pw, dw, rfl, rfl, boxd_held (boxd_late F1 bnn ow), below_step (below_step F1 bnn) (box_below _ _ _)⟩
                | exact ⟨_, Aw, cw, Pw, dw, rfl, rfl, boxd_held (boxd_early F1 bnn ow ⟨(by first | omega | (simp; omega)), lGa⟩ rG), ((below_step F1 bnn).setCell (p := ⟨_, 0, none⟩) (by simp only []; first | omega | (simp; omega)) _).setCell (p := ⟨_, 1, none⟩) (by simp only []; first | omega | (simp; omega)) _⟩
        case rest =>
          obtain ⟨G2, u2, c2, v2, d2, rfl, rfl, HC, F7⟩ := hcut
          generalize wc = w7 at *
          clear D0 D0a L0 L0a ta0 ta1 tb0 tb1 rGa lGa n1N n2N L2
          replace bb := below_step bb F7
          replace HX := HX.below F7
          clear F7 HB
          have x0 := HX.c0
          have x1 := HX.c1
          have z0 := HC.c0
          have z1 := HC.c1
          have hS1 : N1 + N2 = N := HSum.out
          have hw1 : IntKind.i64.wrap N = N := IntWalk.i64_in _ (by omega)
          have hw2 : wrap64 N = N := by unfold wrap64; omega
          go_wp2_with fail
          refine (dokI_is hRok HX.rd).mono ?_
          rintro e w8 ⟨rfl, bn⟩
          replace bb := below_step bb bn
          replace HX := HX.below bn
          replace HC := HC.below bn
          clear x0 x1 z0 z1 bn
          have x0 := HX.c0
          have x1 := HX.c1
          have z0 := HC.c0
          have z1 := HC.c1
          go_wp2_with fail
          refine (sameD_is (b := true) (by simp) HC.rd HX.rd).mono ?_
          rintro e w9 ⟨rfl, bn⟩
          replace bb := below_step bb bn
          clear x0 x1 z0 z1 bn HX HC
          go_wp2_with fail
          refine (alive_any _).mono ?_
          rintro e w13 ⟨rfl, bn⟩
          go_wp2
          go_ret
          exact ⟨rfl, below_step bb bn⟩
set_option maxRecDepth 100000 in
theorem lifted (os : Os) (started : os.Started) (H : Type) (enc : TypeId × Value → H) :
    ReturnsInHanded {} Tryz.checked os 4 .any (Rows.fnDeskRunSpec.pre6 enc Tryz.prog Tryz.f4 Rows.fnDeskRunRow.domain false) (Rows.fnDeskRunSpec.post enc Tryz.prog Tryz.f4 false true false false) := by
  refine returnsInHanded_of_change (C := Tryz.checked) own started (by kernel_rfl) Tryz.func4
    (ChangeSpec.witness6 (enc := enc) (C := Tryz.checked) false ⟨#[], #[.slice none 0 0], []⟩ 8 (by kernel_rfl) (by kernel_rfl) (by kernel_rfl) (by kernel_rfl)) ?_
  intro W base args ds gs before hval0 hW _ _
  have hval : ∀ (j : Nat) t v, Tryz.f4.params[j]? = some t → args[j]? = some v → Value.okWide Tryz.prog W .any base t v := hval0
  have hW' := hW
  obtain ⟨p, q, hA0, hV, rfl, _, _⟩ := hW
  have hA : DataW.TrodAll enc Tryz.prog W 0 (fun _ => true) true Tryz.f4.params.toList args.toList ds p := hA0
  rw [Tryz.params4] at hA hval
  obtain ⟨v0, d0, rfl, rfl, h0⟩ := trodAll_one hA
  obtain ⟨rfl, rfl⟩ := trodVars_none hV
  clear hA0 hval0
  simp only [List.append_nil] at hW'
  have hlt : ∀ x ∈ p, x.block < W.heap.size := fun x hx => by simpa using hW'.lt x hx
  have r0 := open_bytes (hval 0 22 v0 rfl rfl) h0 hlt
  obtain ⟨⟨bA, bn, bc⟩, rfl, rb, rn, rc⟩ := r0
  simp only at rb rn rc
  refine (walk bA bn bc W rb rn rc).mono fun e W' hg => ?_
  obtain ⟨he, hb⟩ := hg
  subst he
  exact ⟨_, rfl, _, _, _, [], p, [], hW', trodAll_mk1 (shut_bool Tryz.underlying4 _), trodAll_mk1 (kept_arg (by kernel_rfl) (of_decide_eq_true (by kernel_rfl)) h0 hb hlt), rfl, hb.frame _, fun h => by cases h⟩

theorem holds : Rows.FnDeskRunSaid :=
  OpenClaim.holds_of_wide 4 Tryz.f4 rfl rfl rfl rfl rfl rfl rfl ⟨rfl, rfl, rfl, rfl, rfl⟩ rfl rfl rfl rfl rfl (by kernel_rfl) Tryz.func4 (by kernel_rfl)
    (of_decide_eq_true (by kernel_rfl)) (by unfold Func.isWrapper; first | (rw [if_pos (by decide +kernel)]; kernel_rfl) | (rw [if_neg (by decide +kernel)]; exact ⟨rfl, rfl⟩))
    (fun os started H enc _ => lifted os started H enc)
end Go.Proofs.YtkiidmdgdjphjaaGreat.fnDeskRun
