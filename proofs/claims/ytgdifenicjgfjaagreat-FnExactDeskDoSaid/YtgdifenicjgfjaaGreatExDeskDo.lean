/-
  Proved: the exact law of DeskDo (FnExactDeskDo) returns true for every input, and its arguments read afterwards as they read before. No conditions.
-/
import Derived.Test.YtgdifenicjgfjaaGreatDeskE
import Derived.Test.YtgdifenicjgfjaaGreatDeskZ
import Derived.Test.YtgdifenicjgfjaaGreatDeskG
import Derived.Test.YtgdifenicjgfjaaGreatDeedL
import Derived.Test.YtgdifenicjgfjaaGreatOpenD
import Derived.Deep.RegionHeld3
namespace Go.Proofs.YtgdifenicjgfjaaGreat.exDeskDo
open Go.ChangeShapes Go.WideShapes Go.ChangeAt Go.RowKit

set_option maxRecDepth 100000 in
set_option maxHeartbeats 6400000 in
theorem walk (d : Dk) (k x y : Int) (v : Value) (w : World) (h : DeskR w w.heap.size v d) : Calls Tryz.prog 5 #[v, .agg #[.int .i64 k, .int .i64 x, .int .i64 y]] w (Gives (.bool true) w) := by
  have hD := h
  obtain ⟨n, p, rfl, rn, rp⟩ := h
  obtain ⟨An, cn, rfl, _, _⟩ := rn.slice
  obtain ⟨Ap, cp, rfl, _, _⟩ := rp.slice
  clear rn rp
  obtain ⟨W, hW⟩ : ∃ W, W = (w.alloc (.cells #[.slice An d.1.length cn, .slice Ap d.2.length cp] 46)).alloc (.cells #[.int .i64 k, .int .i64 x, .int .i64 y] 47) := ⟨_, rfl⟩
  have b0 : Below w.heap.size w W := by rw [hW]; exact (box_below w _ _).alloc (by simp) _
  have C0 : Came W W w.heap.size (w.heap.size + 1) (.slice An d.1.length cn) (.slice Ap d.2.length cp) k x y d := by
    obtain ⟨p0, p1⟩ := cells_of_row (show W.heap[w.heap.size]? = some (.cells #[.slice An d.1.length cn, .slice Ap d.2.length cp] 46 (0, 0)) by rw [hW]; exact two0 w _ _)
    obtain ⟨k0, k1, k2⟩ := cells3_of (show W.heap[w.heap.size + 1]? = some (.cells #[.int .i64 k, .int .i64 x, .int .i64 y] 47 (0, 0)) by rw [hW]; exact two1 w _ _)
    exact ⟨Below.refl _ _, p0, p1, k0, k1, k2, hD.kept b0, by rw [hW]; simp only [World.size_alloc]; omega⟩
  clear hD
  have p0 := C0.p0
  have p1 := C0.p1
  by_cases hl : 1048576 < (dsz d : Int)
  · go_enter Tryz.func5, Tryz.ntmps5
    go_wp2_with (first | (rw [← hW]; clear hW) | fail)
    refine (szDesk_yes C0.hd (by omega) (by omega) hl).mono ?_
    rintro e w1 ⟨rfl, b1⟩
    go_wp2
    go_ret
    exact ⟨rfl, below_step b0 b1⟩
  have hlN : dsz d ≤ 1048576 := by omega
  have HL := Lib.hid hlN
  have hds := (sz_sum hlN).1
  obtain ⟨R, hR⟩ : ∃ R, deskDoR d ((k, x), y) = R := ⟨_, rfl⟩
  obtain ⟨OK, hOK⟩ : ∃ b, deskDoOk d ((k, x), y) = b := ⟨_, rfl⟩
  have hRs : dsum R ≤ 1100000 := by rw [← hR]; exact do_sum d _
  go_enter Tryz.func5, Tryz.ntmps5
  go_wp2_with (first | (rw [← hW]; clear hW) | fail)
  refine (szDesk_no (r := 1048576 - (dsz d : Int)) C0.hd (by omega) (by omega) rfl (by omega)).mono ?_
  rintro e w1 ⟨rfl, b1⟩
  have hnn : ¬ (1048576 - (dsz d : Int) < 0) := by omega
  have C := C0.below b1
  clear b1 p0 p1
  have D0 := C.drew
  have D0a := (C.alloc (.cells #[.slice none 0 0, .slice none 0 0] 26)).drew
  have ta0 := D0.p0
  have ta1 := D0.p1
  have ta2 := D0.k0
  have ta3 := D0.k1
  have ta4 := D0.k2
  have tb0 := D0a.p0
  have tb1 := D0a.p1
  have tb2 := D0a.k0
  have tb3 := D0a.k1
  have tb4 := D0a.k2
  have rGa : (w1.alloc (.cells #[.slice none 0 0, .slice none 0 0] 26)).drew.heap[w1.heap.size]? = some (.cells #[.slice none 0 0, .slice none 0 0] 26 (0, 0)) := heap_alloc_new w1 _
  have lGa : w1.heap.size < (w1.alloc (.cells #[.slice none 0 0, .slice none 0 0] 26)).drew.heap.size := by simp
  have lGb := C.bb.size
  have n1N : w.heap.size ≠ w1.heap.size := by have := C.lt; omega
  have n2N := Ne.symm n1N
  have n3N : w.heap.size + 1 ≠ w1.heap.size := by have := C.lt; omega
  have n4N := Ne.symm n3N
  go_upto_region 5 with fail
  go_cut [6, 7] from 16 (fun s6 s7 wx => ∃ l h G A c P b, s6 = .pointer (some ⟨G, 0, none⟩) ∧ s7 = .bool OK ∧ Boxd W wx l h G (.slice A R.1.length c) (.slice P R.2.length b) R ∧ w1.heap.size ≤ l ∧ w1.heap.size ≤ G ∧ Below w1.heap.size w1 wx)
  case first =>
    go_region_held3 (fun w' => w'.cell? ⟨w.heap.size, 0, none⟩ = some (.slice An d.1.length cn) ∧ w'.cell? ⟨w.heap.size, 1, none⟩ = some (.slice Ap d.2.length cp) ∧ w'.cell? ⟨w.heap.size + 1, 0, none⟩ = some (.int .i64 k) ∧ w'.cell? ⟨w.heap.size + 1, 1, none⟩ = some (.int .i64 x) ∧ w'.cell? ⟨w.heap.size + 1, 2, none⟩ = some (.int .i64 y)) (first | (refine ⟨?_, ?_, ?_, ?_, ?_⟩ <;> with_reducible assumption) | go_keep)
      (first
        | (go_at_call 20; (with_reducible refine (toDesk_any d _ _ D0.hd HL.out).mono ?_); rintro e wa ⟨va, rfl, oa, bn⟩; have D1 := D0.below bn; have F1 : Below w1.heap.size w1 wa := below_step ((Below.refl _ _).drew) bn; have n1wa : w.heap.size ≠ wa.heap.size := (by have := D1.lt; omega); have n2wa := Ne.symm n1wa; have n3wa : w.heap.size + 1 ≠ wa.heap.size := (by have := D1.lt; omega); have n4wa := Ne.symm n3wa; have mG : w1.heap.size ≤ wa.heap.size := bn.size; have ta0 := D1.p0; have ta1 := D1.p1; have ta2 := D1.k0; have ta3 := D1.k1; have ta4 := D1.k2; have D1a := D1.alloc (.cells #[.slice none 0 0, .slice none 0 0] 26))
        | (go_at_call 20; (with_reducible refine (toDesk_any d _ _ D0a.hd HL.out).mono ?_); rintro e wa ⟨va, rfl, oa, bn⟩; have D1 := D0a.below bn; have F1 : Below w1.heap.size w1 wa := below_step ((box_below _ _ _).drew) bn; have n1wa : w.heap.size ≠ wa.heap.size := (by have := D1.lt; omega); have n2wa := Ne.symm n1wa; have n3wa : w.heap.size + 1 ≠ wa.heap.size := (by have := D1.lt; omega); have n4wa := Ne.symm n3wa; have mG : w1.heap.size ≤ wa.heap.size := Nat.le_trans (Nat.le_of_lt lGa) bn.size; have ta0 := D1.p0; have ta1 := D1.p1; have ta2 := D1.k0; have ta3 := D1.k1; have ta4 := D1.k2; have rG := (bn.block _ lGa).trans rGa; have gG := Nat.lt_of_lt_of_le lGa bn.size)
        | (go_at_call 21; (with_reducible refine (toDeed_any k x y wa).mono ?_); rintro e wb ⟨rfl, bn⟩; have D2 := D1.below bn; have F2 := below_step F1 bn; have n1wb : w.heap.size ≠ wb.heap.size := (by have := D2.lt; omega); have n2wb := Ne.symm n1wb; have n3wb : w.heap.size + 1 ≠ wb.heap.size := (by have := D2.lt; omega); have n4wb := Ne.symm n3wb; have ob := oa.below bn; have nG : wa.heap.size ≤ wb.heap.size := bn.size; have ta0 := D2.p0; have ta1 := D2.p1; have ta2 := D2.k0; have ta3 := D2.k1; have ta4 := D2.k2; (try have D2a := D2.alloc (.cells #[.slice none 0 0, .slice none 0 0] 26)); (try have rG := (bn.block _ gG).trans rG); (try have gG := Nat.lt_of_lt_of_le gG bn.size))
        | (go_at_call 21; (with_reducible refine (toDeed_any k x y (wa.alloc (.cells #[.slice none 0 0, .slice none 0 0] 26))).mono ?_); rintro e wb ⟨rfl, bn⟩; have D2 := D1a.below bn; have F2 := below_step (below_step F1 (box_below wa #[.slice none 0 0, .slice none 0 0] 26)) bn; have n1wb : w.heap.size ≠ wb.heap.size := (by have := D2.lt; omega); have n2wb := Ne.symm n1wb; have n3wb : w.heap.size + 1 ≠ wb.heap.size := (by have := D2.lt; omega); have n4wb := Ne.symm n3wb; have ob := (oa.below (box_below _ _ _)).below bn; have nG : wa.heap.size ≤ wb.heap.size := Nat.le_trans (by simp) bn.size; have ta0 := D2.p0; have ta1 := D2.p1; have ta2 := D2.k0; have ta3 := D2.k1; have ta4 := D2.k2; have rG := (bn.block wa.heap.size (by simp)).trans (heap_alloc_new wa _); have gG : wa.heap.size < wb.heap.size := Nat.lt_of_lt_of_le (by simp) bn.size)
        | (go_at_call 9; have cI := specDeskDo_any d k x y va wb ob.rd; rw [hR, hOK] at cI; (with_reducible refine cI.mono ?_); rintro e wc ⟨vw, rfl, ow, bn⟩; have D3 := D2; have F3 := F2; have bnn := bn; have D4 := D2.below bn; have ta0 := D4.p0; have ta1 := D4.p1; have ta2 := D4.k0; have ta3 := D4.k1; have ta4 := D4.k2; obtain ⟨nx, px, ex, rnx, rpx⟩ := ow.rd; subst ex; obtain ⟨Aw, cw, rfl, _, _⟩ := rnx.slice; obtain ⟨Pw, dw, rfl, _, _⟩ := rpx.slice; clear rnx rpx cI; (try have rG := (bn.block _ gG).trans rG); (try have g0 := (cells_of_row rG).1); (try have g1 := (cells_of_row rG).2); (try have fr0 := frozen_of_row wc _ 0 _ _ rG); (try have fr1 := frozen_of_row wc _ 1 _ _ rG))
        | (go_at_call 9; have cI := specDeskDo_any d k x y va (wb.alloc (.cells #[.slice none 0 0, .slice none 0 0] 26)) (ob.below (box_below _ _ _)).rd; rw [hR, hOK] at cI; (with_reducible refine cI.mono ?_); rintro e wc ⟨vw, rfl, ow, bn⟩; have D3 := D2a; have F3 := below_step F2 (box_below wb #[.slice none 0 0, .slice none 0 0] 26); have bnn := bn; have D4 := D2a.below bn; have ta0 := D4.p0; have ta1 := D4.p1; have ta2 := D4.k0; have ta3 := D4.k1; have ta4 := D4.k2; obtain ⟨nx, px, ex, rnx, rpx⟩ := ow.rd; subst ex; obtain ⟨Aw, cw, rfl, _, _⟩ := rnx.slice; obtain ⟨Pw, dw, rfl, _, _⟩ := rpx.slice; clear rnx rpx cI; have rG := (bn.block wb.heap.size (by simp)).trans (heap_alloc_new wb _); have gG : wb.heap.size < (wb.alloc (.cells #[.slice none 0 0, .slice none 0 0] 26)).heap.size := (by simp); have g0 := (cells_of_row rG).1; have g1 := (cells_of_row rG).2; have fr0 := frozen_of_row wc _ 0 _ _ rG; have fr1 := frozen_of_row wc _ 1 _ _ rG))
    all_goals
      go_wp2_with fail
      go_meet
      case rel =>
        have z1 := D3.bb.size
        have z2 := bnn.size
        first
          | exact ⟨_, _, _, Aw, cw, Pw, dw, rfl, rfl, boxd_late D3.bb bnn ow, (by first | omega | (simp; omega)), (by first | omega | (simp; omega)), below_step (below_step F3 bnn) (box_below _ _ _)⟩
          | exact ⟨_, _, _, Aw, cw, Pw, dw, rfl, rfl, boxd_early D3.bb bnn ow ⟨(by first | omega | (simp; omega)), gG⟩ rG, (by first | omega | (simp; omega)), (by first | omega | (simp; omega)), ((below_step F3 bnn).setCell (p := ⟨_, 0, none⟩) (by simp only []; first | omega | (simp; omega)) _).setCell (p := ⟨_, 1, none⟩) (by simp only []; first | omega | (simp; omega)) _⟩
  case rest =>
    obtain ⟨l3, h3, G4, A4, c4, P4, d4, rfl, rfl, B4, hl3, hG4, F4⟩ := hcut
    generalize wc = w4 at *
    have y4 := B4.lt
    have y4' := B4.le
    have o4 := B4.ord
    clear ta0 ta1 ta2 ta3 ta4 tb0 tb1 tb2 tb3 tb4 D0 D0a rGa lGa lGb n1N n2N n3N n4N
    replace C := C.below F4
    clear F4
    have p0 := C.p0
    have p1 := C.p1
    go_wp2_with fail
    refine (toDesk_any d _ _ C.hd HL.out).mono ?_
    rintro e w5 ⟨vx, rfl, ox, b5⟩
    have zx := b5.size
    obtain ⟨nx, px, ex, rnx, rpx⟩ := (ox).rd
    subst ex
    obtain ⟨A8, c8, rfl, _, _⟩ := rnx.slice
    obtain ⟨P8, d8, rfl, _, _⟩ := rpx.slice
    clear rnx rpx
    obtain ⟨W8, hW8⟩ : ∃ W, W = (w5).alloc (.cells #[.slice A8 (d).1.length c8, .slice P8 (d).2.length d8] 26) := ⟨_, rfl⟩
    have bx8 : Below (w5).heap.size w5 W8 := by rw [hW8]; exact box_below _ _ _
    have r8 : (W8).heap[(w5).heap.size]? = some (.cells #[.slice A8 (d).1.length c8, .slice P8 (d).2.length d8] 26 (0, 0)) := by rw [hW8]; exact heap_alloc_new _ _
    have s8 : (w5).heap.size + 1 = (W8).heap.size := by rw [hW8]; simp
    have o8 := (ox).below bx8
    have b58 := below_step b5 bx8
    replace C := C.below b58
    have CX : Came W W8 w5.heap.size (w.heap.size + 1) (.slice A8 d.1.length c8) (.slice P8 d.2.length d8) k x y d := ⟨C.bb, (cells_of_row r8).1, (cells_of_row r8).2, C.k0, C.k1, C.k2, o8.rd, by have := C.lt; omega⟩
    have B4 := B4.below b58
    clear p0 p1 ox
    have CC := C
    replace C := CX
    have D0 := C.drew
    have D0a := (C.alloc (.cells #[.slice none 0 0, .slice none 0 0] 26)).drew
    have ta0 := D0.p0
    have ta1 := D0.p1
    have ta2 := D0.k0
    have ta3 := D0.k1
    have ta4 := D0.k2
    have tb0 := D0a.p0
    have tb1 := D0a.p1
    have tb2 := D0a.k0
    have tb3 := D0a.k1
    have tb4 := D0a.k2
    have rGa : (W8.alloc (.cells #[.slice none 0 0, .slice none 0 0] 26)).drew.heap[W8.heap.size]? = some (.cells #[.slice none 0 0, .slice none 0 0] 26 (0, 0)) := heap_alloc_new W8 _
    have lGa : W8.heap.size < (W8.alloc (.cells #[.slice none 0 0, .slice none 0 0] 26)).drew.heap.size := by simp
    have lGb := C.bb.size
    have n1N : w5.heap.size ≠ W8.heap.size := by have := C.lt; omega
    have n2N := Ne.symm n1N
    have n3N : w.heap.size + 1 ≠ W8.heap.size := by have := C.lt; omega
    have n4N := Ne.symm n3N
    go_upto_region 7 with (first | (rw [← hW8]; clear hW8) | fail)
    go_cut [9, 10] from 16 (fun s6 s7 wx => ∃ l h G A c P b, s6 = .pointer (some ⟨G, 0, none⟩) ∧ s7 = .bool OK ∧ Boxd W wx l h G (.slice A R.1.length c) (.slice P R.2.length b) R ∧ W8.heap.size ≤ l ∧ W8.heap.size ≤ G ∧ Below W8.heap.size W8 wx)
    case first =>
      go_region_held3 (fun w' => w'.cell? ⟨w5.heap.size, 0, none⟩ = some (.slice A8 d.1.length c8) ∧ w'.cell? ⟨w5.heap.size, 1, none⟩ = some (.slice P8 d.2.length d8) ∧ w'.cell? ⟨w.heap.size + 1, 0, none⟩ = some (.int .i64 k) ∧ w'.cell? ⟨w.heap.size + 1, 1, none⟩ = some (.int .i64 x) ∧ w'.cell? ⟨w.heap.size + 1, 2, none⟩ = some (.int .i64 y)) (first | (refine ⟨?_, ?_, ?_, ?_, ?_⟩ <;> with_reducible assumption) | go_keep)
        (first
          | (go_at_call 21; (with_reducible refine (toDeed_any k x y (W8).drew).mono ?_); rintro e wb ⟨rfl, bn⟩; have D2 := D0.below bn; have F2 : Below W8.heap.size W8 wb := below_step ((Below.refl _ _).drew) bn; have n1wb : w5.heap.size ≠ wb.heap.size := (by have := D2.lt; omega); have n2wb := Ne.symm n1wb; have n3wb : w.heap.size + 1 ≠ wb.heap.size := (by have := D2.lt; omega); have n4wb := Ne.symm n3wb; have nG : W8.heap.size ≤ wb.heap.size := bn.size; have ta0 := D2.p0; have ta1 := D2.p1; have ta2 := D2.k0; have ta3 := D2.k1; have ta4 := D2.k2; have D2a := D2.alloc (.cells #[.slice none 0 0, .slice none 0 0] 26))
          | (go_at_call 21; (with_reducible refine (toDeed_any k x y ((W8).alloc (.cells #[.slice none 0 0, .slice none 0 0] 26)).drew).mono ?_); rintro e wb ⟨rfl, bn⟩; have D2 := D0a.below bn; have F2 : Below W8.heap.size W8 wb := below_step ((box_below _ _ _).drew) bn; have n1wb : w5.heap.size ≠ wb.heap.size := (by have := D2.lt; omega); have n2wb := Ne.symm n1wb; have n3wb : w.heap.size + 1 ≠ wb.heap.size := (by have := D2.lt; omega); have n4wb := Ne.symm n3wb; have nG : W8.heap.size ≤ wb.heap.size := Nat.le_trans (Nat.le_of_lt lGa) bn.size; have ta0 := D2.p0; have ta1 := D2.p1; have ta2 := D2.k0; have ta3 := D2.k1; have ta4 := D2.k2; have rG := (bn.block _ lGa).trans rGa; have gG := Nat.lt_of_lt_of_le lGa bn.size)
          | (go_at_call 8; have cI := implDeskDo_any d k x y _ wb D2.hd; rw [hR, hOK] at cI; (with_reducible refine cI.mono ?_); rintro e wc ⟨vw, rfl, ow, bn⟩; have D3 := D2; have F3 := F2; have bnn := bn; have D4 := D2.below bn; have ta0 := D4.p0; have ta1 := D4.p1; have ta2 := D4.k0; have ta3 := D4.k1; have ta4 := D4.k2; obtain ⟨nx, px, ex, rnx, rpx⟩ := ow.rd; subst ex; obtain ⟨Aw, cw, rfl, _, _⟩ := rnx.slice; obtain ⟨Pw, dw, rfl, _, _⟩ := rpx.slice; clear rnx rpx cI; (try have rG := (bn.block _ gG).trans rG); (try have g0 := (cells_of_row rG).1); (try have g1 := (cells_of_row rG).2); (try have fr0 := frozen_of_row wc _ 0 _ _ rG); (try have fr1 := frozen_of_row wc _ 1 _ _ rG))
          | (go_at_call 8; have cI := implDeskDo_any d k x y _ (wb.alloc (.cells #[.slice none 0 0, .slice none 0 0] 26)) D2a.hd; rw [hR, hOK] at cI; (with_reducible refine cI.mono ?_); rintro e wc ⟨vw, rfl, ow, bn⟩; have D3 := D2a; have F3 := below_step F2 (box_below wb #[.slice none 0 0, .slice none 0 0] 26); have bnn := bn; have D4 := D2a.below bn; have ta0 := D4.p0; have ta1 := D4.p1; have ta2 := D4.k0; have ta3 := D4.k1; have ta4 := D4.k2; obtain ⟨nx, px, ex, rnx, rpx⟩ := ow.rd; subst ex; obtain ⟨Aw, cw, rfl, _, _⟩ := rnx.slice; obtain ⟨Pw, dw, rfl, _, _⟩ := rpx.slice; clear rnx rpx cI; have rG := (bn.block wb.heap.size (by simp)).trans (heap_alloc_new wb _); have gG : wb.heap.size < (wb.alloc (.cells #[.slice none 0 0, .slice none 0 0] 26)).heap.size := (by simp); have g0 := (cells_of_row rG).1; have g1 := (cells_of_row rG).2; have fr0 := frozen_of_row wc _ 0 _ _ rG; have fr1 := frozen_of_row wc _ 1 _ _ rG))
      all_goals
        go_wp2_with fail
        go_meet
        case rel =>
          have z1 := D3.bb.size
          have z2 := bnn.size
          first
            | exact ⟨_, _, _, Aw, cw, Pw, dw, rfl, rfl, boxd_late D3.bb bnn ow, (by first | omega | (simp; omega)), (by first | omega | (simp; omega)), below_step (below_step F3 bnn) (box_below _ _ _)⟩
            | exact ⟨_, _, _, Aw, cw, Pw, dw, rfl, rfl, boxd_early D3.bb bnn ow ⟨(by first | omega | (simp; omega)), gG⟩ rG, (by first | omega | (simp; omega)), (by first | omega | (simp; omega)), ((below_step F3 bnn).setCell (p := ⟨_, 0, none⟩) (by simp only []; first | omega | (simp; omega)) _).setCell (p := ⟨_, 1, none⟩) (by simp only []; first | omega | (simp; omega)) _⟩
    case rest =>
      obtain ⟨l5, h5, G7, A7, c7, P7, d7, rfl, rfl, B7, hl5, hG7, F7⟩ := hcut
      generalize wc = w7 at *
      clear ta0 ta1 ta2 ta3 ta4 tb0 tb1 tb2 tb3 tb4 D0 D0a rGa lGa lGb n1N n2N n3N n4N C CX
      have r8 := (F7.block w5.heap.size (by omega)).trans r8
      have ox := o8.below F7
      have B4 := B4.below F7
      have o7 := B7.ord
      have z7 := B7.lt
      have zF := F7.size
      have S : TwoD W w7 l3 h3 l5 h5 G4 G7 _ _ _ _ R R := ⟨B4.bb, B4.row, B7.row, B4.own, B7.own, by omega⟩
      clear B4 B7 CC b58 bx8 o8 F7
      have r0 := (cells_of_row r8).1
      have r1 := (cells_of_row r8).2
      have q40 := S.c40
      have q41 := S.c41
      have q70 := S.c70
      have q71 := S.c71
      go_wp2_with fail
      refine (eqD_is (b := true) (by simp) S.og.rd S.ow.rd).mono ?_
      rintro e w9 ⟨rfl, bn⟩
      have r8 := (bn.block w5.heap.size (by omega)).trans r8
      have ox := ox.below bn
      have z9 := bn.size
      clear r0 r1
      replace S := S.below bn
      clear bn q40 q41 q70 q71
      have q40 := S.c40
      have q41 := S.c41
      have q70 := S.c70
      have q71 := S.c71
      clear q40 q41 q70 q71
      obtain ⟨G, hG⟩ : ∃ G, w5.heap.size = G := ⟨_, rfl⟩
      rw [hG] at r8 ⊢
      have hGl : G < w9.heap.size := by omega
      have bD : Below w9.heap.size w9 w9.drew := (Below.refl _ _).drew
      have CD := (C0.below S.bb).drew
      have p0 := CD.p0
      have p1 := CD.p1
      have r0 : w9.drew.cell? ⟨G, 0, none⟩ = some (.slice A8 d.1.length c8) := (cells_of_row r8).1
      have r1 : w9.drew.cell? ⟨G, 1, none⟩ = some (.slice P8 d.2.length d8) := (cells_of_row r8).2
      have oR : DeskR w9.drew w9.drew.heap.size (.agg #[.slice A8 d.1.length c8, .slice P8 d.2.length d8]) d := ox.rd.kept bD
      have hwD : w.heap.size < w9.drew.heap.size := CD.lt.1
      have hGD : G < w9.drew.heap.size := hGl
      go_wp2_with fail
      go_region_held3 (fun w' => w'.cell? ⟨w.heap.size, 0, none⟩ = some (.slice An d.1.length cn) ∧ w'.cell? ⟨w.heap.size, 1, none⟩ = some (.slice Ap d.2.length cp) ∧ w'.cell? ⟨G, 0, none⟩ = some (.slice A8 d.1.length c8) ∧ w'.cell? ⟨G, 1, none⟩ = some (.slice P8 d.2.length d8)) (refine ⟨?_, ?_, ?_, ?_⟩ <;> with_reducible assumption)
        (first
          | (go_at_call 20; refine (toDesk_any d _ _ CD.hd HL.out).mono ?_; rintro e wb ⟨vb, rfl, ob, bn⟩; have p0 := (bn.cell (p := ⟨w.heap.size, 0, none⟩) hwD).trans p0; have p1 := (bn.cell (p := ⟨w.heap.size, 1, none⟩) hwD).trans p1; have r0 := (bn.cell (p := ⟨G, 0, none⟩) hGD).trans r0; have r1 := (bn.cell (p := ⟨G, 1, none⟩) hGD).trans r1; have hwD := Nat.lt_of_lt_of_le hwD bn.size; have hGD := Nat.lt_of_lt_of_le hGD bn.size; have oR := oR.kept bn; have bD := below_step bD bn; clear bn)
          | (go_at_call 22; refine (eqD_is (b := true) (by simp) oR ob.rd).mono ?_; rintro e wc ⟨rfl, bn⟩; have p0 := (bn.cell (p := ⟨w.heap.size, 0, none⟩) hwD).trans p0; have p1 := (bn.cell (p := ⟨w.heap.size, 1, none⟩) hwD).trans p1; have r0 := (bn.cell (p := ⟨G, 0, none⟩) hGD).trans r0; have r1 := (bn.cell (p := ⟨G, 1, none⟩) hGD).trans r1; have bD := below_step bD bn; clear bn))
      replace S := S.below bD
      have r8 := (bD.block G hGl).trans r8
      have ox := ox.below bD
      clear p0 p1 oR hwD hGD bD CD ob
      have q40 := S.c40
      have q41 := S.c41
      have q70 := S.c70
      have q71 := S.c71
      go_wp2_with fail
      refine (markDesk_any d _ _ _ 1 _ ox (by omega) (by omega) (by omega)).mono ?_
      rintro e w10 ⟨rfl, ox2, g10⟩
      replace S := S.other g10 (by omega) (by omega) (by omega) (by omega)
      clear q40 q41 q70 q71 ox ox2 g10 r8 r0 r1
      have q40 := S.c40
      have q41 := S.c41
      have q70 := S.c70
      have q71 := S.c71
      go_wp2_with fail
      refine (eqD_is (b := true) (by simp) S.og.rd S.ow.rd).mono ?_
      rintro e x1 ⟨rfl, bn⟩
      replace S := S.below bn
      clear bn q40 q41 q70 q71
      have q40 := S.c40
      have q41 := S.c41
      have q70 := S.c70
      have q71 := S.c71
      have hO := S.og
      go_wp2_with fail
      refine (markDesk_any (R) _ _ _ 1 _ hO hRs (by omega) (by omega)).mono ?_
      rintro e x2 ⟨rfl, o2, g2⟩
      replace S := S.marked g2 o2
      clear q40 q41 q70 q71 hO g2 o2
      have q40 := S.c40
      have q41 := S.c41
      have q70 := S.c70
      have q71 := S.c71
      go_wp2_with fail
      refine (heldDesk_any (R) _ 1 _ S.og.rd hRs (by omega) (by omega)).mono ?_
      rintro e x3 ⟨rfl, bn⟩
      replace S := S.below bn
      clear bn q40 q41 q70 q71
      have q40 := S.c40
      have q41 := S.c41
      have q70 := S.c70
      have q71 := S.c71
      have C := C0.below S.bb
      have SS := S
      have D0 := C.drew
      have D0a := (C.alloc (.cells #[.slice none 0 0, .slice none 0 0] 26)).drew
      have ta0 := D0.p0
      have ta1 := D0.p1
      have ta2 := D0.k0
      have ta3 := D0.k1
      have ta4 := D0.k2
      have tb0 := D0a.p0
      have tb1 := D0a.p1
      have tb2 := D0a.k0
      have tb3 := D0a.k1
      have tb4 := D0a.k2
      have rGa : (x3.alloc (.cells #[.slice none 0 0, .slice none 0 0] 26)).drew.heap[x3.heap.size]? = some (.cells #[.slice none 0 0, .slice none 0 0] 26 (0, 0)) := heap_alloc_new x3 _
      have lGa : x3.heap.size < (x3.alloc (.cells #[.slice none 0 0, .slice none 0 0] 26)).drew.heap.size := by simp
      have lGb := C.bb.size
      have n1N : w.heap.size ≠ x3.heap.size := by have := C.lt; omega
      have n2N := Ne.symm n1N
      have n3N : w.heap.size + 1 ≠ x3.heap.size := by have := C.lt; omega
      have n4N := Ne.symm n3N
      go_upto_region 24 with fail
      go_cut [14, 15] from 16 (fun s6 s7 wx => ∃ l h G A c P b, s6 = .pointer (some ⟨G, 0, none⟩) ∧ s7 = .bool OK ∧ Boxd W wx l h G (.slice A R.1.length c) (.slice P R.2.length b) R ∧ x3.heap.size ≤ l ∧ x3.heap.size ≤ G ∧ Below x3.heap.size x3 wx)
      case first =>
        go_region_held3 (fun w' => w'.cell? ⟨w.heap.size, 0, none⟩ = some (.slice An d.1.length cn) ∧ w'.cell? ⟨w.heap.size, 1, none⟩ = some (.slice Ap d.2.length cp) ∧ w'.cell? ⟨w.heap.size + 1, 0, none⟩ = some (.int .i64 k) ∧ w'.cell? ⟨w.heap.size + 1, 1, none⟩ = some (.int .i64 x) ∧ w'.cell? ⟨w.heap.size + 1, 2, none⟩ = some (.int .i64 y)) (first | (refine ⟨?_, ?_, ?_, ?_, ?_⟩ <;> with_reducible assumption) | go_keep)
          (first
            | (go_at_call 20; (with_reducible refine (toDesk_any d _ _ D0.hd HL.out).mono ?_); rintro e wa ⟨va, rfl, oa, bn⟩; have D1 := D0.below bn; have F1 : Below x3.heap.size x3 wa := below_step ((Below.refl _ _).drew) bn; have n1wa : w.heap.size ≠ wa.heap.size := (by have := D1.lt; omega); have n2wa := Ne.symm n1wa; have n3wa : w.heap.size + 1 ≠ wa.heap.size := (by have := D1.lt; omega); have n4wa := Ne.symm n3wa; have mG : x3.heap.size ≤ wa.heap.size := bn.size; have ta0 := D1.p0; have ta1 := D1.p1; have ta2 := D1.k0; have ta3 := D1.k1; have ta4 := D1.k2; have D1a := D1.alloc (.cells #[.slice none 0 0, .slice none 0 0] 26))
            | (go_at_call 20; (with_reducible refine (toDesk_any d _ _ D0a.hd HL.out).mono ?_); rintro e wa ⟨va, rfl, oa, bn⟩; have D1 := D0a.below bn; have F1 : Below x3.heap.size x3 wa := below_step ((box_below _ _ _).drew) bn; have n1wa : w.heap.size ≠ wa.heap.size := (by have := D1.lt; omega); have n2wa := Ne.symm n1wa; have n3wa : w.heap.size + 1 ≠ wa.heap.size := (by have := D1.lt; omega); have n4wa := Ne.symm n3wa; have mG : x3.heap.size ≤ wa.heap.size := Nat.le_trans (Nat.le_of_lt lGa) bn.size; have ta0 := D1.p0; have ta1 := D1.p1; have ta2 := D1.k0; have ta3 := D1.k1; have ta4 := D1.k2; have rG := (bn.block _ lGa).trans rGa; have gG := Nat.lt_of_lt_of_le lGa bn.size)
            | (go_at_call 21; (with_reducible refine (toDeed_any k x y wa).mono ?_); rintro e wb ⟨rfl, bn⟩; have D2 := D1.below bn; have F2 := below_step F1 bn; have n1wb : w.heap.size ≠ wb.heap.size := (by have := D2.lt; omega); have n2wb := Ne.symm n1wb; have n3wb : w.heap.size + 1 ≠ wb.heap.size := (by have := D2.lt; omega); have n4wb := Ne.symm n3wb; have ob := oa.below bn; have nG : wa.heap.size ≤ wb.heap.size := bn.size; have ta0 := D2.p0; have ta1 := D2.p1; have ta2 := D2.k0; have ta3 := D2.k1; have ta4 := D2.k2; (try have D2a := D2.alloc (.cells #[.slice none 0 0, .slice none 0 0] 26)); (try have rG := (bn.block _ gG).trans rG); (try have gG := Nat.lt_of_lt_of_le gG bn.size))
            | (go_at_call 21; (with_reducible refine (toDeed_any k x y (wa.alloc (.cells #[.slice none 0 0, .slice none 0 0] 26))).mono ?_); rintro e wb ⟨rfl, bn⟩; have D2 := D1a.below bn; have F2 := below_step (below_step F1 (box_below wa #[.slice none 0 0, .slice none 0 0] 26)) bn; have n1wb : w.heap.size ≠ wb.heap.size := (by have := D2.lt; omega); have n2wb := Ne.symm n1wb; have n3wb : w.heap.size + 1 ≠ wb.heap.size := (by have := D2.lt; omega); have n4wb := Ne.symm n3wb; have ob := (oa.below (box_below _ _ _)).below bn; have nG : wa.heap.size ≤ wb.heap.size := Nat.le_trans (by simp) bn.size; have ta0 := D2.p0; have ta1 := D2.p1; have ta2 := D2.k0; have ta3 := D2.k1; have ta4 := D2.k2; have rG := (bn.block wa.heap.size (by simp)).trans (heap_alloc_new wa _); have gG : wa.heap.size < wb.heap.size := Nat.lt_of_lt_of_le (by simp) bn.size)
            | (go_at_call 8; have cI := implDeskDo_any d k x y va wb ob.rd; rw [hR, hOK] at cI; (with_reducible refine cI.mono ?_); rintro e wc ⟨vw, rfl, ow, bn⟩; have D3 := D2; have F3 := F2; have bnn := bn; have D4 := D2.below bn; have ta0 := D4.p0; have ta1 := D4.p1; have ta2 := D4.k0; have ta3 := D4.k1; have ta4 := D4.k2; obtain ⟨nx, px, ex, rnx, rpx⟩ := ow.rd; subst ex; obtain ⟨Aw, cw, rfl, _, _⟩ := rnx.slice; obtain ⟨Pw, dw, rfl, _, _⟩ := rpx.slice; clear rnx rpx cI; (try have rG := (bn.block _ gG).trans rG); (try have g0 := (cells_of_row rG).1); (try have g1 := (cells_of_row rG).2); (try have fr0 := frozen_of_row wc _ 0 _ _ rG); (try have fr1 := frozen_of_row wc _ 1 _ _ rG))
            | (go_at_call 8; have cI := implDeskDo_any d k x y va (wb.alloc (.cells #[.slice none 0 0, .slice none 0 0] 26)) (ob.below (box_below _ _ _)).rd; rw [hR, hOK] at cI; (with_reducible refine cI.mono ?_); rintro e wc ⟨vw, rfl, ow, bn⟩; have D3 := D2a; have F3 := below_step F2 (box_below wb #[.slice none 0 0, .slice none 0 0] 26); have bnn := bn; have D4 := D2a.below bn; have ta0 := D4.p0; have ta1 := D4.p1; have ta2 := D4.k0; have ta3 := D4.k1; have ta4 := D4.k2; obtain ⟨nx, px, ex, rnx, rpx⟩ := ow.rd; subst ex; obtain ⟨Aw, cw, rfl, _, _⟩ := rnx.slice; obtain ⟨Pw, dw, rfl, _, _⟩ := rpx.slice; clear rnx rpx cI; have rG := (bn.block wb.heap.size (by simp)).trans (heap_alloc_new wb _); have gG : wb.heap.size < (wb.alloc (.cells #[.slice none 0 0, .slice none 0 0] 26)).heap.size := (by simp); have g0 := (cells_of_row rG).1; have g1 := (cells_of_row rG).2; have fr0 := frozen_of_row wc _ 0 _ _ rG; have fr1 := frozen_of_row wc _ 1 _ _ rG))
        all_goals
          go_wp2_with fail
          go_meet
          case rel =>
            have z1 := D3.bb.size
            have z2 := bnn.size
            first
              | exact ⟨_, _, _, Aw, cw, Pw, dw, rfl, rfl, boxd_late D3.bb bnn ow, (by first | omega | (simp; omega)), (by first | omega | (simp; omega)), below_step (below_step F3 bnn) (box_below _ _ _)⟩
              | exact ⟨_, _, _, Aw, cw, Pw, dw, rfl, rfl, boxd_early D3.bb bnn ow ⟨(by first | omega | (simp; omega)), gG⟩ rG, (by first | omega | (simp; omega)), (by first | omega | (simp; omega)), ((below_step F3 bnn).setCell (p := ⟨_, 0, none⟩) (by simp only []; first | omega | (simp; omega)) _).setCell (p := ⟨_, 1, none⟩) (by simp only []; first | omega | (simp; omega)) _⟩
      obtain ⟨l8, h8, G8, A9, c9, P9, d9, rfl, rfl, B8, _, _, F8⟩ := hcut
      generalize wc = x8 at *
      clear ta0 ta1 ta2 ta3 ta4 tb0 tb1 tb2 tb3 tb4 D0 D0a rGa lGa lGb n1N n2N n3N n4N q40 q41 q70 q71
      replace S := SS.below F8
      clear SS C
      have q40 := S.c40
      have q41 := S.c41
      have q70 := S.c70
      have q71 := S.c71
      obtain ⟨q80, q81⟩ := B8.cells
      have hv8 := B8.own.rd
      go_wp2_with fail
      refine (eqD_is (b := true) (by simp) hv8 S.ow.rd).mono ?_
      rintro e x4 ⟨rfl, bn⟩
      clear q80 q81 hv8
      replace S := S.below bn
      clear bn q40 q41 q70 q71
      have q40 := S.c40
      have q41 := S.c41
      have q70 := S.c70
      have q71 := S.c71
      go_wp2_with fail
      refine (heldDesk_any (R) _ 1 _ S.og.rd hRs (by omega) (by omega)).mono ?_
      rintro e x5 ⟨rfl, bn⟩
      replace S := S.below bn
      clear bn q40 q41 q70 q71
      have q40 := S.c40
      have q41 := S.c41
      have q70 := S.c70
      have q71 := S.c71
      go_wp2
      go_ret
      first | exact ⟨rfl, S.bb⟩ | exact ⟨rfl, below_step b0 S.bb⟩
set_option maxRecDepth 100000 in
theorem lifted (os : Os) (started : os.Started) (H : Type) (enc : TypeId × Value → H) :
    ReturnsInHanded {} Tryz.checked os 5 .any (Rows.fnExactDeskDoSpec.pre6 enc Tryz.prog Tryz.f5 Rows.fnExactDeskDoRow.domain false) (Rows.fnExactDeskDoSpec.post enc Tryz.prog Tryz.f5 false true false false) := by
  refine returnsInHanded_of_change (C := Tryz.checked) own started (by kernel_rfl) Tryz.func5
    (ChangeSpec.witness6 (enc := enc) (C := Tryz.checked) false ⟨#[], #[.agg #[.slice none 0 0, .slice none 0 0], .agg #[.int .i64 0, .int .i64 0, .int .i64 0]], []⟩ 8 (by kernel_rfl) (by kernel_rfl) (by kernel_rfl) (by kernel_rfl)) ?_
  intro W base args ds gs before hval0 hW _ _
  have hval : ∀ (j : Nat) t v, Tryz.f5.params[j]? = some t → args[j]? = some v → Value.okWide Tryz.prog W .any base t v := hval0
  have hW' := hW
  obtain ⟨p, q, hA0, hV, rfl, _, _⟩ := hW
  have hA : DataW.TrodAll enc Tryz.prog W 0 (fun _ => true) true Tryz.f5.params.toList args.toList ds p := hA0
  rw [Tryz.params5] at hA hval
  obtain ⟨v0, v1, d0, d1, p0, p1, rfl, rfl, rfl, h0, h1⟩ := trodAll_two hA
  obtain ⟨rfl, rfl⟩ := trodVars_none hV
  clear hA0 hval0
  simp only [List.append_nil] at hW'
  have hlt : ∀ x ∈ p0 ++ p1, x.block < W.heap.size := fun x hx => by simpa using hW'.lt x hx
  have hlt0 : ∀ x ∈ p0, x.block < W.heap.size := fun x hx => hlt x (List.mem_append_left _ hx)
  have hlt1 : ∀ x ∈ p1, x.block < W.heap.size := fun x hx => hlt x (List.mem_append_right _ hx)
  obtain ⟨d0', r0⟩ := open_ldesk (hval 0 46 v0 rfl rfl) h0 hlt0
  obtain ⟨a1', r1⟩ := open_ldeed (hval 1 47 v1 rfl rfl) h1
  refine (show Calls Tryz.prog 5 #[v0, v1] W (Gives (.bool true) W) from by rw [r1]; exact walk d0' _ _ _ v0 W r0).mono fun e W' hg => ?_
  obtain ⟨he, hb⟩ := hg
  subst he
  exact ⟨_, rfl, _, _, _, [], p0 ++ p1, [], hW', trodAll_mk1 (shut_bool Tryz.underlying4 _), trodAll_mk2 (kept_arg (by kernel_rfl) (of_decide_eq_true (by kernel_rfl)) h0 hb hlt0) (kept_arg (by kernel_rfl) (of_decide_eq_true (by kernel_rfl)) h1 hb hlt1), rfl, hb.frame _, fun h => by cases h⟩

theorem holds : Rows.FnExactDeskDoSaid :=
  OpenClaim.holds_of_wide 5 Tryz.f5 rfl rfl rfl rfl rfl rfl rfl ⟨rfl, rfl, rfl, rfl, rfl⟩ rfl rfl rfl rfl rfl (by kernel_rfl) Tryz.func5 (by kernel_rfl)
    (of_decide_eq_true (by kernel_rfl)) (by unfold Func.isWrapper; first | (rw [if_pos (by decide +kernel)]; kernel_rfl) | (rw [if_neg (by decide +kernel)]; exact ⟨rfl, rfl⟩))
    (fun os started H enc _ => lifted os started H enc)
end Go.Proofs.YtgdifenicjgfjaaGreat.exDeskDo
