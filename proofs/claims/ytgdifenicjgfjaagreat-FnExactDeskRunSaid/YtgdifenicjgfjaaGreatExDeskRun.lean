/-
  Proved: the exact law of DeskRun (FnExactDeskRun) returns true for every input, and its arguments read afterwards as they read before. No conditions.
-/
import Derived.Test.YtgdifenicjgfjaaGreatDeskE
import Derived.Test.YtgdifenicjgfjaaGreatDeskY
import Derived.Test.YtgdifenicjgfjaaGreatOpenD
namespace Go.Proofs.YtgdifenicjgfjaaGreat.exDeskRun
open Go.ChangeShapes Go.WideShapes Go.ChangeAt Go.RowKit

theorem cowns_keptBy {w w' : World} {base : Nat} {v : Value} {l : List Cn} (h : COwns w base v l) (hk : ∀ g, v.ownBlock = some g → w'.heap[g]? = w.heap[g]?) : COwns w' base v l := by
  refine ⟨h.1, ?_⟩
  rcases h.2 with h0 | ⟨g, cap, cur, rfl, h1, hg, h2⟩
  · exact .inl h0
  · exact .inr ⟨g, cap, cur, rfl, h1, (hk g rfl).trans hg, h2⟩
theorem run_sum (d : Dk) (l : List Dd) : dsum (deskRunR d l) ≤ 1100000 := by
  rcases hd : runB d l with _ | _
  · rw [(run_no hd).1]; decide
  · rw [(run_yes hd).1]
    exact desk_sum (desk_runR l (run_parts hd).1)
set_option maxRecDepth 100000 in
set_option maxHeartbeats 6400000 in
theorem walk (d : Dk) (l : List Dd) (v vl : Value) (w : World) (h : DeskR w w.heap.size v d) (hl : CReads w w.heap.size vl l) : Calls Tryz.prog 6 #[v, vl] w (Gives (.bool true) w) := by
  have hD := h
  obtain ⟨n, p, rfl, rn, rp⟩ := h
  obtain ⟨An, cn, rfl, _, _⟩ := rn.slice
  obtain ⟨Ap, cp, rfl, _, _⟩ := rp.slice
  obtain ⟨Al, cl, rfl, hl1, hl2⟩ := hl.slice
  unfold maxLen at hl2
  clear rn rp
  have b0 := box_below w #[.slice An d.1.length cn, .slice Ap d.2.length cp] 46
  obtain ⟨W, hW⟩ : ∃ W, W = w.alloc (.cells #[.slice An d.1.length cn, .slice Ap d.2.length cp] 46) := ⟨_, rfl⟩
  have q0 : W.cell? ⟨w.heap.size, 0, none⟩ = some (.slice An d.1.length cn) := by rw [hW]; simp [go_sem]
  have q1 : W.cell? ⟨w.heap.size, 1, none⟩ = some (.slice Ap d.2.length cp) := by rw [hW]; simp [go_sem]
  have s0 : w.heap.size < W.heap.size := by rw [hW]; simp
  rw [← hW] at b0
  replace hD := hD.kept b0
  have hlW := hl.kept b0
  clear hl
  by_cases hz : 1048576 < (dsz d : Int)
  · go_enter Tryz.func6, Tryz.ntmps6
    go_wp2_with (first | (rw [← hW]; clear hW) | fail)
    refine (szDesk_yes hD (by omega) (by omega) hz).mono ?_
    rintro e w1 ⟨rfl, b1⟩
    go_wp2
    go_ret
    exact ⟨rfl, below_step b0 b1⟩
  have hlN : dsz d ≤ 1048576 := by omega
  by_cases hz2 : 1048576 - (dsz d : Int) < l.length
  · go_enter Tryz.func6, Tryz.ntmps6
    go_wp2_with (first | (rw [← hW]; clear hW) | fail)
    refine (szDesk_no (r := 1048576 - (dsz d : Int)) hD (by omega) (by omega) rfl (by omega)).mono ?_
    rintro e w1 ⟨rfl, b1⟩
    have hnn : ¬ (1048576 - (dsz d : Int) < 0) := by omega
    go_wp2_with fail
    refine (szDeedS_yes l.length cl Al (1048576 - (dsz d : Int)) _ (by omega) (by omega) (by omega) (by omega)).mono ?_
    rintro e w2 ⟨rfl, b2⟩
    go_wp2
    go_ret
    exact ⟨rfl, below_step b0 (below_step b1 b2)⟩
  have HL := Lib.hid hlN
  have HK := Lib.hid (show l.length ≤ 1048576 by omega)
  have hds := (sz_sum hlN).1
  obtain ⟨R, hR⟩ : ∃ R, deskRunR d l = R := ⟨_, rfl⟩
  obtain ⟨NN, hN⟩ : ∃ b, deskRunN d l = b := ⟨_, rfl⟩
  have hRs : dsum R ≤ 1100000 := by rw [← hR]; exact run_sum d _
  go_enter Tryz.func6, Tryz.ntmps6
  go_wp2_with (first | (rw [← hW]; clear hW) | fail)
  refine (szDesk_no (r := 1048576 - (dsz d : Int)) hD (by omega) (by omega) rfl (by omega)).mono ?_
  rintro e w1 ⟨rfl, b1⟩
  have hnn : ¬ (1048576 - (dsz d : Int) < 0) := by omega
  go_wp2_with fail
  refine (szDeedS_no l.length cl Al (1048576 - (dsz d : Int)) _ (by omega) (by omega) (by omega) (by omega)).mono ?_
  rintro e w2 ⟨rfl, b2⟩
  have hnn2 : ¬ (1048576 - (dsz d : Int) - (l.length : Int) < 0) := by omega
  have bb := below_step b1 b2
  have p0 := (bb.cell (p := ⟨w.heap.size, 0, none⟩) s0).trans q0
  have p1 := (bb.cell (p := ⟨w.heap.size, 1, none⟩) s0).trans q1
  clear b1 b2
  go_wp2_with fail
  refine (toDesk_any d _ _ (hD.keep bb (Nat.le_refl _)) HL.out).mono ?_
  rintro e w3 ⟨v3, rfl, o3, b3⟩
  have bb := below_step bb b3
  clear p0 p1
  go_wp2_with fail
  refine (toDeedS_any l _ _ ((hlW.below bb).more bb.size) HK.out).mono ?_
  rintro e w4 ⟨v4, rfl, o4, b4⟩
  have bb := below_step bb b4
  have o3 := o3.below b4
  have zz4 := bb.size
  clear b3 b4
  go_wp2_with fail
  have cS := specDeskRun_any d l _ _ w4 o3.rd o4.reads
  rw [hR, hN] at cS
  refine cS.mono ?_
  rintro e w5 ⟨vw, rfl, ow, b5⟩
  clear cS o3 o4
  have bb := below_step bb b5
  have z5 := b5.size
  obtain ⟨nx, px, ex, rnx, rpx⟩ := (ow).rd
  subst ex
  obtain ⟨A4, c4, rfl, _, _⟩ := rnx.slice
  obtain ⟨P4, d4, rfl, _, _⟩ := rpx.slice
  clear rnx rpx
  obtain ⟨W4, hW4⟩ : ∃ W, W = (w5).alloc (.cells #[.slice A4 (R).1.length c4, .slice P4 (R).2.length d4] 26) := ⟨_, rfl⟩
  have bx4 : Below (w5).heap.size w5 W4 := by rw [hW4]; exact box_below _ _ _
  have r4 : (W4).heap[(w5).heap.size]? = some (.cells #[.slice A4 (R).1.length c4, .slice P4 (R).2.length d4] 26 (0, 0)) := by rw [hW4]; exact heap_alloc_new _ _
  have s4 : (w5).heap.size + 1 = (W4).heap.size := by rw [hW4]; simp
  have o4 := (ow).below bx4
  have bb := below_step bb bx4
  have p0 := (bb.cell (p := ⟨w.heap.size, 0, none⟩) s0).trans q0
  have p1 := (bb.cell (p := ⟨w.heap.size, 1, none⟩) s0).trans q1
  clear b5 ow bx4
  go_wp2_with (first | (rw [← hW4]; clear hW4) | fail)
  refine (toDesk_any d _ _ (hD.keep bb (Nat.le_refl _)) HL.out).mono ?_
  rintro e w6 ⟨vx, rfl, ox, b6⟩
  have z6 := b6.size
  obtain ⟨nx, px, ex, rnx, rpx⟩ := (ox).rd
  subst ex
  obtain ⟨A8, c8, rfl, _, _⟩ := rnx.slice
  obtain ⟨P8, d8, rfl, _, _⟩ := rpx.slice
  clear rnx rpx
  obtain ⟨W8, hW8⟩ : ∃ W, W = (w6).alloc (.cells #[.slice A8 (d).1.length c8, .slice P8 (d).2.length d8] 26) := ⟨_, rfl⟩
  have bx8 : Below (w6).heap.size w6 W8 := by rw [hW8]; exact box_below _ _ _
  have r8 : (W8).heap[(w6).heap.size]? = some (.cells #[.slice A8 (d).1.length c8, .slice P8 (d).2.length d8] 26 (0, 0)) := by rw [hW8]; exact heap_alloc_new _ _
  have s8 : (w6).heap.size + 1 = (W8).heap.size := by rw [hW8]; simp
  have o8 := (ox).below bx8
  have b68 := below_step b6 bx8
  have bb := below_step bb b68
  have o4 := o4.below b68
  have r4 := (b68.block _ (by omega)).trans r4
  clear p0 p1 b6 ox bx8
  go_wp2_with (first | (rw [← hW8]; clear hW8) | fail)
  refine (toDeedS_any l _ _ ((hlW.below bb).more bb.size) HK.out).mono ?_
  rintro e w9 ⟨vy, rfl, oy, b9⟩
  have HY := oy.lt
  have z9 := b9.size
  have bb := below_step bb b9
  have o4 := o4.below b9
  have o8 := o8.below b9
  have r4 := (b9.block _ (by omega)).trans r4
  have r8 := (b9.block _ (by omega)).trans r8
  obtain ⟨t0, t1⟩ := cells_of_row r8
  clear b9 b68
  go_wp2_with fail
  have cI := implDeskRun_any d l _ _ w9 o8.rd oy.reads
  rw [hR, hN] at cI
  refine cI.mono ?_
  rintro e w10 ⟨vg, rfl, og, b10⟩
  clear cI
  have z10 := b10.size
  obtain ⟨nx, px, ex, rnx, rpx⟩ := (og).rd
  subst ex
  obtain ⟨A7, c7, rfl, _, _⟩ := rnx.slice
  obtain ⟨P7, d7, rfl, _, _⟩ := rpx.slice
  clear rnx rpx
  obtain ⟨W7, hW7⟩ : ∃ W, W = (w10).alloc (.cells #[.slice A7 (R).1.length c7, .slice P7 (R).2.length d7] 26) := ⟨_, rfl⟩
  have bx7 : Below (w10).heap.size w10 W7 := by rw [hW7]; exact box_below _ _ _
  have r7 : (W7).heap[(w10).heap.size]? = some (.cells #[.slice A7 (R).1.length c7, .slice P7 (R).2.length d7] 26 (0, 0)) := by rw [hW7]; exact heap_alloc_new _ _
  have s7 : (w10).heap.size + 1 = (W7).heap.size := by rw [hW7]; simp
  have o7 := (og).below bx7
  have b7 := below_step b10 bx7
  have S : TwoD W W7 w4.heap.size w5.heap.size w9.heap.size w10.heap.size w5.heap.size w10.heap.size _ _ _ _ R R := ⟨below_step bb b7, (b7.block _ (by omega)).trans r4, r7, o4.below b7, o7, by omega⟩
  replace oy := oy.below b7
  replace o8 := o8.below b7
  replace r8 := (b7.block _ (by omega)).trans r8
  clear o4 o7 r4 r7 b7 b10 bx7 og bb t0 t1
  have q40 := S.c40
  have q41 := S.c41
  have q70 := S.c70
  have q71 := S.c71
  go_wp2_with (first | (rw [← hW7]; clear hW7) | fail)
  refine (eqD_is (b := true) (by simp) S.og.rd S.ow.rd).mono ?_
  rintro e x9 ⟨rfl, bn⟩
  have r8 := (bn.block _ (by omega)).trans r8
  have o8 := o8.below bn
  have oy := oy.below bn
  have zx9 := bn.size
  replace S := S.below bn
  clear bn q40 q41 q70 q71
  have q40 := S.c40
  have q41 := S.c41
  have q70 := S.c70
  have q71 := S.c71
  clear q40 q41 q70 q71
  obtain ⟨G, hG⟩ : ∃ G, w6.heap.size = G := ⟨_, rfl⟩
  rw [hG] at r8
  try rw [hG]
  have hGl : G < x9.heap.size := by omega
  have bD : Below x9.heap.size x9 x9.drew := (Below.refl _ _).drew
  have hDD := (hD.keep S.bb (Nat.le_refl _)).kept bD
  have p0 : x9.drew.cell? ⟨w.heap.size, 0, none⟩ = some (.slice An d.1.length cn) := (S.bb.cell (p := ⟨w.heap.size, 0, none⟩) s0).trans q0
  have p1 : x9.drew.cell? ⟨w.heap.size, 1, none⟩ = some (.slice Ap d.2.length cp) := (S.bb.cell (p := ⟨w.heap.size, 1, none⟩) s0).trans q1
  have r0 : x9.drew.cell? ⟨G, 0, none⟩ = some (.slice A8 d.1.length c8) := (cells_of_row r8).1
  have r1 : x9.drew.cell? ⟨G, 1, none⟩ = some (.slice P8 d.2.length d8) := (cells_of_row r8).2
  have oR : DeskR x9.drew x9.drew.heap.size (.agg #[.slice A8 d.1.length c8, .slice P8 d.2.length d8]) d := o8.rd.kept bD
  have hwD : w.heap.size < x9.drew.heap.size := Nat.lt_of_lt_of_le s0 S.bb.size
  have hGD : G < x9.drew.heap.size := hGl
  go_wp2_with fail
  go_region_held3 (fun w' => w'.cell? ⟨w.heap.size, 0, none⟩ = some (.slice An d.1.length cn) ∧ w'.cell? ⟨w.heap.size, 1, none⟩ = some (.slice Ap d.2.length cp) ∧ w'.cell? ⟨G, 0, none⟩ = some (.slice A8 d.1.length c8) ∧ w'.cell? ⟨G, 1, none⟩ = some (.slice P8 d.2.length d8)) (refine ⟨?_, ?_, ?_, ?_⟩ <;> with_reducible assumption)
    (first
      | (go_at_call 20; refine (toDesk_any d _ _ hDD HL.out).mono ?_; rintro e wb ⟨vb, rfl, ob, bn⟩; have p0 := (bn.cell (p := ⟨w.heap.size, 0, none⟩) hwD).trans p0; have p1 := (bn.cell (p := ⟨w.heap.size, 1, none⟩) hwD).trans p1; have r0 := (bn.cell (p := ⟨G, 0, none⟩) hGD).trans r0; have r1 := (bn.cell (p := ⟨G, 1, none⟩) hGD).trans r1; have hwD := Nat.lt_of_lt_of_le hwD bn.size; have hGD := Nat.lt_of_lt_of_le hGD bn.size; have oR := oR.kept bn; have bD := below_step bD bn; clear bn)
      | (go_at_call 22; refine (eqD_is (b := true) (by simp) oR ob.rd).mono ?_; rintro e wc ⟨rfl, bn⟩; have p0 := (bn.cell (p := ⟨w.heap.size, 0, none⟩) hwD).trans p0; have p1 := (bn.cell (p := ⟨w.heap.size, 1, none⟩) hwD).trans p1; have r0 := (bn.cell (p := ⟨G, 0, none⟩) hGD).trans r0; have r1 := (bn.cell (p := ⟨G, 1, none⟩) hGD).trans r1; have bD := below_step bD bn; clear bn))
  replace S := S.below bD
  have r8 := (bD.block G hGl).trans r8
  have o8 := o8.below bD
  have oy := oy.below bD
  have zD := bD.size
  clear p0 p1 oR hwD hGD bD hDD ob r0 r1
  have q40 := S.c40
  have q41 := S.c41
  have q70 := S.c70
  have q71 := S.c71
  go_wp2_with fail
  refine (toDeedS_any l _ _ ((hlW.below S.bb).more S.bb.size) HK.out).mono ?_
  rintro e x10 ⟨v10, rfl, o10, bn⟩
  have r8 := (bn.block G (by omega)).trans r8
  have o8 := o8.below bn
  have oy := oy.below bn
  have z10b := bn.size
  replace S := S.below bn
  clear bn q40 q41 q70 q71
  have q40 := S.c40
  have q41 := S.c41
  have q70 := S.c70
  have q71 := S.c71
  go_wp2_with fail
  refine (gives_is (show decide (l = l) = true by simp) (eqDeedS_any _ _ _ _ _ oy.reads o10.reads)).mono ?_
  rintro e x11 ⟨rfl, bn⟩
  clear o10
  have r8 := (bn.block G (by omega)).trans r8
  have o8 := o8.below bn
  have oy := oy.below bn
  have z11 := bn.size
  replace S := S.below bn
  clear bn q40 q41 q70 q71
  have q40 := S.c40
  have q41 := S.c41
  have q70 := S.c70
  have q71 := S.c71
  obtain ⟨r0, r1⟩ := cells_of_row r8
  go_wp2_with fail
  refine (markDesk_any d _ _ _ 1 _ o8 (by omega) (by omega) (by omega)).mono ?_
  rintro e x12 ⟨rfl, ox2, g12⟩
  have oy := cowns_keptBy oy (fun q hq => g12.block q (oy.lt q hq).2 (.inr (by have := (HY q hq).1; omega)))
  replace S := S.other g12 (by omega) (by omega) (by omega) (by omega)
  clear q40 q41 q70 q71 o8 ox2 g12 r8 r0 r1
  have q40 := S.c40
  have q41 := S.c41
  have q70 := S.c70
  have q71 := S.c71
  go_wp2_with fail
  refine (markC_any l _ _ (1 + 2 * (dsum d : Int)) _ oy (by omega) (by omega) (by omega)).mono ?_
  rintro e x13 ⟨rfl, oy2, g13⟩
  replace S := S.other (GrownIn.of_grown g13 HY) (by omega) (by omega) (by omega) (by omega)
  clear q40 q41 q70 q71 oy oy2 g13 HY
  have q40 := S.c40
  have q41 := S.c41
  have q70 := S.c70
  have q71 := S.c71
  go_wp2_with fail
  refine (eqD_is (b := true) (by simp) S.og.rd S.ow.rd).mono ?_
  rintro e x1 ⟨rfl, bn⟩
  replace S := S.below bn
  clear bn q40 q41 q70 q71
  have q40 := S.c40
  have q41 := S.c41
  have q70 := S.c70
  have q71 := S.c71
  have hO := S.og
  go_wp2_with fail
  refine (markDesk_any (R) _ _ _ 1 _ hO hRs (by omega) (by omega)).mono ?_
  rintro e x2 ⟨rfl, o2, g2⟩
  replace S := S.marked g2 o2
  clear q40 q41 q70 q71 hO g2 o2
  have q40 := S.c40
  have q41 := S.c41
  have q70 := S.c70
  have q71 := S.c71
  go_wp2_with fail
  refine (heldDesk_any (R) _ 1 _ S.og.rd hRs (by omega) (by omega)).mono ?_
  rintro e x3 ⟨rfl, bn⟩
  replace S := S.below bn
  clear bn q40 q41 q70 q71
  have q40 := S.c40
  have q41 := S.c41
  have q70 := S.c70
  have q71 := S.c71
  have hDx := hD.keep S.bb (Nat.le_refl _)
  have p0 := (S.bb.cell (p := ⟨w.heap.size, 0, none⟩) s0).trans q0
  have p1 := (S.bb.cell (p := ⟨w.heap.size, 1, none⟩) s0).trans q1
  go_wp2_with fail
  refine (toDesk_any d _ _ hDx HL.out).mono ?_
  rintro e y1 ⟨u1, rfl, z1, bn⟩
  replace S := S.below bn
  clear bn q40 q41 q70 q71
  have q40 := S.c40
  have q41 := S.c41
  have q70 := S.c70
  have q71 := S.c71
  clear p0 p1 hDx
  go_wp2_with fail
  refine (toDeedS_any l _ _ ((hlW.below S.bb).more S.bb.size) HK.out).mono ?_
  rintro e y2 ⟨u2, rfl, z2, bn⟩
  replace z1 := z1.below bn
  replace S := S.below bn
  clear bn q40 q41 q70 q71
  have q40 := S.c40
  have q41 := S.c41
  have q70 := S.c70
  have q71 := S.c71
  go_wp2_with fail
  have cI := implDeskRun_any d l _ _ y2 z1.rd z2.reads
  rw [hR, hN] at cI
  refine cI.mono ?_
  rintro e y3 ⟨vh, rfl, oh, bn⟩
  replace S := S.below bn
  clear bn q40 q41 q70 q71
  have q40 := S.c40
  have q41 := S.c41
  have q70 := S.c70
  have q71 := S.c71
  clear z1 z2 cI
  obtain ⟨nx, px, ex, rnx, rpx⟩ := (oh).rd
  subst ex
  obtain ⟨A8, c8, rfl, _, _⟩ := rnx.slice
  obtain ⟨P8, d8, rfl, _, _⟩ := rpx.slice
  clear rnx rpx
  obtain ⟨W8, hW8⟩ : ∃ W, W = (y3).alloc (.cells #[.slice A8 (R).1.length c8, .slice P8 (R).2.length d8] 26) := ⟨_, rfl⟩
  have bx8 : Below (y3).heap.size y3 W8 := by rw [hW8]; exact box_below _ _ _
  have r8 : (W8).heap[(y3).heap.size]? = some (.cells #[.slice A8 (R).1.length c8, .slice P8 (R).2.length d8] 26 (0, 0)) := by rw [hW8]; exact heap_alloc_new _ _
  have s8 : (y3).heap.size + 1 = (W8).heap.size := by rw [hW8]; simp
  have o8 := (oh).below bx8
  replace S := S.below bx8
  clear q40 q41 q70 q71
  have q40 := S.c40
  have q41 := S.c41
  have q70 := S.c70
  have q71 := S.c71
  obtain ⟨q80, q81⟩ := cells_of_row r8
  have hv8 := o8.rd
  go_wp2_with (first | (rw [← hW8]; clear hW8) | fail)
  clear r8 o8 bx8
  refine (eqD_is (b := true) (by simp) hv8 S.ow.rd).mono ?_
  rintro e x4 ⟨rfl, bn⟩
  clear q80 q81 hv8
  replace S := S.below bn
  clear bn q40 q41 q70 q71
  have q40 := S.c40
  have q41 := S.c41
  have q70 := S.c70
  have q71 := S.c71
  go_wp2_with fail
  refine (heldDesk_any (R) _ 1 _ S.og.rd hRs (by omega) (by omega)).mono ?_
  rintro e x5 ⟨rfl, bn⟩
  replace S := S.below bn
  clear bn q40 q41 q70 q71
  have q40 := S.c40
  have q41 := S.c41
  have q70 := S.c70
  have q71 := S.c71
  go_wp2
  go_ret
  first | exact ⟨rfl, S.bb⟩ | exact ⟨rfl, below_step b0 S.bb⟩
set_option maxRecDepth 100000 in
theorem lifted (os : Os) (started : os.Started) (H : Type) (enc : TypeId × Value → H) :
    ReturnsInHanded {} Tryz.checked os 6 .any (Rows.fnExactDeskRunSpec.pre6 enc Tryz.prog Tryz.f6 Rows.fnExactDeskRunRow.domain false) (Rows.fnExactDeskRunSpec.post enc Tryz.prog Tryz.f6 false true false false) := by
  refine returnsInHanded_of_change (C := Tryz.checked) own started (by kernel_rfl) Tryz.func6
    (ChangeSpec.witness6 (enc := enc) (C := Tryz.checked) false ⟨#[], #[.agg #[.slice none 0 0, .slice none 0 0], .slice none 0 0], []⟩ 8 (by kernel_rfl) (by kernel_rfl) (by kernel_rfl) (by kernel_rfl)) ?_
  intro W base args ds gs before hval0 hW _ _
  have hval : ∀ (j : Nat) t v, Tryz.f6.params[j]? = some t → args[j]? = some v → Value.okWide Tryz.prog W .any base t v := hval0
  have hW' := hW
  obtain ⟨p, q, hA0, hV, rfl, _, _⟩ := hW
  have hA : DataW.TrodAll enc Tryz.prog W 0 (fun _ => true) true Tryz.f6.params.toList args.toList ds p := hA0
  rw [Tryz.params6] at hA hval
  obtain ⟨v0, v1, d0, d1, p0, p1, rfl, rfl, rfl, h0, h1⟩ := trodAll_two hA
  obtain ⟨rfl, rfl⟩ := trodVars_none hV
  clear hA0 hval0
  simp only [List.append_nil] at hW'
  have hlt : ∀ x ∈ p0 ++ p1, x.block < W.heap.size := fun x hx => by simpa using hW'.lt x hx
  have hlt0 : ∀ x ∈ p0, x.block < W.heap.size := fun x hx => hlt x (List.mem_append_left _ hx)
  have hlt1 : ∀ x ∈ p1, x.block < W.heap.size := fun x hx => hlt x (List.mem_append_right _ hx)
  obtain ⟨d0', r0⟩ := open_ldesk (hval 0 46 v0 rfl rfl) h0 hlt0
  obtain ⟨l1', r1⟩ := open_ldeeds (hval 1 53 v1 rfl rfl) h1 hlt1
  refine (walk d0' l1' v0 v1 W r0 r1).mono fun e W' hg => ?_
  obtain ⟨he, hb⟩ := hg
  subst he
  exact ⟨_, rfl, _, _, _, [], p0 ++ p1, [], hW', trodAll_mk1 (shut_bool Tryz.underlying4 _), trodAll_mk2 (kept_arg (by kernel_rfl) (of_decide_eq_true (by kernel_rfl)) h0 hb hlt0) (kept_arg (by kernel_rfl) (of_decide_eq_true (by kernel_rfl)) h1 hb hlt1), rfl, hb.frame _, fun h => by cases h⟩

theorem holds : Rows.FnExactDeskRunSaid :=
  OpenClaim.holds_of_wide 6 Tryz.f6 rfl rfl rfl rfl rfl rfl rfl ⟨rfl, rfl, rfl, rfl, rfl⟩ rfl rfl rfl rfl rfl (by kernel_rfl) Tryz.func6 (by kernel_rfl)
    (of_decide_eq_true (by kernel_rfl)) (by unfold Func.isWrapper; first | (rw [if_pos (by decide +kernel)]; kernel_rfl) | (rw [if_neg (by decide +kernel)]; exact ⟨rfl, rfl⟩))
    (fun os started H enc _ => lifted os started H enc)
end Go.Proofs.YtgdifenicjgfjaaGreat.exDeskRun
