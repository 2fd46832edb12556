/-
  Proved: the exact law of ThinnedBy (FnExactThinnedBy) returns true for every input, and its arguments read afterwards as they read before. No conditions.
-/
import Derived.Test.YtfofmfkdkihhbacPattT
import Derived.Test.YtfofmfkdkihhbacPattI
import Derived.Test.YtfofmfkdkihhbacCopyP
namespace Go.Proofs.Ytfofmfkdkihhbac.exThinnedBy
open Go.ChangeShapes Go.WideShapes Go.ChangeAt Go.RowKit

theorem thinR_le (p t u : List Sp) : (thinR p t u).length ≤ 60 := by
  rcases h : thinOk p t u with _ | _
  · rw [thin_no h]; simp
  · rw [thin_yes h]
    have k := h
    unfold thinOk at k
    rw [Bool.and_eq_true] at k
    exact Nat.le_trans (List.length_filter_le _ _) (picB_pic k.1).1
set_option maxRecDepth 100000 in
set_option maxHeartbeats 3200000 in
theorem walk (ps t u : List Sp) (v vt vu : Value) (w : World) (h : Reads w w.heap.size v ps) (ht : Reads w w.heap.size vt t) (hu : Reads w w.heap.size vu u) : Calls Try.prog 6 #[v, .agg #[vt, vu]] w (Gives (.bool true) w) := by
  obtain ⟨A, c, rfl, hc, hm⟩ := h.slice
  obtain ⟨At, ct, rfl, hct, hmt⟩ := ht.slice
  obtain ⟨Au, cu, rfl, hcu, hmu⟩ := hu.slice
  unfold maxLen at hm hmt hmu
  have b0 := box_below w #[.slice At t.length ct, .slice Au u.length cu] 39
  obtain ⟨W, hW⟩ : ∃ W, W = w.alloc (.cells #[.slice At t.length ct, .slice Au u.length cu] 39) := ⟨_, rfl⟩
  have q0 : W.cell? ⟨w.heap.size, 0, none⟩ = some (.slice At t.length ct) := by rw [hW]; simp [go_sem]
  have q1 : W.cell? ⟨w.heap.size, 1, none⟩ = some (.slice Au u.length cu) := by rw [hW]; simp [go_sem]
  have s0 : w.heap.size < W.heap.size := by rw [hW]; simp
  rw [← hW] at b0
  have h := h.kept b0
  have ht := ht.kept b0
  have hu := hu.kept b0
  by_cases hl : 1048576 < ps.length
  · go_enter Try.func6, Try.ntmps6
    go_wp2_with (first | (rw [← hW]; clear hW) | fail)
    refine (szSpotS_yes ps.length c A 1048576 _ (by omega) (by omega) (by omega) (by omega)).mono ?_
    rintro e w1 ⟨rfl, b1⟩
    go_wp2
    go_ret
    exact ⟨rfl, below_step b0 b1⟩
  by_cases hl2 : 1048576 - (ps.length : Int) < (t.length : Int) + (u.length : Int)
  · go_enter Try.func6, Try.ntmps6
    go_wp2_with (first | (rw [← hW]; clear hW) | fail)
    refine (szSpotS_no ps.length c A 1048576 _ (by omega) (by omega) (by omega) (by omega)).mono ?_
    rintro e w1 ⟨rfl, b1⟩
    have bb := b1
    have p0 := (bb.cell (p := ⟨w.heap.size, 0, none⟩) s0).trans q0
    have p1 := (bb.cell (p := ⟨w.heap.size, 1, none⟩) s0).trans q1
    go_wp2_with fail
    refine (szPattern_yes t.length ct u.length cu At Au (1048576 - (ps.length : Int)) _ (by omega) (by omega) (by omega) (by omega) (by omega) (by omega) (by omega)).mono ?_
    rintro e w2 ⟨rfl, b2⟩
    go_wp2
    go_ret
    exact ⟨rfl, below_step b0 (below_step b1 b2)⟩
  have hT := thinR_le ps t u
  rcases hK : thinOk ps t u with _ | _
  all_goals
    go_enter Try.func6, Try.ntmps6
    go_wp2_with (first | (rw [← hW]; clear hW) | fail)
    refine (szSpotS_no ps.length c A 1048576 _ (by omega) (by omega) (by omega) (by omega)).mono ?_
    rintro e w1 ⟨rfl, b1⟩
    have bb := b1
    have p0 := (bb.cell (p := ⟨w.heap.size, 0, none⟩) s0).trans q0
    have p1 := (bb.cell (p := ⟨w.heap.size, 1, none⟩) s0).trans q1
    go_wp2_with fail
    refine (szPattern_no t.length ct u.length cu At Au (1048576 - (ps.length : Int)) _ (by omega) (by omega) (by omega) (by omega) (by omega) (by omega) (by omega)).mono ?_
    rintro e w2 ⟨rfl, b2⟩
    have bb := below_step b1 b2
    clear b1 b2 p0 p1
    have p0 : w2.drew.cell? ⟨w.heap.size, 0, none⟩ = some (.slice At t.length ct) := (bb.cell (p := ⟨w.heap.size, 0, none⟩) s0).trans q0
    have p1 : w2.drew.cell? ⟨w.heap.size, 1, none⟩ = some (.slice Au u.length cu) := (bb.cell (p := ⟨w.heap.size, 1, none⟩) s0).trans q1
    have bD : Below w2.heap.size w2 w2.drew := (Below.refl _ _).drew
    have bbD := below_step bb bD
    have sD : w.heap.size < w2.drew.heap.size := Nat.lt_of_lt_of_le s0 bb.size
    go_wp2_with fail
    go_region_held3 (fun w' => w'.cell? ⟨w.heap.size, 0, none⟩ = some (.slice At t.length ct) ∧ w'.cell? ⟨w.heap.size, 1, none⟩ = some (.slice Au u.length cu)) (refine ⟨?_, ?_⟩ <;> with_reducible assumption)
      (first
        | (go_at_call 21; refine (toSpotS_any ps _ _ ((h.below bbD).more bbD.size) (by omega)).mono ?_; rintro e wa ⟨va, rfl, oa, bn⟩; have p0 := (bn.cell (p := ⟨w.heap.size, 0, none⟩) sD).trans p0; have p1 := (bn.cell (p := ⟨w.heap.size, 1, none⟩) sD).trans p1; have sD := Nat.lt_of_lt_of_le sD bn.size; have bD := below_step bD bn; have bbD := below_step bbD bn; clear bn)
        | (go_at_call 22; refine (toPattern_any t u _ _ _ ((ht.below bbD).more bbD.size) ((hu.below bbD).more bbD.size) (by omega) (by omega)).mono ?_; rintro e wb ⟨vbt, vbu, rfl, obt, obu, _, bn⟩; have oa := oa.below bn; have p0 := (bn.cell (p := ⟨w.heap.size, 0, none⟩) sD).trans p0; have p1 := (bn.cell (p := ⟨w.heap.size, 1, none⟩) sD).trans p1; have sD := Nat.lt_of_lt_of_le sD bn.size; have bD := below_step bD bn; have bbD := below_step bbD bn; clear bn)
        | (go_at_call 30; have cS := specThin_any ps t u _ _ _ _ oa.reads obt.reads obu.reads (by omega) (by omega); rw [hK] at cS; refine cS.mono ?_; rintro e wc ⟨vw, rfl, ow, bn⟩; have hbD := bD.size; have p0 := (bn.cell (p := ⟨w.heap.size, 0, none⟩) sD).trans p0; have p1 := (bn.cell (p := ⟨w.heap.size, 1, none⟩) sD).trans p1; have bD := below_step bD bn; have bbD := below_step bbD bn; clear bn cS oa obt obu))
    clear p0 p1
    have bb := bbD
    clear bD bbD sD hbD
    have hb3 := bb.size
    have p0 := (bb.cell (p := ⟨w.heap.size, 0, none⟩) s0).trans q0
    have p1 := (bb.cell (p := ⟨w.heap.size, 1, none⟩) s0).trans q1
    go_wp2_with fail
    refine (toSpotS_any ps _ _ ((h.below bb).more bb.size) (by omega)).mono ?_
    rintro e w6 ⟨vx, rfl, ox, bn⟩
    have newx := Owns.ne ow ox (Nat.le_refl _)
    have ow := ow.below bn
    have bb := below_step bb bn
    have hb5 := bb.size
    have p0 := (bb.cell (p := ⟨w.heap.size, 0, none⟩) s0).trans q0
    have p1 := (bb.cell (p := ⟨w.heap.size, 1, none⟩) s0).trans q1
    clear bn
    go_wp2_with fail
    refine (toPattern_any t u _ _ _ ((ht.below bb).more bb.size) ((hu.below bb).more bb.size) (by omega) (by omega)).mono ?_
    rintro e w7 ⟨vxt, vxu, rfl, oxt, oxu, hut, bn⟩
    have newt := Owns.ne ow oxt (Nat.le_refl _)
    have newu := Owns.ne ow oxu (Nat.le_refl _)
    have netx := Owns.ne' oxt ox (Nat.le_refl _)
    have neux := Owns.ne' oxu ox (Nat.le_refl _)
    have ow := ow.below bn
    have ox := ox.below bn
    have bb := below_step bb bn
    clear bn p0 p1
    obtain ⟨A7, c7, rfl, _, _⟩ := oxt.reads.slice
    obtain ⟨B7, d7, rfl, _, _⟩ := oxu.reads.slice
    have bn := box_below w7 #[.slice A7 t.length c7, .slice B7 u.length d7] 25
    obtain ⟨W7, hW7⟩ : ∃ W7, W7 = w7.alloc (.cells #[.slice A7 t.length c7, .slice B7 u.length d7] 25) := ⟨_, rfl⟩
    have hx1 : W7.heap[w7.heap.size]? = some (.cells #[.slice A7 t.length c7, .slice B7 u.length d7] 25 (0, 0)) := by rw [hW7]; exact heap_alloc_new w7 _
    have hG : w7.heap.size < W7.heap.size := by rw [hW7]; simp
    rw [← hW7] at bn
    have ow := ow.below bn
    have ox := ox.below bn
    have oxt := oxt.below bn
    have oxu := oxu.below bn
    have bb := below_step bb bn
    have hb4 := bb.size
    clear bn
    obtain ⟨r0, r1⟩ := cells_of_row hx1
    go_wp2_with fail
    rw [← hW7]
    clear hW7
    obtain ⟨G, hGe⟩ : ∃ G, G = w7.heap.size := ⟨_, rfl⟩
    rw [← hGe] at hG hx1 r0 r1 ⊢
    clear hGe
    have cI := implThin_any ps t u _ _ _ _ ox.reads oxt.reads oxu.reads
    rw [hK] at cI
    refine cI.mono ?_
    rintro e w8 ⟨vg, rfl, og, bn⟩
    have newg := Owns.ne ow og (Nat.le_refl _)
    have negx := Owns.ne' og ox (Nat.le_refl _)
    have negt := Owns.ne' og oxt (Nat.le_refl _)
    have negu := Owns.ne' og oxu (Nat.le_refl _)
    have ow := ow.below bn
    have ox := ox.below bn
    have oxt := oxt.below bn
    have oxu := oxu.below bn
    have hx1 := (bn.block G hG).trans hx1
    have hG := Nat.lt_of_lt_of_le hG bn.size
    have bb := below_step bb bn
    clear bn cI r0 r1
    go_wp2_with fail
    refine (gives_is (show decide (thinR ps t u = thinR ps t u) = true by simp) (eqSpotS_any _ _ _ _ _ og.reads ow.reads)).mono ?_
    rintro e w9 ⟨rfl, bn⟩
    have ow := ow.below bn
    have ox := ox.below bn
    have oxt := oxt.below bn
    have oxu := oxu.below bn
    have hx1 := (bn.block G hG).trans hx1
    have hG := Nat.lt_of_lt_of_le hG bn.size
    have bb := below_step bb bn
    have og := og.below bn
    clear bn
    go_wp2_with fail
    refine (toSpotS_any ps _ _ ((h.below bb).more bb.size) (by omega)).mono ?_
    rintro e w10 ⟨v10, rfl, o10, bn⟩
    have ow := ow.below bn
    have ox := ox.below bn
    have oxt := oxt.below bn
    have oxu := oxu.below bn
    have hx1 := (bn.block G hG).trans hx1
    have hG := Nat.lt_of_lt_of_le hG bn.size
    have bb := below_step bb bn
    have og := og.below bn
    clear bn
    go_wp2_with fail
    refine (gives_is (show decide (ps = ps) = true by simp) (eqSpotS_any _ _ _ _ _ ox.reads o10.reads)).mono ?_
    rintro e w11 ⟨rfl, bn⟩
    have ow := ow.below bn
    have ox := ox.below bn
    have oxt := oxt.below bn
    have oxu := oxu.below bn
    have hx1 := (bn.block G hG).trans hx1
    have hG := Nat.lt_of_lt_of_le hG bn.size
    have bb := below_step bb bn
    have og := og.below bn
    clear bn o10
    have p0 : w11.drew.cell? ⟨w.heap.size, 0, none⟩ = some (.slice At t.length ct) := (bb.cell (p := ⟨w.heap.size, 0, none⟩) s0).trans q0
    have p1 : w11.drew.cell? ⟨w.heap.size, 1, none⟩ = some (.slice Au u.length cu) := (bb.cell (p := ⟨w.heap.size, 1, none⟩) s0).trans q1
    have r0 : w11.drew.cell? ⟨G, 0, none⟩ = some (.slice A7 t.length c7) := (cells_of_row hx1).1
    have r1 : w11.drew.cell? ⟨G, 1, none⟩ = some (.slice B7 u.length d7) := (cells_of_row hx1).2
    have bD : Below w11.heap.size w11 w11.drew := (Below.refl _ _).drew
    have bbD := below_step bb bD
    have sD : w.heap.size < w11.drew.heap.size := Nat.lt_of_lt_of_le s0 bb.size
    have gD : G < w11.drew.heap.size := hG
    have rtD := oxt.reads.kept bD
    have ruD := oxu.reads.kept bD
    go_wp2_with fail
    go_region_held3 (fun w' => w'.cell? ⟨w.heap.size, 0, none⟩ = some (.slice At t.length ct) ∧ w'.cell? ⟨w.heap.size, 1, none⟩ = some (.slice Au u.length cu) ∧ w'.cell? ⟨G, 0, none⟩ = some (.slice A7 t.length c7) ∧ w'.cell? ⟨G, 1, none⟩ = some (.slice B7 u.length d7)) (refine ⟨?_, ?_, ?_, ?_⟩ <;> with_reducible assumption)
      (first
        | (go_at_call 22; refine (toPattern_any t u _ _ _ ((ht.below bbD).more bbD.size) ((hu.below bbD).more bbD.size) (by omega) (by omega)).mono ?_; rintro e wb ⟨vbt, vbu, rfl, obt, obu, _, bn⟩; have p0 := (bn.cell (p := ⟨w.heap.size, 0, none⟩) sD).trans p0; have p1 := (bn.cell (p := ⟨w.heap.size, 1, none⟩) sD).trans p1; have r0 := (bn.cell (p := ⟨G, 0, none⟩) gD).trans r0; have r1 := (bn.cell (p := ⟨G, 1, none⟩) gD).trans r1; have sD := Nat.lt_of_lt_of_le sD bn.size; have gD := Nat.lt_of_lt_of_le gD bn.size; have rtD := rtD.kept bn; have ruD := ruD.kept bn; have bD := below_step bD bn; have bbD := below_step bbD bn; clear bn)
        | (go_at_call 24; refine (eqPattern_same t u _ _ _ _ _ rtD ruD obt.reads obu.reads).mono ?_; rintro e wc ⟨rfl, bn⟩; have p0 := (bn.cell (p := ⟨w.heap.size, 0, none⟩) sD).trans p0; have p1 := (bn.cell (p := ⟨w.heap.size, 1, none⟩) sD).trans p1; have r0 := (bn.cell (p := ⟨G, 0, none⟩) gD).trans r0; have r1 := (bn.cell (p := ⟨G, 1, none⟩) gD).trans r1; have bD := below_step bD bn; have bbD := below_step bbD bn; clear bn))
    have bn := bD
    have ow := ow.below bn
    have ox := ox.below bn
    have oxt := oxt.below bn
    have oxu := oxu.below bn
    have hx1 := (bn.block G hG).trans hx1
    have hG := Nat.lt_of_lt_of_le hG bn.size
    have bb := below_step bb bn
    have og := og.below bn
    clear bn bD bbD sD gD rtD ruD p0 p1 r0 r1
    go_wp2_with fail
    refine (mark_any ps _ _ 1 _ ox (by omega) (by omega) (by omega)).mono ?_
    rintro e w14 ⟨rfl, ox9, g9⟩
    have hx1 := (g9.block G hG (by
      rcases ox.apart2 hx1 (by decide) with e | e
      · rw [e]; intro k; cases k
      · exact fun k => e k.symm)).trans hx1
    have bb := bb.grown g9 bb.size (fun k hk => Nat.le_trans hb3 (ox.lt k hk).1)
    have ow := ow.grown g9 newx
    have og := og.grown g9 negx
    have oxt := oxt.grown g9 netx
    have oxu := oxu.grown g9 neux
    obtain ⟨r0, r1⟩ := cells_of_row hx1
    clear ox ox9 g9
    go_wp2_with fail
    refine (markPattern_any t u _ _ _ _ (1 + 2 * (ps.length : Int)) _ oxt oxu hut (by omega) (by omega) (by omega) (by omega)).mono ?_
    rintro e w15 ⟨rfl, wA, wB, bA, gA, gB⟩
    have bbA := (below_step bb bA).grown gA (below_step bb bA).size (fun k hk => Nat.le_trans hb5 (oxt.lt k hk).1)
    have bb9 := bbA.grown gB bbA.size (fun k hk => Nat.le_trans hb5 (oxu.lt k hk).1)
    have ow9 := ((ow.below bA).grown gA newt).grown gB newu
    have og9 := ((og.below bA).grown gA negt).grown gB negu
    clear bb bbA ow og oxt oxu bA gA gB r0 r1
    go_wp2_with fail
    refine (gives_is (show decide (thinR ps t u = thinR ps t u) = true by simp) (eqSpotS_any _ _ _ _ _ og9.reads ow9.reads)).mono ?_
    rintro e w10 ⟨rfl, b10⟩
    have ow10 := ow9.below b10
    have og10 := og9.below b10
    have bb10 := below_step bb9 b10
    clear b10 ow9 og9 bb9
    go_wp2_with fail
    refine (mark_any (thinR ps t u) _ _ 1 _ og10 (by omega) (by omega) (by omega)).mono ?_
    rintro e w11 ⟨rfl, og11, g11⟩
    have bb11 := bb10.grown g11 bb10.size (fun k hk => Nat.le_trans hb4 (og10.lt k hk).1)
    have ow11 := ow10.grown g11 newg
    clear bb10 ow10 og10 g11
    go_wp2_with fail
    refine (held_any _ _ 1 _ og11.reads (by omega) (by omega) (by omega)).mono ?_
    rintro e w12 ⟨rfl, b12⟩
    have ow12 := ow11.below b12
    have og12 := og11.below b12
    have bb := below_step bb11 b12
    clear b12 ow11 og11 bb11
    have p0 : w12.drew.cell? ⟨w.heap.size, 0, none⟩ = some (.slice At t.length ct) := (bb.cell (p := ⟨w.heap.size, 0, none⟩) s0).trans q0
    have p1 : w12.drew.cell? ⟨w.heap.size, 1, none⟩ = some (.slice Au u.length cu) := (bb.cell (p := ⟨w.heap.size, 1, none⟩) s0).trans q1
    have bD : Below w12.heap.size w12 w12.drew := (Below.refl _ _).drew
    have bbD := below_step bb bD
    have sD : w.heap.size < w12.drew.heap.size := Nat.lt_of_lt_of_le s0 bb.size
    go_wp2_with fail
    go_region_held3 (fun w' => w'.cell? ⟨w.heap.size, 0, none⟩ = some (.slice At t.length ct) ∧ w'.cell? ⟨w.heap.size, 1, none⟩ = some (.slice Au u.length cu)) (refine ⟨?_, ?_⟩ <;> with_reducible assumption)
      (first
        | (go_at_call 21; refine (toSpotS_any ps _ _ ((h.below bbD).more bbD.size) (by omega)).mono ?_; rintro e wa ⟨va, rfl, oa, bn⟩; have p0 := (bn.cell (p := ⟨w.heap.size, 0, none⟩) sD).trans p0; have p1 := (bn.cell (p := ⟨w.heap.size, 1, none⟩) sD).trans p1; have sD := Nat.lt_of_lt_of_le sD bn.size; have bD := below_step bD bn; have bbD := below_step bbD bn; clear bn)
        | (go_at_call 22; refine (toPattern_any t u _ _ _ ((ht.below bbD).more bbD.size) ((hu.below bbD).more bbD.size) (by omega) (by omega)).mono ?_; rintro e wb ⟨vbt, vbu, rfl, obt, obu, _, bn⟩; have oa := oa.below bn; have p0 := (bn.cell (p := ⟨w.heap.size, 0, none⟩) sD).trans p0; have p1 := (bn.cell (p := ⟨w.heap.size, 1, none⟩) sD).trans p1; have sD := Nat.lt_of_lt_of_le sD bn.size; have bD := below_step bD bn; have bbD := below_step bbD bn; clear bn)
        | (go_at_call 29; have cS := implThin_any ps t u _ _ _ _ oa.reads obt.reads obu.reads; rw [hK] at cS; refine cS.mono ?_; rintro e wc ⟨vh, rfl, oh, bn⟩; have hbD := bD.size; have p0 := (bn.cell (p := ⟨w.heap.size, 0, none⟩) sD).trans p0; have p1 := (bn.cell (p := ⟨w.heap.size, 1, none⟩) sD).trans p1; have bD := below_step bD bn; have bbD := below_step bbD bn; clear bn cS oa obt obu))
    clear p0 p1
    have oh := oh.base hbD
    have bh := bD
    have ow15 := ow12.below bh
    have og15 := og12.below bh
    have bb15 := below_step bb bh
    clear bh ow12 og12 bb
    go_wp2_with fail
    refine (gives_is (show decide (thinR ps t u = thinR ps t u) = true by simp) (eqSpotS_any _ _ _ _ _ oh.reads ow15.reads)).mono ?_
    rintro e w16 ⟨rfl, b16⟩
    have og16 := og15.below b16
    have bb16 := below_step bb15 b16
    clear b16 ow15 og15 bb15 oh
    go_wp2_with fail
    refine (held_any _ _ 1 _ og16.reads (by omega) (by omega) (by omega)).mono ?_
    rintro e w17 ⟨rfl, b17⟩
    have bb17 := below_step bb16 b17
    go_wp2
    go_ret
    first | exact ⟨rfl, bb17⟩ | exact ⟨rfl, below_step b0 bb17⟩
set_option maxRecDepth 100000 in
theorem lifted (os : Os) (started : os.Started) (H : Type) (enc : TypeId × Value → H) :
    ReturnsInHanded {} Try.checked os 6 .any (Rows.fnExactThinnedBySpec.pre6 enc Try.prog Try.f6 Rows.fnExactThinnedByRow.domain false) (Rows.fnExactThinnedBySpec.post enc Try.prog Try.f6 false true false false) := by
  refine returnsInHanded_of_change (C := Try.checked) own started (by kernel_rfl) Try.func6
    (ChangeSpec.witness6 (enc := enc) (C := Try.checked) false ⟨#[], #[.slice none 0 0, .agg #[.slice none 0 0, .slice none 0 0]], []⟩ 8 (by kernel_rfl) (by kernel_rfl) (by kernel_rfl) (by kernel_rfl)) ?_
  intro W base args ds gs before hval0 hW _ _
  have hval : ∀ (j : Nat) t v, Try.f6.params[j]? = some t → args[j]? = some v → Value.okWide Try.prog W .any base t v := hval0
  have hW' := hW
  obtain ⟨p, q, hA0, hV, rfl, _, _⟩ := hW
  have hA : DataW.TrodAll enc Try.prog W 0 (fun _ => true) true Try.f6.params.toList args.toList ds p := hA0
  rw [Try.params6] at hA hval
  obtain ⟨v0, v1, d0, d1, p0, p1, rfl, rfl, rfl, h0, h1⟩ := trodAll_two hA
  obtain ⟨rfl, rfl⟩ := trodVars_none hV
  clear hA0 hval0
  simp only [List.append_nil] at hW'
  have hlt : ∀ x ∈ p0 ++ p1, x.block < W.heap.size := fun x hx => by simpa using hW'.lt x hx
  have hlt0 : ∀ x ∈ p0, x.block < W.heap.size := fun x hx => hlt x (List.mem_append_left _ hx)
  have hlt1 : ∀ x ∈ p1, x.block < W.heap.size := fun x hx => hlt x (List.mem_append_right _ hx)
  obtain ⟨ps0, r0⟩ := open_lspots (hval 0 37 v0 rfl rfl) h0 hlt0
  obtain ⟨⟨vt1, vu1, t1, u1⟩, rfl, r1, r2⟩ := open_lpattern (hval 1 39 v1 rfl rfl) h1 hlt1
  refine (walk ps0 t1 u1 v0 vt1 vu1 W r0 r1 r2).mono fun e W' hg => ?_
  obtain ⟨he, hb⟩ := hg
  subst he
  exact ⟨_, rfl, _, _, _, [], p0 ++ p1, [], hW', trodAll_mk1 (shut_bool Try.underlying4 _), trodAll_mk2 (kept_arg (by kernel_rfl) (of_decide_eq_true (by kernel_rfl)) h0 hb hlt0) (kept_arg (by kernel_rfl) (of_decide_eq_true (by kernel_rfl)) h1 hb hlt1), rfl, hb.frame _, fun h => by cases h⟩

theorem holds : Rows.FnExactThinnedBySaid :=
  OpenClaim.holds_of_wide 6 Try.f6 rfl rfl rfl rfl rfl rfl rfl ⟨rfl, rfl, rfl, rfl, rfl⟩ rfl rfl rfl rfl rfl (by kernel_rfl) Try.func6 (by kernel_rfl)
    (of_decide_eq_true (by kernel_rfl)) (by unfold Func.isWrapper; first | (rw [if_pos (by decide +kernel)]; kernel_rfl) | (rw [if_neg (by decide +kernel)]; exact ⟨rfl, rfl⟩))
    (fun os started H enc _ => lifted os started H enc)
end Go.Proofs.Ytfofmfkdkihhbac.exThinnedBy
