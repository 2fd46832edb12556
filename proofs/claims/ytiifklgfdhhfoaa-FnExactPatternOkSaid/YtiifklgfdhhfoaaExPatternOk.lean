/-
  Proved: the exact law of PatternOk (FnExactPatternOk) returns true for every input, and its arguments read afterwards as they read before. No conditions.
-/
import Derived.Test.YtiifklgfdhhfoaaPattS
import Derived.Test.YtiifklgfdhhfoaaPattI
import Derived.Test.YtiifklgfdhhfoaaCopyP
namespace Go.Proofs.Ytiifklgfdhhfoaa.exPatternOk
open Go.ChangeShapes Go.WideShapes Go.ChangeAt Go.RowKit

set_option maxRecDepth 100000 in
set_option maxHeartbeats 1600000 in
theorem walk (t u : List Sp) (vt vu : Value) (w : World) (ht : Reads w w.heap.size vt t) (hu : Reads w w.heap.size vu u) : Calls Try.prog 8 #[.agg #[vt, vu]] w (Gives (.bool true) w) := by
  obtain ⟨At, ct, rfl, hct, hmt⟩ := ht.slice
  obtain ⟨Au, cu, rfl, hcu, hmu⟩ := hu.slice
  unfold maxLen at hmt hmu
  have b0 := box_below w #[.slice At t.length ct, .slice Au u.length cu] 46
  obtain ⟨W, hW⟩ : ∃ W, W = w.alloc (.cells #[.slice At t.length ct, .slice Au u.length cu] 46) := ⟨_, rfl⟩
  have q0 : W.cell? ⟨w.heap.size, 0, none⟩ = some (.slice At t.length ct) := by rw [hW]; simp [go_sem]
  have q1 : W.cell? ⟨w.heap.size, 1, none⟩ = some (.slice Au u.length cu) := by rw [hW]; simp [go_sem]
  have s0 : w.heap.size < W.heap.size := by rw [hW]; simp
  rw [← hW] at b0
  have ht := ht.kept b0
  have hu := hu.kept b0
  by_cases hl2 : 1048576 < (t.length : Int) + (u.length : Int)
  · go_enter Try.func8, Try.ntmps8
    go_wp2_with (first | (rw [← hW]; clear hW) | fail)
    refine (szPattern_yes t.length ct u.length cu At Au 1048576 _ (by omega) (by omega) (by omega) (by omega) (by omega) (by omega) (by omega)).mono ?_
    rintro e w2 ⟨rfl, b2⟩
    go_wp2
    go_ret
    exact ⟨rfl, below_step b0 b2⟩
  rcases hK : patB t u with _ | _
  all_goals
    go_enter Try.func8, Try.ntmps8
    go_wp2_with (first | (rw [← hW]; clear hW) | fail)
    refine (szPattern_no t.length ct u.length cu At Au 1048576 _ (by omega) (by omega) (by omega) (by omega) (by omega) (by omega) (by omega)).mono ?_
    rintro e w2 ⟨rfl, bb⟩
    have p0 := (bb.cell (p := ⟨w.heap.size, 0, none⟩) s0).trans q0
    have p1 := (bb.cell (p := ⟨w.heap.size, 1, none⟩) s0).trans q1
    go_wp2_with fail
    refine (toPattern_any t u _ _ _ ((ht.below bb).more bb.size) ((hu.below bb).more bb.size) (by omega) (by omega)).mono ?_
    rintro e w3 ⟨v3t, v3u, rfl, o3t, o3u, _, bn⟩
    have bb := below_step bb bn
    clear bn p0 p1
    go_wp2_with fail
    have cS := specPattern_any t u _ _ _ o3t.reads o3u.reads (by omega) (by omega)
    rw [hK] at cS
    refine cS.mono ?_
    rintro e w4 ⟨rfl, bn⟩
    have bb := below_step bb bn
    clear bn o3t o3u cS
    have p0 := (bb.cell (p := ⟨w.heap.size, 0, none⟩) s0).trans q0
    have p1 := (bb.cell (p := ⟨w.heap.size, 1, none⟩) s0).trans q1
    go_wp2_with fail
    refine (toPattern_any t u _ _ _ ((ht.below bb).more bb.size) ((hu.below bb).more bb.size) (by omega) (by omega)).mono ?_
    rintro e w7 ⟨vxt, vxu, rfl, oxt, oxu, hut, bn⟩
    have bb := below_step bb bn
    clear bn p0 p1
    obtain ⟨A7, c7, rfl, _, _⟩ := oxt.reads.slice
    obtain ⟨B7, d7, rfl, _, _⟩ := oxu.reads.slice
    have bn := box_below w7 #[.slice A7 t.length c7, .slice B7 u.length d7] 25
    obtain ⟨W7, hW7⟩ : ∃ W7, W7 = w7.alloc (.cells #[.slice A7 t.length c7, .slice B7 u.length d7] 25) := ⟨_, rfl⟩
    have r0 : W7.cell? ⟨w7.heap.size, 0, none⟩ = some (.slice A7 t.length c7) := by rw [hW7]; simp [go_sem]
    have r1 : W7.cell? ⟨w7.heap.size, 1, none⟩ = some (.slice B7 u.length d7) := by rw [hW7]; simp [go_sem]
    have hG : w7.heap.size < W7.heap.size := by rw [hW7]; simp
    rw [← hW7] at bn
    have oxt := oxt.below bn
    have oxu := oxu.below bn
    have bb := below_step bb bn
    clear bn
    go_wp2_with fail
    rw [← hW7]
    clear hW7
    obtain ⟨G, hGe⟩ : ∃ G, G = w7.heap.size := ⟨_, rfl⟩
    rw [← hGe] at hG r0 r1 ⊢
    clear hGe
    have cI := implPattern_any t u _ _ _ oxt.reads oxu.reads
    rw [hK] at cI
    refine cI.mono ?_
    rintro e w11 ⟨rfl, bn⟩
    have oxt := oxt.below bn
    have oxu := oxu.below bn
    have r0 := (bn.cell (p := ⟨G, 0, none⟩) hG).trans r0
    have r1 := (bn.cell (p := ⟨G, 1, none⟩) hG).trans r1
    have hG := Nat.lt_of_lt_of_le hG bn.size
    have bb := below_step bb bn
    clear bn cI
    have p0 : w11.drew.cell? ⟨w.heap.size, 0, none⟩ = some (.slice At t.length ct) := (bb.cell (p := ⟨w.heap.size, 0, none⟩) s0).trans q0
    have p1 : w11.drew.cell? ⟨w.heap.size, 1, none⟩ = some (.slice Au u.length cu) := (bb.cell (p := ⟨w.heap.size, 1, none⟩) s0).trans q1
    have r0 : w11.drew.cell? ⟨G, 0, none⟩ = some (.slice A7 t.length c7) := r0
    have r1 : w11.drew.cell? ⟨G, 1, none⟩ = some (.slice B7 u.length d7) := r1
    have bD : Below w11.heap.size w11 w11.drew := (Below.refl _ _).drew
    have bbD := below_step bb bD
    have sD : w.heap.size < w11.drew.heap.size := Nat.lt_of_lt_of_le s0 bb.size
    have gD : G < w11.drew.heap.size := hG
    have rtD := oxt.reads.kept bD
    have ruD := oxu.reads.kept bD
    go_wp2_with fail
    go_region_held3 (fun w' => w'.cell? ⟨w.heap.size, 0, none⟩ = some (.slice At t.length ct) ∧ w'.cell? ⟨w.heap.size, 1, none⟩ = some (.slice Au u.length cu) ∧ w'.cell? ⟨G, 0, none⟩ = some (.slice A7 t.length c7) ∧ w'.cell? ⟨G, 1, none⟩ = some (.slice B7 u.length d7)) (refine ⟨?_, ?_, ?_, ?_⟩ <;> with_reducible assumption)
      (first
        | (go_at_call 37; refine (toPattern_any t u _ _ _ ((ht.below bbD).more bbD.size) ((hu.below bbD).more bbD.size) (by omega) (by omega)).mono ?_; rintro e wb ⟨vbt, vbu, rfl, obt, obu, _, bn⟩; have p0 := (bn.cell (p := ⟨w.heap.size, 0, none⟩) sD).trans p0; have p1 := (bn.cell (p := ⟨w.heap.size, 1, none⟩) sD).trans p1; have r0 := (bn.cell (p := ⟨G, 0, none⟩) gD).trans r0; have r1 := (bn.cell (p := ⟨G, 1, none⟩) gD).trans r1; have sD := Nat.lt_of_lt_of_le sD bn.size; have gD := Nat.lt_of_lt_of_le gD bn.size; have rtD := rtD.kept bn; have ruD := ruD.kept bn; have bD := below_step bD bn; have bbD := below_step bbD bn; clear bn)
        | (go_at_call 38; refine (eqPattern_same t u _ _ _ _ _ rtD ruD obt.reads obu.reads).mono ?_; rintro e wc ⟨rfl, bn⟩; have p0 := (bn.cell (p := ⟨w.heap.size, 0, none⟩) sD).trans p0; have p1 := (bn.cell (p := ⟨w.heap.size, 1, none⟩) sD).trans p1; have r0 := (bn.cell (p := ⟨G, 0, none⟩) gD).trans r0; have r1 := (bn.cell (p := ⟨G, 1, none⟩) gD).trans r1; have bD := below_step bD bn; have bbD := below_step bbD bn; clear bn))
    go_wp2
    go_ret
    exact ⟨rfl, below_step b0 bbD⟩
set_option maxRecDepth 100000 in
theorem lifted (os : Os) (started : os.Started) (H : Type) (enc : TypeId × Value → H) :
    ReturnsInHanded {} Try.checked os 8 .any (Rows.fnExactPatternOkSpec.pre6 enc Try.prog Try.f8 Rows.fnExactPatternOkRow.domain false) (Rows.fnExactPatternOkSpec.post enc Try.prog Try.f8 false true false false) := by
  refine returnsInHanded_of_change (C := Try.checked) own started (by kernel_rfl) Try.func8
    (ChangeSpec.witness6 (enc := enc) (C := Try.checked) false ⟨#[], #[.agg #[.slice none 0 0, .slice none 0 0]], []⟩ 8 (by kernel_rfl) (by kernel_rfl) (by kernel_rfl) (by kernel_rfl)) ?_
  intro W base args ds gs before hval0 hW _ _
  have hval : ∀ (j : Nat) t v, Try.f8.params[j]? = some t → args[j]? = some v → Value.okWide Try.prog W .any base t v := hval0
  have hW' := hW
  obtain ⟨p, q, hA0, hV, rfl, _, _⟩ := hW
  have hA : DataW.TrodAll enc Try.prog W 0 (fun _ => true) true Try.f8.params.toList args.toList ds p := hA0
  rw [Try.params8] at hA hval
  obtain ⟨v0, d0, rfl, rfl, h0⟩ := trodAll_one hA
  obtain ⟨rfl, rfl⟩ := trodVars_none hV
  clear hA0 hval0
  simp only [List.append_nil] at hW'
  have hlt : ∀ x ∈ p, x.block < W.heap.size := fun x hx => by simpa using hW'.lt x hx
  have r0 := open_lpattern (hval 0 46 v0 rfl rfl) h0 hlt
  obtain ⟨ps0, r0⟩ := r0
  refine (show Calls Try.prog 8 #[v0] W (Gives (.bool true) W) from by rw [r0.1]; exact walk ps0.2.2.1 ps0.2.2.2 ps0.1 ps0.2.1 W r0.2.1 r0.2.2).mono fun e W' hg => ?_
  obtain ⟨he, hb⟩ := hg
  subst he
  exact ⟨_, rfl, _, _, _, [], p, [], hW', trodAll_mk1 (shut_bool Try.underlying4 _), trodAll_mk1 (kept_arg (by kernel_rfl) (of_decide_eq_true (by kernel_rfl)) h0 hb hlt), rfl, hb.frame _, fun h => by cases h⟩

theorem holds : Rows.FnExactPatternOkSaid :=
  OpenClaim.holds_of_wide 8 Try.f8 rfl rfl rfl rfl rfl rfl rfl ⟨rfl, rfl, rfl, rfl, rfl⟩ rfl rfl rfl rfl rfl (by kernel_rfl) Try.func8 (by kernel_rfl)
    (of_decide_eq_true (by kernel_rfl)) (by unfold Func.isWrapper; first | (rw [if_pos (by decide +kernel)]; kernel_rfl) | (rw [if_neg (by decide +kernel)]; exact ⟨rfl, rfl⟩))
    (fun os started H enc _ => lifted os started H enc)
end Go.Proofs.Ytiifklgfdhhfoaa.exPatternOk
