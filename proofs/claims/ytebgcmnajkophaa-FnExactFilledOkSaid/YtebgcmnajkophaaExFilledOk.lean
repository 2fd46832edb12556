/-
  Proved: the exact law of FilledOk (FnExactFilledOk) returns true for every input, and its arguments read afterwards as they read before. No conditions.
-/
import Derived.Test.YtebgcmnajkophaaBothS
import Derived.Test.YtebgcmnajkophaaRowsI
import Derived.Test.YtebgcmnajkophaaCopy
import Derived.Test.YtebgcmnajkophaaOpen
namespace Go.Proofs.Ytebgcmnajkophaa.exFilledOk
open Go.ChangeShapes Go.WideShapes Go.ChangeAt Go.RowKit

set_option maxRecDepth 100000 in
set_option maxHeartbeats 1600000 in
theorem walk (ps : List Sp) (v : Value) (w : World) (h : Reads w w.heap.size v ps) : Calls Try.prog 12 #[v] w (Gives (.bool true) w) := by
  obtain ⟨A, c, rfl, hc, hm⟩ := h.slice
  unfold maxLen at hm
  by_cases hl : 1048576 < ps.length
  · go_enter Try.func12, Try.ntmps12
    go_wp2_with fail
    refine (szSpotS_yes ps.length c A 1048576 _ (by omega) (by omega) (by omega) (by omega)).mono ?_
    rintro e w1 ⟨rfl, b1⟩
    go_wp2
    go_ret
    exact ⟨rfl, b1⟩
  · go_enter Try.func12, Try.ntmps12
    go_wp2_with fail
    refine (szSpotS_no ps.length c A 1048576 _ (by omega) (by omega) (by omega) (by omega)).mono ?_
    rintro e w1 ⟨rfl, b1⟩
    have r1 := h.kept b1
    go_wp2_with fail
    refine (toSpotS_any ps _ _ r1 (by omega)).mono ?_
    rintro e w2 ⟨v2, rfl, o2, b2⟩
    have r2 := r1.kept b2
    go_wp2_with fail
    refine (specFullOk_any ps _ _ o2.reads (by omega)).mono ?_
    rintro e w3 ⟨rfl, b3⟩
    have r3 := r2.kept b3
    go_wp2_with fail
    refine (toSpotS_any ps _ _ r3 (by omega)).mono ?_
    rintro e w4 ⟨v4, rfl, o4, b4⟩
    have r4 := r3.kept b4
    go_wp2_with fail
    refine (implFullOk_any ps _ _ o4.reads (by omega)).mono ?_
    rintro e w5 ⟨rfl, b5⟩
    have r5 := r4.kept b5
    have o5 := o4.below b5
    go_wp2_with fail
    go_ways
    refine (toSpotS_any ps _ _ r5 (by omega)).mono ?_
    rintro e w6 ⟨v6, rfl, o6, b6⟩
    have o7 := o5.below b6
    go_wp2_with fail
    refine (eqSpotS_any ps ps _ _ _ o7.reads o6.reads).mono ?_
    rintro e w7 ⟨rfl, b7⟩
    go_wp2
    go_ret
    exact ⟨rfl, below_step (below_step (below_step (below_step (below_step (below_step b1 b2) b3) b4) b5) b6) b7⟩

set_option maxRecDepth 100000 in
theorem lifted (os : Os) (started : os.Started) (H : Type) (enc : TypeId × Value → H) :
    ReturnsInHanded {} Try.checked os 12 .any (Rows.fnExactFilledOkSpec.pre6 enc Try.prog Try.f12 Rows.fnExactFilledOkRow.domain false) (Rows.fnExactFilledOkSpec.post enc Try.prog Try.f12 false true false false) := by
  refine returnsInHanded_of_change (C := Try.checked) own started (by kernel_rfl) Try.func12
    (ChangeSpec.witness6 (enc := enc) (C := Try.checked) false ⟨#[], #[.slice none 0 0], []⟩ 8 (by kernel_rfl) (by kernel_rfl) (by kernel_rfl) (by kernel_rfl)) ?_
  intro W base args ds gs before hval0 hW _ _
  have hval : ∀ (j : Nat) t v, Try.f12.params[j]? = some t → args[j]? = some v → Value.okWide Try.prog W .any base t v := hval0
  have hW' := hW
  obtain ⟨p, q, hA0, hV, rfl, _, _⟩ := hW
  have hA : DataW.TrodAll enc Try.prog W 0 (fun _ => true) true Try.f12.params.toList args.toList ds p := hA0
  rw [Try.params12] at hA hval
  obtain ⟨v0, d0, rfl, rfl, h0⟩ := trodAll_one hA
  obtain ⟨rfl, rfl⟩ := trodVars_none hV
  clear hA0 hval0
  simp only [List.append_nil] at hW'
  have hlt : ∀ x ∈ p, x.block < W.heap.size := fun x hx => by simpa using hW'.lt x hx
  have r0 := open_lspots (hval 0 39 v0 rfl rfl) h0 hlt
  obtain ⟨ps0, r0⟩ := r0
  refine (walk ps0 v0 W r0).mono fun e W' hg => ?_
  obtain ⟨he, hb⟩ := hg
  subst he
  exact ⟨_, rfl, _, _, _, [], p, [], hW', trodAll_mk1 (shut_bool Try.underlying4 _), trodAll_mk1 (kept_arg (by kernel_rfl) (of_decide_eq_true (by kernel_rfl)) h0 hb hlt), rfl, hb.frame _, fun h => by cases h⟩

theorem holds : Rows.FnExactFilledOkSaid :=
  OpenClaim.holds_of_wide 12 Try.f12 rfl rfl rfl rfl rfl rfl rfl ⟨rfl, rfl, rfl, rfl, rfl⟩ rfl rfl rfl rfl rfl (by kernel_rfl) Try.func12 (by kernel_rfl)
    (of_decide_eq_true (by kernel_rfl)) (by unfold Func.isWrapper; first | (rw [if_pos (by decide +kernel)]; kernel_rfl) | (rw [if_neg (by decide +kernel)]; exact ⟨rfl, rfl⟩))
    (fun os started H enc _ => lifted os started H enc)
end Go.Proofs.Ytebgcmnajkophaa.exFilledOk
