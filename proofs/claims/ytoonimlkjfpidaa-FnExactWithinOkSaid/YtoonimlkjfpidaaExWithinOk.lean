/-
  Proved: the exact law of WithinOk (FnExactWithinOk) returns true for every input, and its arguments read afterwards as they read before. No conditions.
-/
import Derived.Test.YtoonimlkjfpidaaCommonS
import Derived.Test.YtoonimlkjfpidaaMark
import Derived.Test.YtoonimlkjfpidaaOpen
namespace Go.Proofs.Ytoonimlkjfpidaa.exWithinOk
open Go.ChangeShapes Go.WideShapes Go.ChangeAt Go.RowKit

set_option maxHeartbeats 1600000 in
theorem walk (p q : List Sp) (v v' : Value) (w : World) (h : Reads w w.heap.size v p) (h' : Reads w w.heap.size v' q) : Calls Try.prog 14 #[v, v'] w (Gives (.bool true) w) := by
  obtain ⟨A, c, rfl, hc, hm⟩ := h.slice
  obtain ⟨A', c', rfl, hc', hm'⟩ := h'.slice
  unfold maxLen at hm hm'
  by_cases hl : 1048576 < p.length
  · go_enter Try.func14, Try.ntmps14
    go_wp2_with fail
    refine (szSpotS_yes p.length c A 1048576 _ (by omega) (by omega) (by omega) (by omega)).mono ?_
    rintro e w1 ⟨rfl, b1⟩
    go_wp2
    go_ret
    exact ⟨rfl, b1⟩
  by_cases hl' : 1048576 - (p.length : Int) < q.length
  · go_enter Try.func14, Try.ntmps14
    go_wp2_with fail
    refine (szSpotS_no p.length c A 1048576 _ (by omega) (by omega) (by omega) (by omega)).mono ?_
    rintro e w1 ⟨rfl, b1⟩
    go_wp2_with fail
    refine (szSpotS_yes q.length c' A' (1048576 - (p.length : Int)) _ (by omega) (by omega) (by omega) (by omega)).mono ?_
    rintro e w2 ⟨rfl, b2⟩
    go_wp2
    go_ret
    exact ⟨rfl, below_step b1 b2⟩
  all_goals
    go_enter Try.func14, Try.ntmps14
    go_wp2_with fail
    refine (szSpotS_no p.length c A 1048576 _ (by omega) (by omega) (by omega) (by omega)).mono ?_
    rintro e w1 ⟨rfl, b1⟩
    go_wp2_with fail
    refine (szSpotS_no q.length c' A' (1048576 - (p.length : Int)) _ (by omega) (by omega) (by omega) (by omega)).mono ?_
    rintro e w2 ⟨rfl, b2⟩
    have bb := below_step b1 b2
    clear b1 b2
    go_wp2_with fail
    refine (toSpotS_any p _ _ ((h.below bb).more bb.size) (by omega)).mono ?_
    rintro e w3 ⟨v3, rfl, o3, bn⟩
    have bb := below_step bb bn
    have bo := bn
    clear bn
    go_wp2_with fail
    refine (toSpotS_any q _ _ ((h'.below bb).more bb.size) (by omega)).mono ?_
    rintro e w4 ⟨v4, rfl, o4, bn⟩
    have bb := below_step bb bn
    have bo := below_step bo bn
    have o3 := o3.below bn
    clear bn bo
    rcases hu : withinB p q with _ | _
    all_goals
      go_wp2_with fail
      refine (gives_is hu (specWithin_any p q _ _ _ o3.reads o4.reads)).mono ?_
      rintro e w5 ⟨rfl, b5⟩
      have bb5 := below_step bb b5
      clear b5
      go_wp2_with fail
      refine (toSpotS_any p _ _ ((h.below bb5).more bb5.size) (by omega)).mono ?_
      rintro e w6 ⟨vx, rfl, ox, b6⟩
      have bb6 := below_step bb5 b6
      go_wp2_with fail
      refine (toSpotS_any q _ _ ((h'.below bb6).more bb6.size) (by omega)).mono ?_
      rintro e w7 ⟨vy, rfl, oy, b7⟩
      have bb7 := below_step bb6 b7
      have ox7 := ox.below b7
      go_wp2_with fail
      refine (gives_is hu (implWithin_any p q _ _ _ ox7.reads oy.reads)).mono ?_
      rintro e w8 ⟨rfl, b8⟩
      have bb8 := below_step bb7 b8
      have ox8 := ox7.below b8
      have oy8 := oy.below b8
      clear hu
      go_wp2_with fail
      refine (toSpotS_any p _ _ ((h.below bb8).more bb8.size) (by omega)).mono ?_
      rintro e w9 ⟨v9, rfl, o9, b9⟩
      have bb9 := below_step bb8 b9
      have ox9 := ox8.below b9
      have oy9 := oy8.below b9
      go_wp2_with fail
      refine (gives_is (show decide (p = p) = true by simp) (eqSpotS_any _ _ _ _ _ ox9.reads o9.reads)).mono ?_
      rintro e w10 ⟨rfl, b10⟩
      have bb10 := below_step bb9 b10
      have oy10 := oy9.below b10
      go_wp2_with fail
      refine (toSpotS_any q _ _ ((h'.below bb10).more bb10.size) (by omega)).mono ?_
      rintro e w11 ⟨v11, rfl, o11, b11⟩
      have bb11 := below_step bb10 b11
      have oy11 := oy10.below b11
      go_wp2_with fail
      refine (gives_is (show decide (q = q) = true by simp) (eqSpotS_any _ _ _ _ _ oy11.reads o11.reads)).mono ?_
      rintro e w12 ⟨rfl, b12⟩
      go_wp2
      go_ret
      exact ⟨rfl, below_step bb11 b12⟩

set_option maxRecDepth 100000 in
theorem lifted (os : Os) (started : os.Started) (H : Type) (enc : TypeId × Value → H) :
    ReturnsInHanded {} Try.checked os 14 .any (Rows.fnExactWithinOkSpec.pre6 enc Try.prog Try.f14 Rows.fnExactWithinOkRow.domain false) (Rows.fnExactWithinOkSpec.post enc Try.prog Try.f14 false true false false) := by
  refine returnsInHanded_of_change (C := Try.checked) own started (by kernel_rfl) Try.func14
    (ChangeSpec.witness6 (enc := enc) (C := Try.checked) false ⟨#[], #[.slice none 0 0, .slice none 0 0], []⟩ 8 (by kernel_rfl) (by kernel_rfl) (by kernel_rfl) (by kernel_rfl)) ?_
  intro W base args ds gs before hval0 hW _ _
  have hval : ∀ (j : Nat) t v, Try.f14.params[j]? = some t → args[j]? = some v → Value.okWide Try.prog W .any base t v := hval0
  have hW' := hW
  obtain ⟨p, q, hA0, hV, rfl, _, _⟩ := hW
  have hA : DataW.TrodAll enc Try.prog W 0 (fun _ => true) true Try.f14.params.toList args.toList ds p := hA0
  rw [Try.params14] at hA hval
  obtain ⟨v0, v1, d0, d1, p0, p1, rfl, rfl, rfl, h0, h1⟩ := trodAll_two hA
  obtain ⟨rfl, rfl⟩ := trodVars_none hV
  clear hA0 hval0
  simp only [List.append_nil] at hW'
  have hlt : ∀ x ∈ p0 ++ p1, x.block < W.heap.size := fun x hx => by simpa using hW'.lt x hx
  have hlt0 : ∀ x ∈ p0, x.block < W.heap.size := fun x hx => hlt x (List.mem_append_left _ hx)
  have hlt1 : ∀ x ∈ p1, x.block < W.heap.size := fun x hx => hlt x (List.mem_append_right _ hx)
  obtain ⟨ps0, r0⟩ := open_lspots (hval 0 41 v0 rfl rfl) h0 hlt0
  obtain ⟨ps1, r1⟩ := open_lspots (hval 1 41 v1 rfl rfl) h1 hlt1
  refine (walk ps0 ps1 v0 v1 W r0 r1).mono fun e W' hg => ?_
  obtain ⟨he, hb⟩ := hg
  subst he
  exact ⟨_, rfl, _, _, _, [], p0 ++ p1, [], hW', trodAll_mk1 (shut_bool Try.underlying4 _), trodAll_mk2 (kept_arg (by kernel_rfl) (of_decide_eq_true (by kernel_rfl)) h0 hb hlt0) (kept_arg (by kernel_rfl) (of_decide_eq_true (by kernel_rfl)) h1 hb hlt1), rfl, hb.frame _, fun h => by cases h⟩

theorem holds : Rows.FnExactWithinOkSaid :=
  OpenClaim.holds_of_wide 14 Try.f14 rfl rfl rfl rfl rfl rfl rfl ⟨rfl, rfl, rfl, rfl, rfl⟩ rfl rfl rfl rfl rfl (by kernel_rfl) Try.func14 (by kernel_rfl)
    (of_decide_eq_true (by kernel_rfl)) (by unfold Func.isWrapper; first | (rw [if_pos (by decide +kernel)]; kernel_rfl) | (rw [if_neg (by decide +kernel)]; exact ⟨rfl, rfl⟩))
    (fun os started H enc _ => lifted os started H enc)
end Go.Proofs.Ytoonimlkjfpidaa.exWithinOk
