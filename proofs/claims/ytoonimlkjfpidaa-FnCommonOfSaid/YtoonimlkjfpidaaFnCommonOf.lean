/-
  Proved: the law of CommonOf (FnCommonOf) returns true for every code, and the code reads afterwards as it read before. No conditions.
-/
import Derived.Test.YtoonimlkjfpidaaDraws1
import Derived.Test.YtoonimlkjfpidaaPics3
import Derived.Test.YtoonimlkjfpidaaCommonS
import Derived.Test.YtoonimlkjfpidaaOpen
namespace Go.Proofs.Ytoonimlkjfpidaa.fnCommonOf
open Go.ChangeShapes Go.WideShapes Go.ChangeAt Go.RowKit

set_option maxHeartbeats 1600000 in
theorem walk (A : Option Addr) (n c : Nat) (w : World) (hb : Bytes w w.heap.size A n) (hn : n ≤ c) (hc : c ≤ 9223372036854775807) :
    Calls Try.prog 6 #[.slice A n c] w (Gives (.bool true) w) := by
  by_cases hbig : 1048576 < n
  · go_enter Try.func6, Try.ntmps6
    go_wp2
    go_ret
    exact ⟨rfl, Below.refl _ _⟩
  · go_enter Try.func6, Try.ntmps6
    go_wp2_with fail
    refine (drawCommonOf_any A n c _ hb hn hc).mono ?_
    rintro e w1 ⟨v, p, v', q, rfl, D, D'⟩
    have b1 := D.below
    have op := D.own
    have oq := D'.own
    have hl := D.len
    go_wp2_with fail
    refine (implCommon_any p q _ _ _ op.reads oq.reads).mono ?_
    rintro e w2 ⟨vc, rfl, oc, b2⟩
    have bb2 := below_step b1 b2
    have op2 := op.below b2
    have oq2 := oq.below b2
    go_wp2_with fail
    refine (specCommon_any p q _ _ _ op2.reads oq2.reads (by omega)).mono ?_
    rintro e w3 ⟨vs, rfl, os, b3⟩
    have bb3 := below_step bb2 b3
    have op3 := op2.below b3
    have oq3 := oq2.below b3
    have oc3 := oc.below b3
    go_wp2_with fail
    refine (gives_is (show decide (commonL p q = commonL p q) = true by simp) (sameSpots_any _ _ _ _ _ oc3.reads os.reads)).mono ?_
    rintro e w4 ⟨rfl, b4⟩
    have bb4 := below_step bb3 b4
    have op4 := op3.below b4
    have oq4 := oq3.below b4
    have oc4 := oc3.below b4
    clear op op2 op3 oq oq2 oq3 oc oc3 os D D' b1 b2 b3 b4 bb2 bb3
    rcases hp : picB p with _ | _
    · rw [common_no (bothB_l hp)] at oc4
      obtain ⟨A4, c4, rfl, _, _⟩ := oc4.reads.slice
      go_wp2_with fail
      refine (gives_is hp (specPicture_any p _ _ op4.reads)).mono ?_
      rintro e w5 ⟨rfl, b5⟩
      clear hp
      go_wp2_with fail
      refine (alive_any _).mono ?_
      rintro e w6 ⟨rfl, b6⟩
      go_wp2
      go_ret
      exact ⟨rfl, below_step (below_step bb4 b5) b6⟩
    · rcases hq : picB q with _ | _
      · rw [common_no (bothB_r hq)] at oc4
        obtain ⟨A4, c4, rfl, _, _⟩ := oc4.reads.slice
        go_wp2_with fail
        refine (gives_is hp (specPicture_any p _ _ op4.reads)).mono ?_
        rintro e w5 ⟨rfl, b5⟩
        have oq5 := oq4.below b5
        go_wp2_with fail
        refine (gives_is hq (specPicture_any q _ _ oq5.reads)).mono ?_
        rintro e w6 ⟨rfl, b6⟩
        clear hp hq
        go_wp2_with fail
        refine (alive_any _).mono ?_
        rintro e w7 ⟨rfl, b7⟩
        go_wp2
        go_ret
        exact ⟨rfl, below_step (below_step (below_step bb4 b5) b6) b7⟩
      · have hP := picB_pic hp
        have hQ := picB_pic hq
        rw [common_yes (bothB_y hp hq)] at oc4
        have hC := pic_common (q := q) hP
        go_wp2_with fail
        refine (gives_is hp (specPicture_any p _ _ op4.reads)).mono ?_
        rintro e w5 ⟨rfl, b5⟩
        have oq5 := oq4.below b5
        go_wp2_with fail
        refine (gives_is hq (specPicture_any q _ _ oq5.reads)).mono ?_
        rintro e w6 ⟨rfl, b6⟩
        have b46 := below_step b5 b6
        have bb6 := below_step bb4 b46
        have op6 := op4.below b46
        have oq6 := oq4.below b46
        have oc6 := oc4.below b46
        go_wp2_with fail
        refine (gives_is (within_of hC hP (fun x hx => (mem_common.1 hx).1)) (implWithin_any _ _ _ _ _ oc6.reads op6.reads)).mono ?_
        rintro e w7 ⟨rfl, b7⟩
        have oq7 := oq6.below b7
        have oc7 := oc6.below b7
        go_wp2_with fail
        refine (gives_is (within_of hC hQ (fun x hx => (mem_common.1 hx).2)) (implWithin_any _ _ _ _ _ oc7.reads oq7.reads)).mono ?_
        rintro e w8 ⟨rfl, b8⟩
        have b68 := below_step b7 b8
        have bb8 := below_step bb6 b68
        have op8 := op6.below b68
        have oq8 := oq6.below b68
        have oc8 := oc6.below b68
        go_wp2_with fail
        refine (implCommon_any q p _ _ _ oq8.reads op8.reads).mono ?_
        rintro e w9 ⟨vd, rfl, od, b9⟩
        rw [common_yes (bothB_y hq hp), common_comm hQ.2.2 hP.2.2] at od
        have bb9 := below_step bb8 b9
        have op9 := op8.below b9
        have oc9 := oc8.below b9
        go_wp2_with fail
        refine (gives_is (show decide (common p q = common p q) = true by simp) (sameSpots_any _ _ _ _ _ od.reads oc9.reads)).mono ?_
        rintro e w10 ⟨rfl, b10⟩
        have bb10 := below_step bb9 b10
        have op10 := op9.below b10
        go_wp2_with fail
        refine (implCommon_any p p _ _ _ op10.reads op10.reads).mono ?_
        rintro e w11 ⟨vf, rfl, of, b11⟩
        rw [common_yes (bothB_y hp hp), common_self (fun x hx => hx)] at of
        have bb11 := below_step bb10 b11
        have op11 := op10.below b11
        go_wp2_with fail
        refine (gives_is (show decide (p = p) = true by simp) (sameSpots_any _ _ _ _ _ of.reads op11.reads)).mono ?_
        rintro e w12 ⟨rfl, b12⟩
        go_wp2_with fail
        refine (alive_any _).mono ?_
        rintro e w13 ⟨rfl, b13⟩
        go_wp2
        go_ret
        exact ⟨rfl, below_step (below_step bb11 b12) b13⟩
set_option maxRecDepth 100000 in
theorem lifted (os : Os) (started : os.Started) (H : Type) (enc : TypeId × Value → H) :
    ReturnsInHanded {} Try.checked os 6 .any (Rows.fnCommonOfSpec.pre6 enc Try.prog Try.f6 Rows.fnCommonOfRow.domain false) (Rows.fnCommonOfSpec.post enc Try.prog Try.f6 false true false false) := by
  refine returnsInHanded_of_change (C := Try.checked) own started (by kernel_rfl) Try.func6
    (ChangeSpec.witness6 (enc := enc) (C := Try.checked) false ⟨#[], #[.slice none 0 0], []⟩ 8 (by kernel_rfl) (by kernel_rfl) (by kernel_rfl) (by kernel_rfl)) ?_
  intro W base args ds gs before hval0 hW _ _
  have hval : ∀ (j : Nat) t v, Try.f6.params[j]? = some t → args[j]? = some v → Value.okWide Try.prog W .any base t v := hval0
  have hW' := hW
  obtain ⟨p, q, hA0, hV, rfl, _, _⟩ := hW
  have hA : DataW.TrodAll enc Try.prog W 0 (fun _ => true) true Try.f6.params.toList args.toList ds p := hA0
  rw [Try.params6] at hA hval
  obtain ⟨v0, d0, rfl, rfl, h0⟩ := trodAll_one hA
  obtain ⟨rfl, rfl⟩ := trodVars_none hV
  clear hA0 hval0
  simp only [List.append_nil] at hW'
  have hlt : ∀ x ∈ p, x.block < W.heap.size := fun x hx => by simpa using hW'.lt x hx
  have r0 := open_bytes (hval 0 22 v0 rfl rfl) h0 hlt
  obtain ⟨⟨bA, bn, bc⟩, rfl, rb, rn, rc⟩ := r0
  simp only at rb rn rc
  refine (walk bA bn bc W rb rn rc).mono fun e W' hg => ?_
  obtain ⟨he, hb⟩ := hg
  subst he
  exact ⟨_, rfl, _, _, _, [], p, [], hW', trodAll_mk1 (shut_bool Try.underlying4 _), trodAll_mk1 (kept_arg (by kernel_rfl) (of_decide_eq_true (by kernel_rfl)) h0 hb hlt), rfl, hb.frame _, fun h => by cases h⟩

theorem holds : Rows.FnCommonOfSaid :=
  OpenClaim.holds_of_wide 6 Try.f6 rfl rfl rfl rfl rfl rfl rfl ⟨rfl, rfl, rfl, rfl, rfl⟩ rfl rfl rfl rfl rfl (by kernel_rfl) Try.func6 (by kernel_rfl)
    (of_decide_eq_true (by kernel_rfl)) (by unfold Func.isWrapper; first | (rw [if_pos (by decide +kernel)]; kernel_rfl) | (rw [if_neg (by decide +kernel)]; exact ⟨rfl, rfl⟩))
    (fun os started H enc _ => lifted os started H enc)
end Go.Proofs.Ytoonimlkjfpidaa.fnCommonOf
