/-
  Proved: the law of TurnedOf (FnTurnedOf) returns true for every code, and the code reads afterwards as it read before. No conditions.
-/
import Derived.Test.YtoonimlkjfpidaaDraws1
import Derived.Test.YtoonimlkjfpidaaPics3
import Derived.Test.YtoonimlkjfpidaaOpen
namespace Go.Proofs.Ytoonimlkjfpidaa.fnTurnedOf
open Go.ChangeShapes Go.WideShapes Go.ChangeAt Go.RowKit

set_option maxHeartbeats 1600000 in
theorem walk (A : Option Addr) (n c : Nat) (w : World) (hb : Bytes w w.heap.size A n) (hn : n ≤ c) (hc : c ≤ 9223372036854775807) :
    Calls Try.prog 9 #[.slice A n c] w (Gives (.bool true) w) := by
  by_cases hbig : 1048576 < n
  · go_enter Try.func9, Try.ntmps9
    go_wp2
    go_ret
    exact ⟨rfl, Below.refl _ _⟩
  · go_enter Try.func9, Try.ntmps9
    go_wp2_with fail
    refine (drawTurnedOf_any A n c _ hb hn hc).mono ?_
    rintro e w1 ⟨v, ps, rfl, D⟩
    have b1 := D.below
    have op := D.own
    have hl := D.len
    go_wp2_with fail
    refine (implTurned_any ps _ _ op.reads).mono ?_
    rintro e w2 ⟨vq, rfl, oq, b2⟩
    have bb2 := below_step b1 b2
    have op2 := op.below b2
    go_wp2_with fail
    refine (specTurned_any ps _ _ op2.reads (by omega)).mono ?_
    rintro e w3 ⟨vs, rfl, os, b3⟩
    have bb3 := below_step bb2 b3
    have op3 := op2.below b3
    have oq3 := oq.below b3
    go_wp2_with fail
    refine (gives_is (show decide (turnedP ps = turnedP ps) = true by simp) (sameSpots_any _ _ _ _ _ oq3.reads os.reads)).mono ?_
    rintro e w4 ⟨rfl, b4⟩
    have bb4 := below_step bb3 b4
    have op4 := op3.below b4
    have oq4 := oq3.below b4
    clear op op2 op3 oq oq3 os D b1 b2 b3 b4 bb2 bb3
    rcases hp : picB ps with _ | _
    · have hnil := turnedP_no hp
      rw [hnil] at oq4
      obtain ⟨A4, c4, rfl, _, _⟩ := oq4.reads.slice
      go_wp2_with fail
      refine (gives_is hp (specPicture_any ps _ _ op4.reads)).mono ?_
      rintro e w5 ⟨rfl, b5⟩
      clear hp hnil
      go_wp2_with fail
      refine (alive_any _).mono ?_
      rintro e w6 ⟨rfl, b6⟩
      go_wp2
      go_ret
      exact ⟨rfl, below_step (below_step bb4 b5) b6⟩
    · have hpic := picB_pic hp
      have hT := turnedP_pic hpic
      rw [hT] at oq4
      have hpt := pic_turned hpic
      go_wp2_with fail
      refine (gives_is hp (specPicture_any ps _ _ op4.reads)).mono ?_
      rintro e w5 ⟨rfl, b5⟩
      have bb5 := below_step bb4 b5
      have op5 := op4.below b5
      have oq5 := oq4.below b5
      go_wp2_with fail
      refine (implCommon_any ps (turned ps) _ _ _ op5.reads oq5.reads).mono ?_
      rintro e w6 ⟨vc, rfl, oc, b6⟩
      have bb6 := below_step bb5 b6
      have op6 := op5.below b6
      have oq6 := oq5.below b6
      rw [common_yes (bothB_y hp (picB_t hpt))] at oc
      have hcp := pic_common (q := turned ps) hpic
      go_wp2_with fail
      refine (gives_is (picB_t hpt) (implPicture_any _ _ _ oq6.reads)).mono ?_
      rintro e w7 ⟨rfl, b7⟩
      have bb7 := below_step bb6 b7
      have op7 := op6.below b7
      have oq7 := oq6.below b7
      have oc7 := oc.below b7
      go_wp2_with fail
      refine (implTurned_any _ _ _ oq7.reads).mono ?_
      rintro e w8 ⟨vt, rfl, ot, b8⟩
      have bb8 := below_step bb7 b8
      have op8 := op7.below b8
      have oc8 := oc7.below b8
      rw [turnedP_pic hpt, turned_turned] at ot
      go_wp2_with fail
      refine (gives_is (show decide (ps = ps) = true by simp) (sameSpots_any _ _ _ _ _ ot.reads op8.reads)).mono ?_
      rintro e w9 ⟨rfl, b9⟩
      have bb9 := below_step bb8 b9
      have oc9 := oc8.below b9
      go_wp2_with fail
      refine (implTurned_any _ _ _ oc9.reads).mono ?_
      rintro e w10 ⟨vu, rfl, ou, b10⟩
      have bb10 := below_step bb9 b10
      have oc10 := oc9.below b10
      rw [turnedP_pic hcp, turned_common hpic.2.2] at ou
      go_wp2_with fail
      refine (gives_is (show decide (common ps (turned ps) = common ps (turned ps)) = true by simp) (sameSpots_any _ _ _ _ _ ou.reads oc10.reads)).mono ?_
      rintro e w11 ⟨rfl, b11⟩
      go_wp2_with fail
      refine (alive_any _).mono ?_
      rintro e w12 ⟨rfl, b12⟩
      go_wp2
      go_ret
      exact ⟨rfl, below_step (below_step bb10 b11) b12⟩
set_option maxRecDepth 100000 in
theorem lifted (os : Os) (started : os.Started) (H : Type) (enc : TypeId × Value → H) :
    ReturnsInHanded {} Try.checked os 9 .any (Rows.fnTurnedOfSpec.pre6 enc Try.prog Try.f9 Rows.fnTurnedOfRow.domain false) (Rows.fnTurnedOfSpec.post enc Try.prog Try.f9 false true false false) := by
  refine returnsInHanded_of_change (C := Try.checked) own started (by kernel_rfl) Try.func9
    (ChangeSpec.witness6 (enc := enc) (C := Try.checked) false ⟨#[], #[.slice none 0 0], []⟩ 8 (by kernel_rfl) (by kernel_rfl) (by kernel_rfl) (by kernel_rfl)) ?_
  intro W base args ds gs before hval0 hW _ _
  have hval : ∀ (j : Nat) t v, Try.f9.params[j]? = some t → args[j]? = some v → Value.okWide Try.prog W .any base t v := hval0
  have hW' := hW
  obtain ⟨p, q, hA0, hV, rfl, _, _⟩ := hW
  have hA : DataW.TrodAll enc Try.prog W 0 (fun _ => true) true Try.f9.params.toList args.toList ds p := hA0
  rw [Try.params9] at hA hval
  obtain ⟨v0, d0, rfl, rfl, h0⟩ := trodAll_one hA
  obtain ⟨rfl, rfl⟩ := trodVars_none hV
  clear hA0 hval0
  simp only [List.append_nil] at hW'
  have hlt : ∀ x ∈ p, x.block < W.heap.size := fun x hx => by simpa using hW'.lt x hx
  have r0 := open_bytes (hval 0 22 v0 rfl rfl) h0 hlt
  obtain ⟨⟨bA, bn, bc⟩, rfl, rb, rn, rc⟩ := r0
  simp only at rb rn rc
  refine (walk bA bn bc W rb rn rc).mono fun e W' hg => ?_
  obtain ⟨he, hb⟩ := hg
  subst he
  exact ⟨_, rfl, _, _, _, [], p, [], hW', trodAll_mk1 (shut_bool Try.underlying4 _), trodAll_mk1 (kept_arg (by kernel_rfl) (of_decide_eq_true (by kernel_rfl)) h0 hb hlt), rfl, hb.frame _, fun h => by cases h⟩

theorem holds : Rows.FnTurnedOfSaid :=
  OpenClaim.holds_of_wide 9 Try.f9 rfl rfl rfl rfl rfl rfl rfl ⟨rfl, rfl, rfl, rfl, rfl⟩ rfl rfl rfl rfl rfl (by kernel_rfl) Try.func9 (by kernel_rfl)
    (of_decide_eq_true (by kernel_rfl)) (by unfold Func.isWrapper; first | (rw [if_pos (by decide +kernel)]; kernel_rfl) | (rw [if_neg (by decide +kernel)]; exact ⟨rfl, rfl⟩))
    (fun os started H enc _ => lifted os started H enc)
end Go.Proofs.Ytoonimlkjfpidaa.fnTurnedOf
