/-
  Proved: the law of OverOf (FnOverOf) returns true for every code, and the code reads afterwards as it read before. No conditions.
-/
import Derived.Test.YtebgcmnajkophaaDraws9
import Derived.Test.YtebgcmnajkophaaFilledQ
import Derived.Test.YtebgcmnajkophaaOpen
namespace Go.Proofs.Ytebgcmnajkophaa.fnOverOf
open Go.ChangeShapes Go.WideShapes Go.ChangeAt Go.RowKit

set_option maxRecDepth 100000 in
set_option maxHeartbeats 1600000 in
theorem walk (A : Option Addr) (n c : Nat) (w : World) (hb : Bytes w w.heap.size A n) (hn : n ≤ c) (hc : c ≤ 9223372036854775807) :
    Calls Try.prog 3 #[.slice A n c] w (Gives (.bool true) w) := by
  by_cases hbig : 1048576 < n
  · go_enter Try.func3, Try.ntmps3
    go_wp2
    go_ret
    exact ⟨rfl, Below.refl _ _⟩
  · go_enter Try.func3, Try.ntmps3
    go_wp2_with fail
    refine (drawOverOf_any A n c _ hb hn hc).mono ?_
    rintro e w1 ⟨v, ps, rfl, op, hpl, bb⟩
    obtain ⟨Ap, cp, rfl, _, _⟩ := op.reads.slice
    clear hb hn hc
    obtain ⟨q, hq⟩ : ∃ q, overR ps = q := ⟨_, rfl⟩
    have HQ := Lib.hid hq
    clear hq
    go_wp2_with fail
    refine (over_lit HQ.out op.reads).mono ?_
    rintro e w2 ⟨v2, rfl, o2, bn⟩
    have bb := below_step bb bn
    have op := op.below bn
    obtain ⟨A2, c2, rfl, hc2, hm2⟩ := o2.reads.slice
    unfold maxLen at hm2
    go_wp2_with fail
    refine (overS_lit HQ.out op.reads).mono ?_
    rintro e w3 ⟨v3, rfl, o3, bn⟩
    have bb := below_step bb bn
    have op := op.below bn
    have o2 := o2.below bn
    go_wp2_with fail
    refine (same_lit o2.reads o3.reads).mono ?_
    rintro e w4 ⟨rfl, bn⟩
    have bb := below_step bb bn
    have op := op.below bn
    have o2 := o2.below bn
    clear o3 bn
    rcases hp : picB ps with _ | _
    · have h0 : ((q.length : Int) == 0) = true := by rw [← HQ.out, overR_no hp]; rfl
      go_wp2_with fail
      refine (gives_is hp (specPicture_any ps _ _ op.reads)).mono ?_
      rintro e w5 ⟨rfl, bn⟩
      have bb := below_step bb bn
      go_wp2_with fail
      refine (alive_any _).mono ?_
      rintro e w6 ⟨rfl, bn⟩
      go_wp2
      go_ret
      exact ⟨rfl, below_step bb bn⟩
    · have hqo : q = overL ps := by rw [← HQ.out, overR_yes hp]
      have hqp : picB q = true := by rw [hqo]; exact pic_overL hp
      have hlb : ((q.length : Int) == (ps.length : Int)) = true := by rw [hqo, length_overL (picB_pic hp).2.2]; exact beq_self_eq_true _
      have HB := Lib.hid (show overR q = ps by rw [overR_yes hqp, hqo, overL_overL (picB_pic hp).2.2])
      clear hqo
      go_wp2_with fail
      refine (gives_is hp (specPicture_any ps _ _ op.reads)).mono ?_
      rintro e w5 ⟨rfl, bn⟩
      have bb := below_step bb bn
      have op := op.below bn
      have o2 := o2.below bn
      go_wp2_with fail
      refine (gives_is hqp (implPicture_any q _ _ o2.reads)).mono ?_
      rintro e w6 ⟨rfl, bn⟩
      have bb := below_step bb bn
      have op := op.below bn
      have o2 := o2.below bn
      clear hp hqp
      go_wp2_with fail
      refine (over_lit HB.out o2.reads).mono ?_
      rintro e w7 ⟨v7, rfl, o7, bn⟩
      have bb := below_step bb bn
      have op := op.below bn
      go_wp2_with fail
      refine (same_lit o7.reads op.reads).mono ?_
      rintro e w8 ⟨rfl, bn⟩
      have bb := below_step bb bn
      go_wp2_with fail
      refine (alive_any _).mono ?_
      rintro e w9 ⟨rfl, bn⟩
      go_wp2
      go_ret
      exact ⟨rfl, below_step bb bn⟩

set_option maxRecDepth 100000 in
theorem lifted (os : Os) (started : os.Started) (H : Type) (enc : TypeId × Value → H) :
    ReturnsInHanded {} Try.checked os 3 .any (Rows.fnOverOfSpec.pre6 enc Try.prog Try.f3 Rows.fnOverOfRow.domain false) (Rows.fnOverOfSpec.post enc Try.prog Try.f3 false true false false) := by
  refine returnsInHanded_of_change (C := Try.checked) own started (by kernel_rfl) Try.func3
    (ChangeSpec.witness6 (enc := enc) (C := Try.checked) false ⟨#[], #[.slice none 0 0], []⟩ 8 (by kernel_rfl) (by kernel_rfl) (by kernel_rfl) (by kernel_rfl)) ?_
  intro W base args ds gs before hval0 hW _ _
  have hval : ∀ (j : Nat) t v, Try.f3.params[j]? = some t → args[j]? = some v → Value.okWide Try.prog W .any base t v := hval0
  have hW' := hW
  obtain ⟨p, q, hA0, hV, rfl, _, _⟩ := hW
  have hA : DataW.TrodAll enc Try.prog W 0 (fun _ => true) true Try.f3.params.toList args.toList ds p := hA0
  rw [Try.params3] at hA hval
  obtain ⟨v0, d0, rfl, rfl, h0⟩ := trodAll_one hA
  obtain ⟨rfl, rfl⟩ := trodVars_none hV
  clear hA0 hval0
  simp only [List.append_nil] at hW'
  have hlt : ∀ x ∈ p, x.block < W.heap.size := fun x hx => by simpa using hW'.lt x hx
  have r0 := open_bytes (hval 0 22 v0 rfl rfl) h0 hlt
  obtain ⟨⟨bA, bn, bc⟩, rfl, rb, rn, rc⟩ := r0
  simp only at rb rn rc
  refine (walk bA bn bc W rb rn rc).mono fun e W' hg => ?_
  obtain ⟨he, hb⟩ := hg
  subst he
  exact ⟨_, rfl, _, _, _, [], p, [], hW', trodAll_mk1 (shut_bool Try.underlying4 _), trodAll_mk1 (kept_arg (by kernel_rfl) (of_decide_eq_true (by kernel_rfl)) h0 hb hlt), rfl, hb.frame _, fun h => by cases h⟩

theorem holds : Rows.FnOverOfSaid :=
  OpenClaim.holds_of_wide 3 Try.f3 rfl rfl rfl rfl rfl rfl rfl ⟨rfl, rfl, rfl, rfl, rfl⟩ rfl rfl rfl rfl rfl (by kernel_rfl) Try.func3 (by kernel_rfl)
    (of_decide_eq_true (by kernel_rfl)) (by unfold Func.isWrapper; first | (rw [if_pos (by decide +kernel)]; kernel_rfl) | (rw [if_neg (by decide +kernel)]; exact ⟨rfl, rfl⟩))
    (fun os started H enc _ => lifted os started H enc)
end Go.Proofs.Ytebgcmnajkophaa.fnOverOf
