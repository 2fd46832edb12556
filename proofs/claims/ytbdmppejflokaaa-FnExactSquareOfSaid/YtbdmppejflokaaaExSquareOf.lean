/-
  Proved: the exact law of SquareOf (FnExactSquareOf) returns true for every input. No conditions.
-/
import Derived.Test.YtbdmppejflokaaaSieveS
import Derived.Test.YtbdmppejflokaaaSieveI
import Derived.Test.YtbdmppejflokaaaMark
import Derived.Test.YtbdmppejflokaaaOpen
namespace Go.Proofs.Ytbdmppejflokaaa.exSquareOf
open Go.ChangeShapes Go.WideShapes Go.ChangeAt Go.RowKit

set_option maxRecDepth 100000 in
set_option maxHeartbeats 1600000 in
theorem walk (s : Int) (w : World) : Calls Try.prog 8 #[.int .i64 s] w (Gives (.bool true) w) := by
  have hT : (squareR s).length ≤ 60 := (picB_pic (picB_square s)).1
  go_enter Try.func8, Try.ntmps8
  go_wp2_with fail
  refine (specSquare_any s _).mono ?_
  rintro e w1 ⟨vw, rfl, ow, b1⟩
  have hb4 := b1.size
  go_wp2_with fail
  refine (implSquare_any s _).mono ?_
  rintro e w2 ⟨vg, rfl, og9, b2⟩
  have newg := Owns.ne ow og9 (Nat.le_refl _)
  have ow9 := ow.below b2
  have bb9 := below_step b1 b2
  clear ow b1 b2
  go_wp2_with fail
  refine (gives_is (show decide (squareR s = squareR s) = true by simp) (eqSpotS_any _ _ _ _ _ og9.reads ow9.reads)).mono ?_
  rintro e w10 ⟨rfl, b10⟩
  have ow10 := ow9.below b10
  have og10 := og9.below b10
  have bb10 := below_step bb9 b10
  clear b10 ow9 og9 bb9
  go_wp2_with fail
  refine (mark_any (squareR s) _ _ 1 _ og10 (by omega) (by omega) (by omega)).mono ?_
  rintro e w11 ⟨rfl, og11, g11⟩
  have bb11 := bb10.grown g11 bb10.size (fun k hk => Nat.le_trans hb4 (og10.lt k hk).1)
  have ow11 := ow10.grown g11 newg
  clear bb10 ow10 og10 g11
  go_wp2_with fail
  refine (held_any _ _ 1 _ og11.reads (by omega) (by omega) (by omega)).mono ?_
  rintro e w12 ⟨rfl, b12⟩
  have ow12 := ow11.below b12
  have og12 := og11.below b12
  have bb := below_step bb11 b12
  clear b12 ow11 og11 bb11
  go_wp2_with fail
  refine (implSquare_any s _).mono ?_
  rintro e x3 ⟨vh, rfl, oh, bh⟩
  have ow15 := ow12.below bh
  have og15 := og12.below bh
  have bb15 := below_step bb bh
  clear bh ow12 og12 bb
  go_wp2_with fail
  refine (gives_is (show decide (squareR s = squareR s) = true by simp) (eqSpotS_any _ _ _ _ _ oh.reads ow15.reads)).mono ?_
  rintro e w16 ⟨rfl, b16⟩
  have og16 := og15.below b16
  have bb16 := below_step bb15 b16
  clear b16 ow15 og15 bb15 oh
  go_wp2_with fail
  refine (held_any _ _ 1 _ og16.reads (by omega) (by omega) (by omega)).mono ?_
  rintro e w17 ⟨rfl, b17⟩
  have bb17 := below_step bb16 b17
  go_wp2
  go_ret
  first | exact ⟨rfl, bb17⟩ | exact ⟨rfl, below_step b0 bb17⟩

set_option maxRecDepth 100000 in
theorem lifted (os : Os) (started : os.Started) (H : Type) (enc : TypeId × Value → H) :
    ReturnsInHanded {} Try.checked os 8 .any (Rows.fnExactSquareOfSpec.pre6 enc Try.prog Try.f8 Rows.fnExactSquareOfRow.domain false) (Rows.fnExactSquareOfSpec.post enc Try.prog Try.f8 false true false false) := by
  refine returnsInHanded_of_change (C := Try.checked) own started (by kernel_rfl) Try.func8
    (ChangeSpec.witness6 (enc := enc) (C := Try.checked) false ⟨#[], #[.int .i64 0], []⟩ 8 (by kernel_rfl) (by kernel_rfl) (by kernel_rfl) (by kernel_rfl)) ?_
  intro W base args ds gs before hval0 hW _ _
  have hval : ∀ (j : Nat) t v, Try.f8.params[j]? = some t → args[j]? = some v → Value.okWide Try.prog W .any base t v := hval0
  have hW' := hW
  obtain ⟨p, q, hA0, hV, rfl, _, _⟩ := hW
  have hA : DataW.TrodAll enc Try.prog W 0 (fun _ => true) true Try.f8.params.toList args.toList ds p := hA0
  rw [Try.params8] at hA hval
  obtain ⟨v0, d0, rfl, rfl, h0⟩ := trodAll_one hA
  obtain ⟨rfl, rfl⟩ := trodVars_none hV
  clear hA0 hval0
  simp only [List.append_nil] at hW'
  have hlt : ∀ x ∈ p, x.block < W.heap.size := fun x hx => by simpa using hW'.lt x hx
  obtain ⟨x0, rfl, _, _, _⟩ := open_int Try.underlying3 (hval 0 3 v0 rfl rfl) h0
  refine (walk x0 W).mono fun e W' hg => ?_
  obtain ⟨he, hb⟩ := hg
  subst he
  exact ⟨_, rfl, _, _, _, [], p, [], hW', trodAll_mk1 (shut_bool Try.underlying4 _), trodAll_mk1 (kept_arg (by kernel_rfl) (of_decide_eq_true (by kernel_rfl)) h0 hb hlt), rfl, hb.frame _, fun h => by cases h⟩

theorem holds : Rows.FnExactSquareOfSaid :=
  OpenClaim.holds_of_wide 8 Try.f8 rfl rfl rfl rfl rfl rfl rfl ⟨rfl, rfl, rfl, rfl, rfl⟩ rfl rfl rfl rfl rfl (by kernel_rfl) Try.func8 (by kernel_rfl)
    (of_decide_eq_true (by kernel_rfl)) (by unfold Func.isWrapper; first | (rw [if_pos (by decide +kernel)]; kernel_rfl) | (rw [if_neg (by decide +kernel)]; exact ⟨rfl, rfl⟩))
    (fun os started H enc _ => lifted os started H enc)
end Go.Proofs.Ytbdmppejflokaaa.exSquareOf
