/-
  Proved: the exact law of BallOf (FnExactBallOf) returns true for every input. No conditions.
-/
import Derived.Test.YtpdpfjebikdgjaaBallT
import Derived.Test.YtpdpfjebikdgjaaBallI
import Derived.Test.YtpdpfjebikdgjaaMark
import Derived.Test.YtpdpfjebikdgjaaOpen
namespace Go.Proofs.Ytpdpfjebikdgjaa.exBallOf
open Go.ChangeShapes Go.WideShapes Go.ChangeAt Go.RowKit

set_option maxHeartbeats 800000 in
theorem walk (r way : Int) (w : World) : Calls Try.prog 9 #[.int .i64 r, .int .i64 way] w (Gives (.bool true) w) := by
  have hT := ball_len r way
  go_enter Try.func9, Try.ntmps9
  go_wp2_with fail
  refine (specBall_any r way _).mono ?_
  rintro e w1 ⟨vw, rfl, ow, b1⟩
  have hb4 := b1.size
  go_wp2_with fail
  refine (implBall_any r way _).mono ?_
  rintro e w2 ⟨vg, rfl, og9, b2⟩
  have newg := Owns.ne ow og9 (Nat.le_refl _)
  have ow9 := ow.below b2
  have bb9 := below_step b1 b2
  clear ow b1 b2
  go_wp2_with fail
  refine (gives_is (show decide (ballL r way = ballL r way) = true by simp) (eqSpotS_any _ _ _ _ _ og9.reads ow9.reads)).mono ?_
  rintro e w10 ⟨rfl, b10⟩
  have ow10 := ow9.below b10
  have og10 := og9.below b10
  have bb10 := below_step bb9 b10
  clear b10 ow9 og9 bb9
  go_wp2_with fail
  refine (mark_any (ballL r way) _ _ 1 _ og10 (by omega) (by omega) (by omega)).mono ?_
  rintro e w11 ⟨rfl, og11, g11⟩
  have bb11 := bb10.grown g11 bb10.size (fun k hk => Nat.le_trans hb4 (og10.lt k hk).1)
  have ow11 := ow10.grown g11 newg
  clear bb10 ow10 og10 g11
  go_wp2_with fail
  refine (held_any _ _ 1 _ og11.reads (by omega) (by omega) (by omega)).mono ?_
  rintro e w12 ⟨rfl, b12⟩
  have ow12 := ow11.below b12
  have og12 := og11.below b12
  have bb := below_step bb11 b12
  clear b12 ow11 og11 bb11
  go_wp2_with fail
  refine (implBall_any r way _).mono ?_
  rintro e x3 ⟨vh, rfl, oh, bh⟩
  have ow15 := ow12.below bh
  have og15 := og12.below bh
  have bb15 := below_step bb bh
  clear bh ow12 og12 bb
  go_wp2_with fail
  refine (gives_is (show decide (ballL r way = ballL r way) = true by simp) (eqSpotS_any _ _ _ _ _ oh.reads ow15.reads)).mono ?_
  rintro e w16 ⟨rfl, b16⟩
  have og16 := og15.below b16
  have bb16 := below_step bb15 b16
  clear b16 ow15 og15 bb15 oh
  go_wp2_with fail
  refine (held_any _ _ 1 _ og16.reads (by omega) (by omega) (by omega)).mono ?_
  rintro e w17 ⟨rfl, b17⟩
  have bb17 := below_step bb16 b17
  go_wp2
  go_ret
  exact ⟨rfl, bb17⟩

set_option maxRecDepth 100000 in
theorem lifted (os : Os) (started : os.Started) (H : Type) (enc : TypeId × Value → H) :
    ReturnsInHanded {} Try.checked os 9 .any (Rows.fnExactBallOfSpec.pre6 enc Try.prog Try.f9 Rows.fnExactBallOfRow.domain false) (Rows.fnExactBallOfSpec.post enc Try.prog Try.f9 false true false false) := by
  refine returnsInHanded_of_change (C := Try.checked) own started (by kernel_rfl) Try.func9
    (ChangeSpec.witness6 (enc := enc) (C := Try.checked) false ⟨#[], #[.int .i64 0, .int .i64 0], []⟩ 8 (by kernel_rfl) (by kernel_rfl) (by kernel_rfl) (by kernel_rfl)) ?_
  intro W base args ds gs before hval0 hW _ _
  have hval : ∀ (j : Nat) t v, Try.f9.params[j]? = some t → args[j]? = some v → Value.okWide Try.prog W .any base t v := hval0
  have hW' := hW
  obtain ⟨p, q, hA0, hV, rfl, _, _⟩ := hW
  have hA : DataW.TrodAll enc Try.prog W 0 (fun _ => true) true Try.f9.params.toList args.toList ds p := hA0
  rw [Try.params9] at hA hval
  obtain ⟨v0, v1, d0, d1, p0, p1, rfl, rfl, rfl, h0, h1⟩ := trodAll_two hA
  obtain ⟨rfl, rfl⟩ := trodVars_none hV
  clear hA0 hval0
  simp only [List.append_nil] at hW'
  have hlt : ∀ x ∈ p0 ++ p1, x.block < W.heap.size := fun x hx => by simpa using hW'.lt x hx
  have hlt0 : ∀ x ∈ p0, x.block < W.heap.size := fun x hx => hlt x (List.mem_append_left _ hx)
  have hlt1 : ∀ x ∈ p1, x.block < W.heap.size := fun x hx => hlt x (List.mem_append_right _ hx)
  obtain ⟨x0, rfl, _, _, _⟩ := open_int Try.underlying3 (hval 0 3 v0 rfl rfl) h0
  obtain ⟨x1, rfl, _, _, _⟩ := open_int Try.underlying3 (hval 1 3 v1 rfl rfl) h1
  refine (walk x0 x1 W).mono fun e W' hg => ?_
  obtain ⟨he, hb⟩ := hg
  subst he
  exact ⟨_, rfl, _, _, _, [], p0 ++ p1, [], hW', trodAll_mk1 (shut_bool Try.underlying4 _), trodAll_mk2 (kept_arg (by kernel_rfl) (of_decide_eq_true (by kernel_rfl)) h0 hb hlt0) (kept_arg (by kernel_rfl) (of_decide_eq_true (by kernel_rfl)) h1 hb hlt1), rfl, hb.frame _, fun h => by cases h⟩

theorem holds : Rows.FnExactBallOfSaid :=
  OpenClaim.holds_of_wide 9 Try.f9 rfl rfl rfl rfl rfl rfl rfl ⟨rfl, rfl, rfl, rfl, rfl⟩ rfl rfl rfl rfl rfl (by kernel_rfl) Try.func9 (by kernel_rfl)
    (of_decide_eq_true (by kernel_rfl)) (by unfold Func.isWrapper; first | (rw [if_pos (by decide +kernel)]; kernel_rfl) | (rw [if_neg (by decide +kernel)]; exact ⟨rfl, rfl⟩))
    (fun os started H enc _ => lifted os started H enc)
end Go.Proofs.Ytpdpfjebikdgjaa.exBallOf
