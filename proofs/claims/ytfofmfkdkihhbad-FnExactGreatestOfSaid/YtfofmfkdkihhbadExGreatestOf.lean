/-
  Proved: the exact law of GreatestOf (FnExactGreatestOf) returns true for every input, and its arguments read afterwards as they read before. No conditions.
-/
import Derived.Test.YtfofmfkdkihhbadGreatS
import Derived.Test.YtfofmfkdkihhbadGreatI
import Derived.Test.YtfofmfkdkihhbadCopyC
import Derived.Test.YtfofmfkdkihhbadOpen
namespace Go.Proofs.Ytfofmfkdkihhbad.exGreatestOf
open Go.ChangeShapes Go.WideShapes Go.ChangeAt Go.RowKit

set_option maxRecDepth 100000 in
set_option maxHeartbeats 1600000 in
theorem walk (ps : List Sp) (v : Value) (way : Int) (w : World) (h : Reads w w.heap.size v ps) : Calls Try.prog 8 #[v, .int .i64 way] w (Gives (.bool true) w) := by
  obtain ⟨A, c, rfl, hc, hm⟩ := h.slice
  unfold maxLen at hm
  by_cases hl : 1048576 < ps.length
  · go_enter Try.func8, Try.ntmps8
    go_wp2_with fail
    refine (szSpotS_yes ps.length c A 1048576 _ (by omega) (by omega) (by omega) (by omega)).mono ?_
    rintro e w1 ⟨rfl, b1⟩
    go_wp2
    go_ret
    exact ⟨rfl, b1⟩
  · have hT := great_len ps way
    go_enter Try.func8, Try.ntmps8
    go_wp2_with fail
    refine (szSpotS_no ps.length c A 1048576 _ (by omega) (by omega) (by omega) (by omega)).mono ?_
    rintro e w1 ⟨rfl, b1⟩
    have bb := b1
    go_wp2_with fail
    refine (toSpotS_any ps _ _ ((h.below bb).more bb.size) (by omega)).mono ?_
    rintro e w2 ⟨v2, rfl, o2, bn⟩
    have bb := below_step bb bn
    clear bn b1
    go_wp2_with fail
    refine (specGreatest_any ps _ way _ o2.reads).mono ?_
    rintro e w3 ⟨vw, rfl, ow, b3⟩
    have bb := below_step bb b3
    clear o2 b3
    have hb3 := bb.size
    go_wp2_with fail
    refine (toSpotS_any ps _ _ ((h.below bb).more bb.size) (by omega)).mono ?_
    rintro e w4 ⟨vx, rfl, ox, bn⟩
    have newx := ne_of_lt ow.lt ox.lt (.inl (Nat.le_refl _))
    have ow := ow.below bn
    have bb := below_step bb bn
    have hb4 := bb.size
    clear bn
    go_wp2_with fail
    refine (implGreatest_any ps _ way _ ox.reads).mono ?_
    rintro e w5 ⟨vg, rfl, og, b5⟩
    have newg := ne_of_lt ow.lt og.lt (.inl (Nat.le_refl _))
    have negx := ne_of_lt og.lt ox.lt (.inr (Nat.le_refl _))
    have ow := ow.below b5
    have ox := ox.below b5
    have bb := below_step bb b5
    clear b5
    go_wp2_with fail
    refine (gives_is (show decide (greatL ps way = greatL ps way) = true by simp) (eqCentreS_any _ _ _ _ _ og.reads ow.reads)).mono ?_
    rintro e w6 ⟨rfl, bn⟩
    have ow := ow.below bn
    have ox := ox.below bn
    have og := og.below bn
    have bb := below_step bb bn
    clear bn
    go_wp2_with fail
    refine (toSpotS_any ps _ _ ((h.below bb).more bb.size) (by omega)).mono ?_
    rintro e w7 ⟨v7, rfl, o7, bn⟩
    have ow := ow.below bn
    have ox := ox.below bn
    have og := og.below bn
    have bb := below_step bb bn
    clear bn
    go_wp2_with fail
    refine (gives_is (show decide (ps = ps) = true by simp) (eqSpotS_any _ _ _ _ _ ox.reads o7.reads)).mono ?_
    rintro e w8 ⟨rfl, bn⟩
    clear o7
    have ow := ow.below bn
    have ox := ox.below bn
    have og := og.below bn
    have bb := below_step bb bn
    clear bn
    go_wp2_with fail
    refine (mark_any ps _ _ 1 _ ox (by omega) (by omega) (by omega)).mono ?_
    rintro e w9 ⟨rfl, ox9, g9⟩
    have bb9 := bb.grown g9 bb.size (fun k hk => Nat.le_trans hb3 (ox.lt k hk).1)
    have ow9 := ow.grown g9 newx
    have og9 := og.grown g9 negx
    clear bb ow og ox ox9 g9
    go_wp2_with fail
    refine (gives_is (show decide (greatL ps way = greatL ps way) = true by simp) (eqCentreS_any _ _ _ _ _ og9.reads ow9.reads)).mono ?_
    rintro e w10 ⟨rfl, b10⟩
    have ow10 := ow9.below b10
    have og10 := og9.below b10
    have bb10 := below_step bb9 b10
    clear b10 ow9 og9 bb9
    go_wp2_with fail
    refine (markC_any (greatL ps way) _ _ 1 _ og10 (by omega) (by omega) (by omega)).mono ?_
    rintro e w11 ⟨rfl, og11, g11⟩
    have bb11 := bb10.grown g11 bb10.size (fun k hk => Nat.le_trans hb4 (og10.lt k hk).1)
    have ow11 := ow10.grown g11 newg
    clear bb10 ow10 og10 g11
    go_wp2_with fail
    refine (heldC_any _ _ 1 _ og11.reads (by omega) (by omega) (by omega)).mono ?_
    rintro e w12 ⟨rfl, b12⟩
    have ow12 := ow11.below b12
    have og12 := og11.below b12
    have bb := below_step bb11 b12
    clear b12 ow11 og11 bb11
    go_wp2_with fail
    refine (toSpotS_any ps _ _ ((h.below bb).more bb.size) (by omega)).mono ?_
    rintro e w13 ⟨v13, rfl, o13, bn⟩
    go_wp2_with fail
    refine (implGreatest_any ps _ way _ o13.reads).mono ?_
    rintro e w14 ⟨vh, rfl, oh, bi⟩
    have bh := below_step bn bi
    clear bn bi o13
    have ow15 := ow12.below bh
    have og15 := og12.below bh
    have bb15 := below_step bb bh
    clear bh ow12 og12 bb
    go_wp2_with fail
    refine (gives_is (show decide (greatL ps way = greatL ps way) = true by simp) (eqCentreS_any _ _ _ _ _ oh.reads ow15.reads)).mono ?_
    rintro e w16 ⟨rfl, b16⟩
    have og16 := og15.below b16
    have bb16 := below_step bb15 b16
    clear b16 ow15 og15 bb15 oh
    go_wp2_with fail
    refine (heldC_any _ _ 1 _ og16.reads (by omega) (by omega) (by omega)).mono ?_
    rintro e w17 ⟨rfl, b17⟩
    have bb17 := below_step bb16 b17
    go_wp2
    go_ret
    first | exact ⟨rfl, bb17⟩ | exact ⟨rfl, below_step b0 bb17⟩
set_option maxRecDepth 100000 in
theorem lifted (os : Os) (started : os.Started) (H : Type) (enc : TypeId × Value → H) :
    ReturnsInHanded {} Try.checked os 8 .any (Rows.fnExactGreatestOfSpec.pre6 enc Try.prog Try.f8 Rows.fnExactGreatestOfRow.domain false) (Rows.fnExactGreatestOfSpec.post enc Try.prog Try.f8 false true false false) := by
  refine returnsInHanded_of_change (C := Try.checked) own started (by kernel_rfl) Try.func8
    (ChangeSpec.witness6 (enc := enc) (C := Try.checked) false ⟨#[], #[.slice none 0 0, .int .i64 0], []⟩ 8 (by kernel_rfl) (by kernel_rfl) (by kernel_rfl) (by kernel_rfl)) ?_
  intro W base args ds gs before hval0 hW _ _
  have hval : ∀ (j : Nat) t v, Try.f8.params[j]? = some t → args[j]? = some v → Value.okWide Try.prog W .any base t v := hval0
  have hW' := hW
  obtain ⟨p, q, hA0, hV, rfl, _, _⟩ := hW
  have hA : DataW.TrodAll enc Try.prog W 0 (fun _ => true) true Try.f8.params.toList args.toList ds p := hA0
  rw [Try.params8] at hA hval
  obtain ⟨v0, v1, d0, d1, p0, p1, rfl, rfl, rfl, h0, h1⟩ := trodAll_two hA
  obtain ⟨rfl, rfl⟩ := trodVars_none hV
  clear hA0 hval0
  simp only [List.append_nil] at hW'
  have hlt : ∀ x ∈ p0 ++ p1, x.block < W.heap.size := fun x hx => by simpa using hW'.lt x hx
  have hlt0 : ∀ x ∈ p0, x.block < W.heap.size := fun x hx => hlt x (List.mem_append_left _ hx)
  have hlt1 : ∀ x ∈ p1, x.block < W.heap.size := fun x hx => hlt x (List.mem_append_right _ hx)
  obtain ⟨ps0, r0⟩ := open_lspots (hval 0 32 v0 rfl rfl) h0 hlt0
  obtain ⟨x1, rfl, _, _, _⟩ := open_int Try.underlying3 (hval 1 3 v1 rfl rfl) h1
  refine (walk ps0 v0 x1 W r0).mono fun e W' hg => ?_
  obtain ⟨he, hb⟩ := hg
  subst he
  exact ⟨_, rfl, _, _, _, [], p0 ++ p1, [], hW', trodAll_mk1 (shut_bool Try.underlying4 _), trodAll_mk2 (kept_arg (by kernel_rfl) (of_decide_eq_true (by kernel_rfl)) h0 hb hlt0) (kept_arg (by kernel_rfl) (of_decide_eq_true (by kernel_rfl)) h1 hb hlt1), rfl, hb.frame _, fun h => by cases h⟩

theorem holds : Rows.FnExactGreatestOfSaid :=
  OpenClaim.holds_of_wide 8 Try.f8 rfl rfl rfl rfl rfl rfl rfl ⟨rfl, rfl, rfl, rfl, rfl⟩ rfl rfl rfl rfl rfl (by kernel_rfl) Try.func8 (by kernel_rfl)
    (of_decide_eq_true (by kernel_rfl)) (by unfold Func.isWrapper; first | (rw [if_pos (by decide +kernel)]; kernel_rfl) | (rw [if_neg (by decide +kernel)]; exact ⟨rfl, rfl⟩))
    (fun os started H enc _ => lifted os started H enc)
end Go.Proofs.Ytfofmfkdkihhbad.exGreatestOf
