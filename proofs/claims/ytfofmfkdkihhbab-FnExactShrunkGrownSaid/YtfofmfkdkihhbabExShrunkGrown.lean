/-
  Proved: the exact law of ShrunkGrown (FnExactShrunkGrown) returns true for every input, and its arguments read afterwards as they read before. No conditions.
-/
import Derived.Test.YtfofmfkdkihhbabShrinkT
import Derived.Test.YtfofmfkdkihhbabShrinkI
import Derived.Test.YtfofmfkdkihhbabMark
import Derived.Test.YtfofmfkdkihhbabOpen
namespace Go.Proofs.Ytfofmfkdkihhbab.exShrunkGrown
open Go.ChangeShapes Go.WideShapes Go.ChangeAt Go.RowKit

set_option maxHeartbeats 1600000 in
theorem walk (p q : List Sp) (v v' : Value) (w : World) (h : Reads w w.heap.size v p) (h' : Reads w w.heap.size v' q) : Calls Try.prog 8 #[v, v'] w (Gives (.bool true) w) := by
  obtain ⟨A, c, rfl, hc, hm⟩ := h.slice
  obtain ⟨A', c', rfl, hc', hm'⟩ := h'.slice
  unfold maxLen at hm hm'
  by_cases hl : 1048576 < p.length
  · go_enter Try.func8, Try.ntmps8
    go_wp2_with fail
    refine (szSpotS_yes p.length c A 1048576 _ (by omega) (by omega) (by omega) (by omega)).mono ?_
    rintro e w1 ⟨rfl, b1⟩
    go_wp2
    go_ret
    exact ⟨rfl, b1⟩
  by_cases hl' : 1048576 - (p.length : Int) < q.length
  · go_enter Try.func8, Try.ntmps8
    go_wp2_with fail
    refine (szSpotS_no p.length c A 1048576 _ (by omega) (by omega) (by omega) (by omega)).mono ?_
    rintro e w1 ⟨rfl, b1⟩
    go_wp2_with fail
    refine (szSpotS_yes q.length c' A' (1048576 - (p.length : Int)) _ (by omega) (by omega) (by omega) (by omega)).mono ?_
    rintro e w2 ⟨rfl, b2⟩
    go_wp2
    go_ret
    exact ⟨rfl, below_step b1 b2⟩
  have hT : (shrunkGrownR p q).length ≤ 60 := shrunkGrownR_le p q
  rcases hu : shrunkGrownOk p q with _ | _
  all_goals
    go_enter Try.func8, Try.ntmps8
    go_wp2_with fail
    refine (szSpotS_no p.length c A 1048576 _ (by omega) (by omega) (by omega) (by omega)).mono ?_
    rintro e w1 ⟨rfl, b1⟩
    go_wp2_with fail
    refine (szSpotS_no q.length c' A' (1048576 - (p.length : Int)) _ (by omega) (by omega) (by omega) (by omega)).mono ?_
    rintro e w2 ⟨rfl, b2⟩
    have bb := below_step b1 b2
    clear b1 b2
    go_wp2_with fail
    refine (toSpotS_any p _ _ ((h.below bb).more bb.size) (by omega)).mono ?_
    rintro e w3 ⟨v3, rfl, o3, bn⟩
    have bb := below_step bb bn
    have bo1 := bn
    clear bn
    go_wp2_with fail
    refine (toSpotS_any q _ _ ((h'.below bb).more bb.size) (by omega)).mono ?_
    rintro e w4 ⟨v4, rfl, o4, bn⟩
    have bb := below_step bb bn
    have bo := below_step bo1 bn
    have o3 := o3.below bn
    clear bn bo bo1
    go_wp2_with fail
    have cS := specShrunkGrown_any p q _ _ w4 o3.reads o4.reads
    rw [hu] at cS
    refine cS.mono ?_
    rintro e w5 ⟨vw, rfl, ow, b5⟩
    have bb := below_step bb b5
    clear b5 o3 o4 cS
    have hb5 := bb.size
    go_wp2_with fail
    refine (toSpotS_any p _ _ ((h.below bb).more bb.size) (by omega)).mono ?_
    rintro e w6 ⟨vx, rfl, ox, bn⟩
    have bb := below_step bb bn
    have bo1 := bn
    clear bn
    go_wp2_with fail
    refine (toSpotS_any q _ _ ((h'.below bb).more bb.size) (by omega)).mono ?_
    rintro e w7 ⟨vy, rfl, oy, bn⟩
    have bb := below_step bb bn
    have bo := below_step bo1 bn
    have nwx := Owns.ne ow ox (Nat.le_refl _)
    have nwy := Owns.ne ow oy bo1.size
    have nyx := Owns.ne' oy ox (Nat.le_refl _)
    have hy6 := Nat.le_trans hb5 bo1.size
    have ow := ow.below bo
    have ox := ox.below bn
    have hb7 := bb.size
    have s67 := bn.size
    clear bn bo bo1
    go_wp2_with fail
    have cI := implShrunkGrown_any p q _ _ w7 ox.reads oy.reads
    rw [hu] at cI
    refine cI.mono ?_
    rintro e w8 ⟨vg, rfl, og, b8⟩
    have nwg := Owns.ne ow og (Nat.le_refl _)
    have ngx := Owns.ne' og ox (Nat.le_refl _)
    have ngy := Owns.ne' og oy (Nat.le_refl _)
    have bb := below_step bb b8
    have ow := ow.below b8
    have ox := ox.below b8
    have oy := oy.below b8
    clear b8 cI
    go_wp2_with fail
    refine (gives_is (show decide (shrunkGrownR p q = shrunkGrownR p q) = true by simp) (eqSpotS_any _ _ _ _ _ og.reads ow.reads)).mono ?_
    rintro e w9 ⟨rfl, bn⟩
    have bb := below_step bb bn
    have ow := ow.below bn
    have ox := ox.below bn
    have oy := oy.below bn
    have og := og.below bn
    clear bn
    go_wp2_with fail
    refine (toSpotS_any p _ _ ((h.below bb).more bb.size) (by omega)).mono ?_
    rintro e w10 ⟨v10, rfl, o10, bn⟩
    have bb := below_step bb bn
    have ow := ow.below bn
    have ox := ox.below bn
    have oy := oy.below bn
    have og := og.below bn
    clear bn
    go_wp2_with fail
    refine (gives_is (show decide (p = p) = true by simp) (eqSpotS_any _ _ _ _ _ ox.reads o10.reads)).mono ?_
    rintro e w11 ⟨rfl, bn⟩
    have bb := below_step bb bn
    have ow := ow.below bn
    have ox := ox.below bn
    have oy := oy.below bn
    have og := og.below bn
    clear bn o10
    go_wp2_with fail
    refine (toSpotS_any q _ _ ((h'.below bb).more bb.size) (by omega)).mono ?_
    rintro e w12 ⟨v12, rfl, o12, bn⟩
    have bb := below_step bb bn
    have ow := ow.below bn
    have ox := ox.below bn
    have oy := oy.below bn
    have og := og.below bn
    clear bn
    go_wp2_with fail
    refine (gives_is (show decide (q = q) = true by simp) (eqSpotS_any _ _ _ _ _ oy.reads o12.reads)).mono ?_
    rintro e w13 ⟨rfl, bn⟩
    have bb := below_step bb bn
    have ow := ow.below bn
    have ox := ox.below bn
    have oy := oy.below bn
    have og := og.below bn
    clear bn o12
    go_wp2_with fail
    refine (mark_any p _ _ 1 _ ox (by omega) (by omega) (by omega)).mono ?_
    rintro e w14 ⟨rfl, ox14, g14⟩
    have bb14 := bb.grown g14 bb.size (fun k hk => Nat.le_trans hb5 (ox.lt k hk).1)
    have ow14 := ow.grown g14 nwx
    have oy14 := oy.grown g14 nyx
    have og14 := og.grown g14 ngx
    clear bb ow ox oy og ox14 g14
    go_wp2_with fail
    refine (mark_any q _ _ (1 + 2 * (p.length : Int)) _ oy14 (by omega) (by omega) (by omega)).mono ?_
    rintro e w15 ⟨rfl, oy15, g15⟩
    have bb9 := bb14.grown g15 bb14.size (fun k hk => Nat.le_trans hy6 (oy14.lt k hk).1)
    have ow9 := ow14.grown g15 nwy
    have og9 := og14.grown g15 ngy
    clear bb14 ow14 oy14 og14 oy15 g15
    have newg := nwg
    have hb4 := hb7
    go_wp2_with fail
    refine (gives_is (show decide (shrunkGrownR p q = shrunkGrownR p q) = true by simp) (eqSpotS_any _ _ _ _ _ og9.reads ow9.reads)).mono ?_
    rintro e w10 ⟨rfl, b10⟩
    have ow10 := ow9.below b10
    have og10 := og9.below b10
    have bb10 := below_step bb9 b10
    clear b10 ow9 og9 bb9
    go_wp2_with fail
    refine (mark_any (shrunkGrownR p q) _ _ 1 _ og10 (by omega) (by omega) (by omega)).mono ?_
    rintro e w11 ⟨rfl, og11, g11⟩
    have bb11 := bb10.grown g11 bb10.size (fun k hk => Nat.le_trans hb4 (og10.lt k hk).1)
    have ow11 := ow10.grown g11 newg
    clear bb10 ow10 og10 g11
    go_wp2_with fail
    refine (held_any _ _ 1 _ og11.reads (by omega) (by omega) (by omega)).mono ?_
    rintro e w12 ⟨rfl, b12⟩
    have ow12 := ow11.below b12
    have og12 := og11.below b12
    have bb := below_step bb11 b12
    clear b12 ow11 og11 bb11
    go_wp2_with fail
    refine (toSpotS_any p _ _ ((h.below bb).more bb.size) (by omega)).mono ?_
    rintro e x1 ⟨y1, rfl, z1, bn1⟩
    have bb1 := below_step bb bn1
    go_wp2_with fail
    refine (toSpotS_any q _ _ ((h'.below bb1).more bb1.size) (by omega)).mono ?_
    rintro e x2 ⟨y2, rfl, z2, bn2⟩
    have z1 := z1.below bn2
    go_wp2_with fail
    have cI := implShrunkGrown_any p q _ _ x2 z1.reads z2.reads
    rw [hu] at cI
    refine cI.mono ?_
    rintro e x3 ⟨vh, rfl, oh, bn3⟩
    have bh := below_step (below_step bn1 bn2) bn3
    clear bn1 bn2 bn3 bb1 z1 z2 cI
    have ow15 := ow12.below bh
    have og15 := og12.below bh
    have bb15 := below_step bb bh
    clear bh ow12 og12 bb
    go_wp2_with fail
    refine (gives_is (show decide (shrunkGrownR p q = shrunkGrownR p q) = true by simp) (eqSpotS_any _ _ _ _ _ oh.reads ow15.reads)).mono ?_
    rintro e w16 ⟨rfl, b16⟩
    have og16 := og15.below b16
    have bb16 := below_step bb15 b16
    clear b16 ow15 og15 bb15 oh
    go_wp2_with fail
    refine (held_any _ _ 1 _ og16.reads (by omega) (by omega) (by omega)).mono ?_
    rintro e w17 ⟨rfl, b17⟩
    have bb17 := below_step bb16 b17
    go_wp2
    go_ret
    first | exact ⟨rfl, bb17⟩ | exact ⟨rfl, below_step b0 bb17⟩

set_option maxRecDepth 100000 in
theorem lifted (os : Os) (started : os.Started) (H : Type) (enc : TypeId × Value → H) :
    ReturnsInHanded {} Try.checked os 8 .any (Rows.fnExactShrunkGrownSpec.pre6 enc Try.prog Try.f8 Rows.fnExactShrunkGrownRow.domain false) (Rows.fnExactShrunkGrownSpec.post enc Try.prog Try.f8 false true false false) := by
  refine returnsInHanded_of_change (C := Try.checked) own started (by kernel_rfl) Try.func8
    (ChangeSpec.witness6 (enc := enc) (C := Try.checked) false ⟨#[], #[.slice none 0 0, .slice none 0 0], []⟩ 8 (by kernel_rfl) (by kernel_rfl) (by kernel_rfl) (by kernel_rfl)) ?_
  intro W base args ds gs before hval0 hW _ _
  have hval : ∀ (j : Nat) t v, Try.f8.params[j]? = some t → args[j]? = some v → Value.okWide Try.prog W .any base t v := hval0
  have hW' := hW
  obtain ⟨p, q, hA0, hV, rfl, _, _⟩ := hW
  have hA : DataW.TrodAll enc Try.prog W 0 (fun _ => true) true Try.f8.params.toList args.toList ds p := hA0
  rw [Try.params8] at hA hval
  obtain ⟨v0, v1, d0, d1, p0, p1, rfl, rfl, rfl, h0, h1⟩ := trodAll_two hA
  obtain ⟨rfl, rfl⟩ := trodVars_none hV
  clear hA0 hval0
  simp only [List.append_nil] at hW'
  have hlt : ∀ x ∈ p0 ++ p1, x.block < W.heap.size := fun x hx => by simpa using hW'.lt x hx
  have hlt0 : ∀ x ∈ p0, x.block < W.heap.size := fun x hx => hlt x (List.mem_append_left _ hx)
  have hlt1 : ∀ x ∈ p1, x.block < W.heap.size := fun x hx => hlt x (List.mem_append_right _ hx)
  obtain ⟨ps0, r0⟩ := open_lspots (hval 0 34 v0 rfl rfl) h0 hlt0
  obtain ⟨ps1, r1⟩ := open_lspots (hval 1 34 v1 rfl rfl) h1 hlt1
  refine (walk ps0 ps1 v0 v1 W r0 r1).mono fun e W' hg => ?_
  obtain ⟨he, hb⟩ := hg
  subst he
  exact ⟨_, rfl, _, _, _, [], p0 ++ p1, [], hW', trodAll_mk1 (shut_bool Try.underlying4 _), trodAll_mk2 (kept_arg (by kernel_rfl) (of_decide_eq_true (by kernel_rfl)) h0 hb hlt0) (kept_arg (by kernel_rfl) (of_decide_eq_true (by kernel_rfl)) h1 hb hlt1), rfl, hb.frame _, fun h => by cases h⟩

theorem holds : Rows.FnExactShrunkGrownSaid :=
  OpenClaim.holds_of_wide 8 Try.f8 rfl rfl rfl rfl rfl rfl rfl ⟨rfl, rfl, rfl, rfl, rfl⟩ rfl rfl rfl rfl rfl (by kernel_rfl) Try.func8 (by kernel_rfl)
    (of_decide_eq_true (by kernel_rfl)) (by unfold Func.isWrapper; first | (rw [if_pos (by decide +kernel)]; kernel_rfl) | (rw [if_neg (by decide +kernel)]; exact ⟨rfl, rfl⟩))
    (fun os started H enc _ => lifted os started H enc)
end Go.Proofs.Ytfofmfkdkihhbab.exShrunkGrown
