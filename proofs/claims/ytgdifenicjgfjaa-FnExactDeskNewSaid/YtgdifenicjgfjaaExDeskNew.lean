/-
  Proved: the exact law of DeskNew (FnExactDeskNew) returns true for every input, and its arguments read afterwards as they read before. No conditions.
-/
import Derived.Test.YtgdifenicjgfjaaDeskW
import Derived.Test.YtgdifenicjgfjaaDeskX
import Derived.Test.YtgdifenicjgfjaaMark
import Derived.Test.YtgdifenicjgfjaaOpen
namespace Go.Proofs.Ytgdifenicjgfjaa.exDeskNew
open Go.ChangeShapes Go.WideShapes Go.ChangeAt Go.RowKit

set_option maxRecDepth 100000 in
set_option maxHeartbeats 3200000 in
theorem walk (p : List Sp) (v : Value) (w : World) (h : Reads w w.heap.size v p) : Calls Try.prog 6 #[v] w (Gives (.bool true) w) := by
  obtain ⟨A, c, rfl, hc, hm⟩ := h.slice
  unfold maxLen at hm
  by_cases hl : 1048576 < p.length
  · go_enter Try.func6, Try.ntmps6
    go_wp2_with fail
    refine (szSpotS_yes p.length c A 1048576 _ (by omega) (by omega) (by omega) (by omega)).mono ?_
    rintro e w1 ⟨rfl, b1⟩
    go_wp2
    go_ret
    exact ⟨rfl, b1⟩
  have HL := Lib.hid (show p.length ≤ 1048576 by omega)
  obtain ⟨R, hR⟩ : ∃ R, deskNewR p = R := ⟨_, rfl⟩
  have hRs : dsum R ≤ 1100000 := by
    rw [← hR]
    rcases e : picB p with _ | _
    · rw [new_no e]; decide
    · rw [new_yes e]; unfold dsum; simp only [List.map_nil, List.sum_nil]; omega
  rcases hu : picB p with _ | _
  all_goals
    go_enter Try.func6, Try.ntmps6
    go_wp2_with fail
    refine (szSpotS_no p.length c A 1048576 _ (by omega) (by omega) (by omega) (by omega)).mono ?_
    rintro e w1 ⟨rfl, b1⟩
    have hnn : ¬ (1048576 - (p.length : Int) < 0) := by omega
    go_wp2_with fail
    refine (toSpotS_any p _ _ (h.keep b1 (Nat.le_refl _)) HL.out).mono ?_
    rintro e w2 ⟨v2, rfl, o2, b2⟩
    have bb := below_step b1 b2
    have z2 := bb.size
    clear b1 b2
    go_wp2_with fail
    have cS := specDeskNew_any p _ w2 o2.reads
    rw [hu, hR] at cS
    refine cS.mono ?_
    rintro e w3 ⟨vw, rfl, ow, b3⟩
    clear cS o2
    have bb := below_step bb b3
    obtain ⟨nx, px, ex, rnx, rpx⟩ := (ow).rd
    subst ex
    obtain ⟨A4, c4, rfl, _, _⟩ := rnx.slice
    obtain ⟨P4, d4, rfl, _, _⟩ := rpx.slice
    clear rnx rpx
    obtain ⟨W4, hW4⟩ : ∃ W, W = (w3).alloc (.cells #[.slice A4 (R).1.length c4, .slice P4 (R).2.length d4] 26) := ⟨_, rfl⟩
    have bx4 : Below (w3).heap.size w3 W4 := by rw [hW4]; exact box_below _ _ _
    have r4 : (W4).heap[(w3).heap.size]? = some (.cells #[.slice A4 (R).1.length c4, .slice P4 (R).2.length d4] 26 (0, 0)) := by rw [hW4]; exact heap_alloc_new _ _
    have s4 : (w3).heap.size + 1 = (W4).heap.size := by rw [hW4]; simp
    have o4 := (ow).below bx4
    have z3 := b3.size
    have bb := below_step bb bx4
    go_wp2_with (first | (rw [← hW4]; clear hW4) | fail)
    refine (toSpotS_any p _ _ (h.keep bb (Nat.le_refl _)) HL.out).mono ?_
    rintro e w5 ⟨vx, rfl, ox, b5⟩
    have HB := ox.lt
    have z5 := b5.size
    go_wp2_with fail
    have cI := implDeskNew_any p _ w5 ox.reads
    rw [hu, hR] at cI
    refine cI.mono ?_
    rintro e w6 ⟨vg, rfl, og, b6⟩
    clear cI
    have z6 := b6.size
    obtain ⟨nx, px, ex, rnx, rpx⟩ := (og).rd
    subst ex
    obtain ⟨A7, c7, rfl, _, _⟩ := rnx.slice
    obtain ⟨P7, d7, rfl, _, _⟩ := rpx.slice
    clear rnx rpx
    obtain ⟨W7, hW7⟩ : ∃ W, W = (w6).alloc (.cells #[.slice A7 (R).1.length c7, .slice P7 (R).2.length d7] 26) := ⟨_, rfl⟩
    have bx7 : Below (w6).heap.size w6 W7 := by rw [hW7]; exact box_below _ _ _
    have r7 : (W7).heap[(w6).heap.size]? = some (.cells #[.slice A7 (R).1.length c7, .slice P7 (R).2.length d7] 26 (0, 0)) := by rw [hW7]; exact heap_alloc_new _ _
    have s7 : (w6).heap.size + 1 = (W7).heap.size := by rw [hW7]; simp
    have o7 := (og).below bx7
    have b7 := below_step (below_step b5 b6) bx7
    have zz := bb.size
    have S : TwoD w W7 w2.heap.size w3.heap.size w5.heap.size w6.heap.size w3.heap.size w6.heap.size _ _ _ _ R R := ⟨below_step bb b7, (b7.block _ (by omega)).trans r4, r7, o4.below b7, o7, by have := b3.size; omega⟩
    replace ox := (ox.below b6).below bx7
    clear o4 o7 r4 r7 b7 b5 b6 bx4 bx7 ow og bb b3
    have q40 := S.c40
    have q41 := S.c41
    have q70 := S.c70
    have q71 := S.c71
    go_wp2_with (first | (rw [← hW7]; clear hW7) | fail)
    refine (eqD_is (b := true) (by simp) S.og.rd S.ow.rd).mono ?_
    rintro e w8 ⟨rfl, bn⟩
    replace ox := ox.below bn
    replace S := S.below bn
    clear bn q40 q41 q70 q71
    have q40 := S.c40
    have q41 := S.c41
    have q70 := S.c70
    have q71 := S.c71
    go_wp2_with fail
    refine (toSpotS_any p _ _ (h.keep S.bb (Nat.le_refl _)) HL.out).mono ?_
    rintro e w9 ⟨v9, rfl, o9, bn⟩
    replace ox := ox.below bn
    replace S := S.below bn
    clear bn q40 q41 q70 q71
    have q40 := S.c40
    have q41 := S.c41
    have q70 := S.c70
    have q71 := S.c71
    go_wp2_with fail
    refine (gives_is (show decide (p = p) = true by simp) (eqSpotS_any _ _ _ _ _ ox.reads o9.reads)).mono ?_
    rintro e w10 ⟨rfl, bn⟩
    clear o9
    replace ox := ox.below bn
    replace S := S.below bn
    clear bn q40 q41 q70 q71
    have q40 := S.c40
    have q41 := S.c41
    have q70 := S.c70
    have q71 := S.c71
    go_wp2_with fail
    refine (mark_any p _ _ 1 _ ox (by omega) (by omega) (by omega)).mono ?_
    rintro e w11 ⟨rfl, ox2, g11⟩
    replace S := S.other (GrownIn.of_grown g11 HB) (by omega) (Nat.le_refl _)
    clear q40 q41 q70 q71 ox ox2 g11 HB
    have q40 := S.c40
    have q41 := S.c41
    have q70 := S.c70
    have q71 := S.c71
    go_wp2_with fail
    refine (eqD_is (b := true) (by simp) S.og.rd S.ow.rd).mono ?_
    rintro e x1 ⟨rfl, bn⟩
    replace S := S.below bn
    clear bn q40 q41 q70 q71
    have q40 := S.c40
    have q41 := S.c41
    have q70 := S.c70
    have q71 := S.c71
    have hO := S.og
    go_wp2_with fail
    refine (markDesk_any (R) _ _ _ 1 _ hO hRs (by omega) (by omega)).mono ?_
    rintro e x2 ⟨rfl, o2, g2⟩
    replace S := S.marked g2 o2
    clear q40 q41 q70 q71 hO g2 o2
    have q40 := S.c40
    have q41 := S.c41
    have q70 := S.c70
    have q71 := S.c71
    go_wp2_with fail
    refine (heldDesk_any (R) _ 1 _ S.og.rd hRs (by omega) (by omega)).mono ?_
    rintro e x3 ⟨rfl, bn⟩
    replace S := S.below bn
    clear bn q40 q41 q70 q71
    have q40 := S.c40
    have q41 := S.c41
    have q70 := S.c70
    have q71 := S.c71
    go_wp2_with fail
    refine (toSpotS_any p _ _ (h.keep S.bb (Nat.le_refl _)) HL.out).mono ?_
    rintro e y1 ⟨u1, rfl, z1, bn⟩
    replace S := S.below bn
    clear bn q40 q41 q70 q71
    have q40 := S.c40
    have q41 := S.c41
    have q70 := S.c70
    have q71 := S.c71
    go_wp2_with fail
    have cI := implDeskNew_any p _ y1 z1.reads
    rw [hu, hR] at cI
    refine cI.mono ?_
    rintro e y2 ⟨vh, rfl, oh, bn⟩
    replace S := S.below bn
    clear bn q40 q41 q70 q71
    have q40 := S.c40
    have q41 := S.c41
    have q70 := S.c70
    have q71 := S.c71
    clear z1 cI
    obtain ⟨nx, px, ex, rnx, rpx⟩ := (oh).rd
    subst ex
    obtain ⟨A8, c8, rfl, _, _⟩ := rnx.slice
    obtain ⟨P8, d8, rfl, _, _⟩ := rpx.slice
    clear rnx rpx
    obtain ⟨W8, hW8⟩ : ∃ W, W = (y2).alloc (.cells #[.slice A8 (R).1.length c8, .slice P8 (R).2.length d8] 26) := ⟨_, rfl⟩
    have bx8 : Below (y2).heap.size y2 W8 := by rw [hW8]; exact box_below _ _ _
    have r8 : (W8).heap[(y2).heap.size]? = some (.cells #[.slice A8 (R).1.length c8, .slice P8 (R).2.length d8] 26 (0, 0)) := by rw [hW8]; exact heap_alloc_new _ _
    have s8 : (y2).heap.size + 1 = (W8).heap.size := by rw [hW8]; simp
    have o8 := (oh).below bx8
    have hsx := bx8.size
    replace S := S.below bx8
    have sC := S
    clear q40 q41 q70 q71
    have q40 := S.c40
    have q41 := S.c41
    have q70 := S.c70
    have q71 := S.c71
    obtain ⟨q80, q81⟩ := cells_of_row r8
    go_wp2_with (first | (rw [← hW8]; clear hW8) | fail)
    refine (eqD_is (b := true) (by simp) o8.rd S.ow.rd).mono ?_
    rintro e x4 ⟨rfl, bn⟩
    clear q80 q81 o8 r8 sC
    replace S := S.below bn
    clear bn q40 q41 q70 q71
    have q40 := S.c40
    have q41 := S.c41
    have q70 := S.c70
    have q71 := S.c71
    go_wp2_with fail
    refine (heldDesk_any (R) _ 1 _ S.og.rd hRs (by omega) (by omega)).mono ?_
    rintro e x5 ⟨rfl, bn⟩
    replace S := S.below bn
    clear bn q40 q41 q70 q71
    have q40 := S.c40
    have q41 := S.c41
    have q70 := S.c70
    have q71 := S.c71
    go_wp2
    go_ret
    exact ⟨rfl, S.bb⟩
set_option maxRecDepth 100000 in
theorem lifted (os : Os) (started : os.Started) (H : Type) (enc : TypeId × Value → H) :
    ReturnsInHanded {} Try.checked os 6 .any (Rows.fnExactDeskNewSpec.pre6 enc Try.prog Try.f6 Rows.fnExactDeskNewRow.domain false) (Rows.fnExactDeskNewSpec.post enc Try.prog Try.f6 false true false false) := by
  refine returnsInHanded_of_change (C := Try.checked) own started (by kernel_rfl) Try.func6
    (ChangeSpec.witness6 (enc := enc) (C := Try.checked) false ⟨#[], #[.slice none 0 0], []⟩ 8 (by kernel_rfl) (by kernel_rfl) (by kernel_rfl) (by kernel_rfl)) ?_
  intro W base args ds gs before hval0 hW _ _
  have hval : ∀ (j : Nat) t v, Try.f6.params[j]? = some t → args[j]? = some v → Value.okWide Try.prog W .any base t v := hval0
  have hW' := hW
  obtain ⟨p, q, hA0, hV, rfl, _, _⟩ := hW
  have hA : DataW.TrodAll enc Try.prog W 0 (fun _ => true) true Try.f6.params.toList args.toList ds p := hA0
  rw [Try.params6] at hA hval
  obtain ⟨v0, d0, rfl, rfl, h0⟩ := trodAll_one hA
  obtain ⟨rfl, rfl⟩ := trodVars_none hV
  clear hA0 hval0
  simp only [List.append_nil] at hW'
  have hlt : ∀ x ∈ p, x.block < W.heap.size := fun x hx => by simpa using hW'.lt x hx
  have r0 := open_lspots (hval 0 39 v0 rfl rfl) h0 hlt
  obtain ⟨ps0, r0⟩ := r0
  refine (walk ps0 v0 W r0).mono fun e W' hg => ?_
  obtain ⟨he, hb⟩ := hg
  subst he
  exact ⟨_, rfl, _, _, _, [], p, [], hW', trodAll_mk1 (shut_bool Try.underlying4 _), trodAll_mk1 (kept_arg (by kernel_rfl) (of_decide_eq_true (by kernel_rfl)) h0 hb hlt), rfl, hb.frame _, fun h => by cases h⟩

theorem holds : Rows.FnExactDeskNewSaid :=
  OpenClaim.holds_of_wide 6 Try.f6 rfl rfl rfl rfl rfl rfl rfl ⟨rfl, rfl, rfl, rfl, rfl⟩ rfl rfl rfl rfl rfl (by kernel_rfl) Try.func6 (by kernel_rfl)
    (of_decide_eq_true (by kernel_rfl)) (by unfold Func.isWrapper; first | (rw [if_pos (by decide +kernel)]; kernel_rfl) | (rw [if_neg (by decide +kernel)]; exact ⟨rfl, rfl⟩))
    (fun os started H enc _ => lifted os started H enc)
end Go.Proofs.Ytgdifenicjgfjaa.exDeskNew
