/-
  Proved: the law of ColumnsFilled (FnColumnsFilled) returns true for every code, and the code reads afterwards as it read before. No conditions.
-/
import Derived.Test.YtebgcmnajkophaaDraws9
import Derived.Test.YtebgcmnajkophaaFilledQ
import Derived.Test.YtebgcmnajkophaaOpen
namespace Go.Proofs.Ytebgcmnajkophaa.fnColumnsFilled
open Go.ChangeShapes Go.WideShapes Go.ChangeAt Go.RowKit

/-- what is asked of filled columns -/
structure Cols9 (p s : List Sp) : Prop where
  over : overR p = overL p
  rows : rowsOk (overL p) = true
  rowsR : rowsR (overL p) = rowsL (overL p)
  back : overR (rowsL (overL p)) = s
  again : colsOk s = true
  againR : colsR s = s
  win : withinB p s = true
theorem cols9 {p : List Sp} (h : colsOk p = true) : Cols9 p (colsL p) := by
  obtain ⟨h1, h2⟩ := cols_parts h
  have h3 := colsOk_again h
  exact ⟨overR_yes h1, h2, rowsR_yes h2, overR_yes (rows_parts h2).2, h3, by rw [colsR_yes h3, colsL_again], within9 h1 (pic_colsL h) colsL_has⟩
set_option maxRecDepth 100000 in
set_option maxHeartbeats 1600000 in
theorem walk (A : Option Addr) (n c : Nat) (w : World) (hb : Bytes w w.heap.size A n) (hn : n ≤ c) (hc : c ≤ 9223372036854775807) :
    Calls Try.prog 5 #[.slice A n c] w (Gives (.bool true) w) := by
  by_cases hbig : 1048576 < n
  · go_enter Try.func5, Try.ntmps5
    go_wp2
    go_ret
    exact ⟨rfl, Below.refl _ _⟩
  · go_enter Try.func5, Try.ntmps5
    go_wp2_with fail
    refine (drawColumnsFilled_any A n c _ hb hn hc).mono ?_
    rintro e w1 ⟨v, ps, rfl, op, hpl, bb⟩
    obtain ⟨Ap, cp, rfl, _, _⟩ := op.reads.slice
    clear hb hn hc
    obtain ⟨s, hs⟩ : ∃ s, colsR ps = s := ⟨_, rfl⟩
    rcases hk : colsOk ps with _ | _
    all_goals
      have HS := Lib.hid (And.intro hk hs)
      clear hk hs
      go_wp2_with fail
      refine (colsI_lit HS.out.1 HS.out.2 op.reads).mono ?_
      rintro e w2 ⟨v2, rfl, o2, bn⟩
      have bb := below_step bb bn
      have op := op.below bn
      obtain ⟨A2, c2, rfl, hc2, hm2⟩ := o2.reads.slice
      unfold maxLen at hm2
      go_wp2_with fail
      refine (colsS_lit HS.out.1 HS.out.2 op.reads).mono ?_
      rintro e w3 ⟨v3, rfl, o3, bn⟩
      have bb := below_step bb bn
      have op := op.below bn
      have o2 := o2.below bn
      go_wp2_with fail
      refine (same_lit o2.reads o3.reads).mono ?_
      rintro e w4 ⟨rfl, bn⟩
      have bb := below_step bb bn
      have op := op.below bn
      have o2 := o2.below bn
      clear o3 bn
    · have h0 : ((s.length : Int) == 0) = true := by rw [← HS.out.2, colsR_no HS.out.1]; rfl
      go_wp2_with fail
      refine (alive_any _).mono ?_
      rintro e w5 ⟨rfl, bn⟩
      go_wp2
      go_ret
      exact ⟨rfl, below_step bb bn⟩
    · have H := cols9 HS.out.1
      rw [(colsR_yes HS.out.1).symm.trans HS.out.2] at H
      have H := Lib.hid H
      go_wp2_with fail
      refine (over_lit H.out.over op.reads).mono ?_
      rintro e w5 ⟨v5, rfl, o5, bn⟩
      have bb := below_step bb bn
      have op := op.below bn
      have o2 := o2.below bn
      go_wp2_with fail
      refine (rowsI_lit H.out.rows H.out.rowsR o5.reads).mono ?_
      rintro e w6 ⟨v6, rfl, o6, bn⟩
      have bb := below_step bb bn
      have op := op.below bn
      have o2 := o2.below bn
      clear o5
      go_wp2_with fail
      refine (colsI_lit H.out.again H.out.againR o2.reads).mono ?_
      rintro e w7 ⟨v7, rfl, o7, bn⟩
      have bb := below_step bb bn
      have op := op.below bn
      have o2 := o2.below bn
      have o6 := o6.below bn
      go_wp2_with fail
      refine (over_lit H.out.back o6.reads).mono ?_
      rintro e w8 ⟨v8, rfl, o8, bn⟩
      have bb := below_step bb bn
      have op := op.below bn
      have o2 := o2.below bn
      have o7 := o7.below bn
      clear o6
      go_wp2_with fail
      refine (same_lit o8.reads o2.reads).mono ?_
      rintro e w9 ⟨rfl, bn⟩
      have bb := below_step bb bn
      have op := op.below bn
      have o2 := o2.below bn
      have o7 := o7.below bn
      go_wp2_with fail
      refine (same_lit o7.reads o2.reads).mono ?_
      rintro e w10 ⟨rfl, bn⟩
      have bb := below_step bb bn
      have op := op.below bn
      have o2 := o2.below bn
      go_wp2_with fail
      refine (within_lit9 H.out.win op.reads o2.reads).mono ?_
      rintro e w11 ⟨rfl, bn⟩
      have bb := below_step bb bn
      go_wp2_with fail
      refine (alive_any _).mono ?_
      rintro e w12 ⟨rfl, bn⟩
      go_wp2
      go_ret
      exact ⟨rfl, below_step bb bn⟩

set_option maxRecDepth 100000 in
theorem lifted (os : Os) (started : os.Started) (H : Type) (enc : TypeId × Value → H) :
    ReturnsInHanded {} Try.checked os 5 .any (Rows.fnColumnsFilledSpec.pre6 enc Try.prog Try.f5 Rows.fnColumnsFilledRow.domain false) (Rows.fnColumnsFilledSpec.post enc Try.prog Try.f5 false true false false) := by
  refine returnsInHanded_of_change (C := Try.checked) own started (by kernel_rfl) Try.func5
    (ChangeSpec.witness6 (enc := enc) (C := Try.checked) false ⟨#[], #[.slice none 0 0], []⟩ 8 (by kernel_rfl) (by kernel_rfl) (by kernel_rfl) (by kernel_rfl)) ?_
  intro W base args ds gs before hval0 hW _ _
  have hval : ∀ (j : Nat) t v, Try.f5.params[j]? = some t → args[j]? = some v → Value.okWide Try.prog W .any base t v := hval0
  have hW' := hW
  obtain ⟨p, q, hA0, hV, rfl, _, _⟩ := hW
  have hA : DataW.TrodAll enc Try.prog W 0 (fun _ => true) true Try.f5.params.toList args.toList ds p := hA0
  rw [Try.params5] at hA hval
  obtain ⟨v0, d0, rfl, rfl, h0⟩ := trodAll_one hA
  obtain ⟨rfl, rfl⟩ := trodVars_none hV
  clear hA0 hval0
  simp only [List.append_nil] at hW'
  have hlt : ∀ x ∈ p, x.block < W.heap.size := fun x hx => by simpa using hW'.lt x hx
  have r0 := open_bytes (hval 0 22 v0 rfl rfl) h0 hlt
  obtain ⟨⟨bA, bn, bc⟩, rfl, rb, rn, rc⟩ := r0
  simp only at rb rn rc
  refine (walk bA bn bc W rb rn rc).mono fun e W' hg => ?_
  obtain ⟨he, hb⟩ := hg
  subst he
  exact ⟨_, rfl, _, _, _, [], p, [], hW', trodAll_mk1 (shut_bool Try.underlying4 _), trodAll_mk1 (kept_arg (by kernel_rfl) (of_decide_eq_true (by kernel_rfl)) h0 hb hlt), rfl, hb.frame _, fun h => by cases h⟩

theorem holds : Rows.FnColumnsFilledSaid :=
  OpenClaim.holds_of_wide 5 Try.f5 rfl rfl rfl rfl rfl rfl rfl ⟨rfl, rfl, rfl, rfl, rfl⟩ rfl rfl rfl rfl rfl (by kernel_rfl) Try.func5 (by kernel_rfl)
    (of_decide_eq_true (by kernel_rfl)) (by unfold Func.isWrapper; first | (rw [if_pos (by decide +kernel)]; kernel_rfl) | (rw [if_neg (by decide +kernel)]; exact ⟨rfl, rfl⟩))
    (fun os started H enc _ => lifted os started H enc)
end Go.Proofs.Ytebgcmnajkophaa.fnColumnsFilled
