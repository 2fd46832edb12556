/-
  Proved: the law of FilledOk (FnFilledOk) returns true for every code, and the code reads afterwards as it read before. No conditions.
-/
import Derived.Test.YtebgcmnajkophaaDraws9
import Derived.Test.YtebgcmnajkophaaFilledQ
import Derived.Test.YtebgcmnajkophaaOpen
namespace Go.Proofs.Ytebgcmnajkophaa.fnFilledOk
open Go.ChangeShapes Go.WideShapes Go.ChangeAt Go.RowKit

set_option maxRecDepth 100000 in
set_option maxHeartbeats 1600000 in
theorem walk (A : Option Addr) (n c : Nat) (w : World) (hb : Bytes w w.heap.size A n) (hn : n ≤ c) (hc : c ≤ 9223372036854775807) :
    Calls Try.prog 7 #[.slice A n c] w (Gives (.bool true) w) := by
  by_cases hbig : 1048576 < n
  · go_enter Try.func7, Try.ntmps7
    go_wp2
    go_ret
    exact ⟨rfl, Below.refl _ _⟩
  · go_enter Try.func7, Try.ntmps7
    go_wp2_with fail
    refine (drawFilledOk_any A n c _ hb hn hc).mono ?_
    rintro e w1 ⟨v, ps, rfl, op, hpl, bb⟩
    obtain ⟨Ap, cp, rfl, _, _⟩ := op.reads.slice
    clear hb hn hc
    rcases hp : picB ps with _ | _
    · have hf := filled_no hp
      go_wp2_with fail
      refine (fullI_lit hf (by omega) op.reads).mono ?_
      rintro e w2 ⟨rfl, bn⟩
      have bb := below_step bb bn
      have op := op.below bn
      go_wp2_with fail
      refine (fullS_lit hf (by omega) op.reads).mono ?_
      rintro e w3 ⟨rfl, bn⟩
      have bb := below_step bb bn
      have op := op.below bn
      go_wp2_with fail
      refine (gives_is hp (specPicture_any ps _ _ op.reads)).mono ?_
      rintro e w4 ⟨rfl, bn⟩
      have bb := below_step bb bn
      have op := op.below bn
      go_wp2_with fail
      refine (alive_any _).mono ?_
      rintro e w5 ⟨rfl, bn⟩
      go_wp2
      go_ret
      exact ⟨rfl, below_step bb bn⟩
    · obtain ⟨F, hF⟩ : ∃ F, filledB ps = F := ⟨_, rfl⟩
      have hsame := filled_same hp
      rw [hF] at hsame
      have HF := Lib.hid (And.intro hF ((filled_over hp).trans hF))
      have HO := Lib.hid (overR_yes hp)
      have HL := Lib.hid (Nat.le_trans (length_overL_le ps) hpl)
      clear hF
      rcases hr : rowsOk ps with _ | _
      · have hF0 : F = false := by rw [hsame, hr]; rfl
        subst hF0
        clear hsame
        rcases hk : colsOk ps with _ | _
        all_goals
          go_wp2_with fail
          refine (fullI_lit HF.out.1 (by omega) op.reads).mono ?_
          rintro e w2 ⟨rfl, bn⟩
          have bb := below_step bb bn
          have op := op.below bn
          go_wp2_with fail
          refine (fullS_lit HF.out.1 (by omega) op.reads).mono ?_
          rintro e w3 ⟨rfl, bn⟩
          have bb := below_step bb bn
          have op := op.below bn
          go_wp2_with fail
          refine (gives_is hp (specPicture_any ps _ _ op.reads)).mono ?_
          rintro e w4 ⟨rfl, bn⟩
          have bb := below_step bb bn
          have op := op.below bn
          go_wp2_with fail
          refine (rowsI_lit hr rfl op.reads).mono ?_
          rintro e w5 ⟨v5, rfl, o5, bn⟩
          have bb := below_step bb bn
          have op := op.below bn
          go_wp2_with fail
          refine (colsI_lit hk rfl op.reads).mono ?_
          rintro e w6 ⟨v6, rfl, o6, bn⟩
          have bb := below_step bb bn
          have op := op.below bn
          clear o5 o6
          go_wp2_with fail
          refine (over_lit HO.out op.reads).mono ?_
          rintro e x1 ⟨y1, rfl, oo, bn⟩
          have bb := below_step bb bn
          have op := op.below bn
          go_wp2_with fail
          refine (fullI_lit HF.out.2 (by have := HL.out; omega) oo.reads).mono ?_
          rintro e x2 ⟨rfl, bn⟩
          have bb := below_step bb bn
          have op := op.below bn
          clear oo
          have oN := Owns.empty x2 0 (Nat.zero_le _)
          go_wp2_with fail
          refine (fullI_lit filled_nil (by simp) oN.reads).mono ?_
          rintro e x3 ⟨rfl, b3⟩
          go_wp2
          go_ret
          exact ⟨rfl, below_step bb (below_step ((Below.refl _ _).alloc (Nat.le_refl _) _) b3)⟩
      · rcases hk : colsOk ps with _ | _
        · have hF0 : F = false := by rw [hsame, hr, hk]; rfl
          subst hF0
          clear hsame
          go_wp2_with fail
          refine (fullI_lit HF.out.1 (by omega) op.reads).mono ?_
          rintro e w2 ⟨rfl, bn⟩
          have bb := below_step bb bn
          have op := op.below bn
          go_wp2_with fail
          refine (fullS_lit HF.out.1 (by omega) op.reads).mono ?_
          rintro e w3 ⟨rfl, bn⟩
          have bb := below_step bb bn
          have op := op.below bn
          go_wp2_with fail
          refine (gives_is hp (specPicture_any ps _ _ op.reads)).mono ?_
          rintro e w4 ⟨rfl, bn⟩
          have bb := below_step bb bn
          have op := op.below bn
          go_wp2_with fail
          refine (rowsI_lit hr rfl op.reads).mono ?_
          rintro e w5 ⟨v5, rfl, o5, bn⟩
          have bb := below_step bb bn
          have op := op.below bn
          go_wp2_with fail
          refine (colsI_lit hk rfl op.reads).mono ?_
          rintro e w6 ⟨v6, rfl, o6, bn⟩
          have bb := below_step bb bn
          have op := op.below bn
          clear o5 o6
          go_wp2_with fail
          refine (over_lit HO.out op.reads).mono ?_
          rintro e x1 ⟨y1, rfl, oo, bn⟩
          have bb := below_step bb bn
          have op := op.below bn
          go_wp2_with fail
          refine (fullI_lit HF.out.2 (by have := HL.out; omega) oo.reads).mono ?_
          rintro e x2 ⟨rfl, bn⟩
          have bb := below_step bb bn
          have op := op.below bn
          clear oo
          have oN := Owns.empty x2 0 (Nat.zero_le _)
          go_wp2_with fail
          refine (fullI_lit filled_nil (by simp) oN.reads).mono ?_
          rintro e x3 ⟨rfl, b3⟩
          go_wp2
          go_ret
          exact ⟨rfl, below_step bb (below_step ((Below.refl _ _).alloc (Nat.le_refl _) _) b3)⟩
        · rw [hr, hk, Bool.true_and, Bool.true_and] at hsame
          have HR := Lib.hid (rowsR_yes hr)
          have HK := Lib.hid (colsR_yes hk)
          rcases hx : decide (rowsL ps = ps) with _ | _
          · have hF0 : F = false := by rw [hsame, hx]; rfl
            subst hF0
            clear hsame
            have HX := Lib.hid hx
            clear hx
            go_wp2_with fail
            refine (fullI_lit HF.out.1 (by omega) op.reads).mono ?_
            rintro e w2 ⟨rfl, bn⟩
            have bb := below_step bb bn
            have op := op.below bn
            go_wp2_with fail
            refine (fullS_lit HF.out.1 (by omega) op.reads).mono ?_
            rintro e w3 ⟨rfl, bn⟩
            have bb := below_step bb bn
            have op := op.below bn
            go_wp2_with fail
            refine (gives_is hp (specPicture_any ps _ _ op.reads)).mono ?_
            rintro e w4 ⟨rfl, bn⟩
            have bb := below_step bb bn
            have op := op.below bn
            go_wp2_with fail
            refine (rowsI_lit hr HR.out op.reads).mono ?_
            rintro e w5 ⟨v5, rfl, o5, bn⟩
            have bb := below_step bb bn
            have op := op.below bn
            go_wp2_with fail
            refine (colsI_lit hk HK.out op.reads).mono ?_
            rintro e w6 ⟨v6, rfl, o6, bn⟩
            have bb := below_step bb bn
            have op := op.below bn
            have o5 := o5.below bn
            clear o6
            go_wp2_with fail
            refine (gives_is HX.out (sameSpots_any _ _ _ _ _ o5.reads op.reads)).mono ?_
            rintro e w7 ⟨rfl, bn⟩
            have bb := below_step bb bn
            have op := op.below bn
            clear o5
            go_wp2_with fail
            refine (over_lit HO.out op.reads).mono ?_
            rintro e x1 ⟨y1, rfl, oo, bn⟩
            have bb := below_step bb bn
            have op := op.below bn
            go_wp2_with fail
            refine (fullI_lit HF.out.2 (by have := HL.out; omega) oo.reads).mono ?_
            rintro e x2 ⟨rfl, bn⟩
            have bb := below_step bb bn
            have op := op.below bn
            clear oo
            have oN := Owns.empty x2 0 (Nat.zero_le _)
            go_wp2_with fail
            refine (fullI_lit filled_nil (by simp) oN.reads).mono ?_
            rintro e x3 ⟨rfl, b3⟩
            go_wp2
            go_ret
            exact ⟨rfl, below_step bb (below_step ((Below.refl _ _).alloc (Nat.le_refl _) _) b3)⟩
          · rw [hx, Bool.true_and] at hsame
            have HX := Lib.hid hx
            clear hx
            have HY := Lib.hid hsame.symm
            clear hsame
            rcases F with _ | _
            all_goals
              go_wp2_with fail
              refine (fullI_lit HF.out.1 (by omega) op.reads).mono ?_
              rintro e w2 ⟨rfl, bn⟩
              have bb := below_step bb bn
              have op := op.below bn
              go_wp2_with fail
              refine (fullS_lit HF.out.1 (by omega) op.reads).mono ?_
              rintro e w3 ⟨rfl, bn⟩
              have bb := below_step bb bn
              have op := op.below bn
              go_wp2_with fail
              refine (gives_is hp (specPicture_any ps _ _ op.reads)).mono ?_
              rintro e w4 ⟨rfl, bn⟩
              have bb := below_step bb bn
              have op := op.below bn
              go_wp2_with fail
              refine (rowsI_lit hr HR.out op.reads).mono ?_
              rintro e w5 ⟨v5, rfl, o5, bn⟩
              have bb := below_step bb bn
              have op := op.below bn
              go_wp2_with fail
              refine (colsI_lit hk HK.out op.reads).mono ?_
              rintro e w6 ⟨v6, rfl, o6, bn⟩
              have bb := below_step bb bn
              have op := op.below bn
              have o5 := o5.below bn
              go_wp2_with fail
              refine (gives_is HX.out (sameSpots_any _ _ _ _ _ o5.reads op.reads)).mono ?_
              rintro e w7 ⟨rfl, bn⟩
              have bb := below_step bb bn
              have op := op.below bn
              have o6 := o6.below bn
              clear o5
              go_wp2_with fail
              refine (gives_is HY.out (sameSpots_any _ _ _ _ _ o6.reads op.reads)).mono ?_
              rintro e w8 ⟨rfl, bn⟩
              have bb := below_step bb bn
              have op := op.below bn
              clear o6
              go_wp2_with fail
              refine (over_lit HO.out op.reads).mono ?_
              rintro e x1 ⟨y1, rfl, oo, bn⟩
              have bb := below_step bb bn
              have op := op.below bn
              go_wp2_with fail
              refine (fullI_lit HF.out.2 (by have := HL.out; omega) oo.reads).mono ?_
              rintro e x2 ⟨rfl, bn⟩
              have bb := below_step bb bn
              have op := op.below bn
              clear oo
              have oN := Owns.empty x2 0 (Nat.zero_le _)
              go_wp2_with fail
              refine (fullI_lit filled_nil (by simp) oN.reads).mono ?_
              rintro e x3 ⟨rfl, b3⟩
              go_wp2
              go_ret
              exact ⟨rfl, below_step bb (below_step ((Below.refl _ _).alloc (Nat.le_refl _) _) b3)⟩

set_option maxRecDepth 100000 in
theorem lifted (os : Os) (started : os.Started) (H : Type) (enc : TypeId × Value → H) :
    ReturnsInHanded {} Try.checked os 7 .any (Rows.fnFilledOkSpec.pre6 enc Try.prog Try.f7 Rows.fnFilledOkRow.domain false) (Rows.fnFilledOkSpec.post enc Try.prog Try.f7 false true false false) := by
  refine returnsInHanded_of_change (C := Try.checked) own started (by kernel_rfl) Try.func7
    (ChangeSpec.witness6 (enc := enc) (C := Try.checked) false ⟨#[], #[.slice none 0 0], []⟩ 8 (by kernel_rfl) (by kernel_rfl) (by kernel_rfl) (by kernel_rfl)) ?_
  intro W base args ds gs before hval0 hW _ _
  have hval : ∀ (j : Nat) t v, Try.f7.params[j]? = some t → args[j]? = some v → Value.okWide Try.prog W .any base t v := hval0
  have hW' := hW
  obtain ⟨p, q, hA0, hV, rfl, _, _⟩ := hW
  have hA : DataW.TrodAll enc Try.prog W 0 (fun _ => true) true Try.f7.params.toList args.toList ds p := hA0
  rw [Try.params7] at hA hval
  obtain ⟨v0, d0, rfl, rfl, h0⟩ := trodAll_one hA
  obtain ⟨rfl, rfl⟩ := trodVars_none hV
  clear hA0 hval0
  simp only [List.append_nil] at hW'
  have hlt : ∀ x ∈ p, x.block < W.heap.size := fun x hx => by simpa using hW'.lt x hx
  have r0 := open_bytes (hval 0 22 v0 rfl rfl) h0 hlt
  obtain ⟨⟨bA, bn, bc⟩, rfl, rb, rn, rc⟩ := r0
  simp only at rb rn rc
  refine (walk bA bn bc W rb rn rc).mono fun e W' hg => ?_
  obtain ⟨he, hb⟩ := hg
  subst he
  exact ⟨_, rfl, _, _, _, [], p, [], hW', trodAll_mk1 (shut_bool Try.underlying4 _), trodAll_mk1 (kept_arg (by kernel_rfl) (of_decide_eq_true (by kernel_rfl)) h0 hb hlt), rfl, hb.frame _, fun h => by cases h⟩

theorem holds : Rows.FnFilledOkSaid :=
  OpenClaim.holds_of_wide 7 Try.f7 rfl rfl rfl rfl rfl rfl rfl ⟨rfl, rfl, rfl, rfl, rfl⟩ rfl rfl rfl rfl rfl (by kernel_rfl) Try.func7 (by kernel_rfl)
    (of_decide_eq_true (by kernel_rfl)) (by unfold Func.isWrapper; first | (rw [if_pos (by decide +kernel)]; kernel_rfl) | (rw [if_neg (by decide +kernel)]; exact ⟨rfl, rfl⟩))
    (fun os started H enc _ => lifted os started H enc)
end Go.Proofs.Ytebgcmnajkophaa.fnFilledOk
