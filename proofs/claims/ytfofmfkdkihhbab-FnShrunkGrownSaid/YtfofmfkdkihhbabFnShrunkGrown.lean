/-
  Proved: the law of ShrunkGrown (FnShrunkGrown) returns true for every code, and the code reads afterwards as it read before. No conditions.
-/
import Derived.Test.YtfofmfkdkihhbabDraws3
import Derived.Test.YtfofmfkdkihhbabShrinkQ
import Derived.Test.YtfofmfkdkihhbabShrinkI
import Derived.Test.YtfofmfkdkihhbabOpen
namespace Go.Proofs.Ytfofmfkdkihhbab.fnShrunkGrown
open Go.ChangeShapes Go.WideShapes Go.ChangeAt Go.RowKit

theorem impl_is {b : Bool} {p q : List Sp} {v u : Value} {w : World} (hk : shrunkGrownOk p q = b) (h : Reads w w.heap.size v p) (k : Reads w w.heap.size u q) : Calls Try.prog 29 #[v, u] w (Gives2' (shrunkGrownR p q) b w) := by
  subst hk; exact implShrunkGrown_any p q v u w h k
theorem spec_is {b : Bool} {p q : List Sp} {v u : Value} {w : World} (hk : shrunkGrownOk p q = b) (h : Reads w w.heap.size v p) (k : Reads w w.heap.size u q) : Calls Try.prog 30 #[v, u] w (Gives2' (shrunkGrownR p q) b w) := by
  subst hk; exact specShrunkGrown_any p q v u w h k
set_option maxHeartbeats 800000 in
theorem walk (A : Option Addr) (n c : Nat) (w : World) (hb : Bytes w w.heap.size A n) (hn : n ≤ c) (hc : c ≤ 9223372036854775807) :
    Calls Try.prog 7 #[.slice A n c] w (Gives (.bool true) w) := by
  by_cases hbig : 1048576 < n
  · go_enter Try.func7, Try.ntmps7
    go_wp2
    go_ret
    exact ⟨rfl, Below.refl _ _⟩
  · go_enter Try.func7, Try.ntmps7
    go_wp2_with fail
    refine (drawShrunkGrown_any A n c _ hb hn hc).mono ?_
    rintro e w1 ⟨vp, ps, vq, qs, rfl, Dp, Dq⟩
    have bb := Dp.below
    have rp := Dp.own.reads
    have rq := Dq.own.reads
    obtain ⟨Ap, cp, rfl, hcp, hmp⟩ := rp.slice
    obtain ⟨Aq, cq, rfl, hcq, hmq⟩ := rq.slice
    unfold maxLen at hmp hmq
    clear Dp Dq
    rcases hk : shrunkGrownOk ps qs with _ | _
    all_goals
      go_wp2_with fail
      refine (impl_is hk rp rq).mono ?_
      rintro e w2 ⟨vs, rfl, os, b2⟩
      have bb2 := below_step bb b2
      go_wp2_with fail
      refine (spec_is hk (rp.kept b2) (rq.kept b2)).mono ?_
      rintro e w3 ⟨vx, rfl, ox, b3⟩
      have bb3 := below_step bb2 b3
      have os3 := os.below b3
      have rp3 := (rp.kept b2).kept b3
      have rq3 := (rq.kept b2).kept b3
      clear os rp rq b2 b3
    · rw [shrunkGrownR_no hk] at os3 ox
      obtain ⟨As, cs, rfl, _, _⟩ := os3.reads.slice
      clear hk
      go_wp2_with fail
      refine (gives_is (show decide (([] : List Sp) = []) = true by simp) (sameSpots_any _ _ _ _ _ os3.reads ox.reads)).mono ?_
      rintro e w4 ⟨rfl, b4⟩
      have bb4 := below_step bb3 b4
      go_wp2_with fail
      refine (alive_any _).mono ?_
      rintro e w5 ⟨rfl, b5⟩
      go_wp2
      go_ret
      exact ⟨rfl, below_step bb4 b5⟩
    · have hA := Lib.hid (shrunkGrown_again hk)
      have hI := Lib.hid (shrunkGrown_in hk)
      clear hk
      go_wp2_with fail
      refine (gives_is (show decide (shrunkGrownR ps qs = shrunkGrownR ps qs) = true by simp) (sameSpots_any _ _ _ _ _ os3.reads ox.reads)).mono ?_
      rintro e w4 ⟨rfl, b4⟩
      have bb4 := below_step bb3 b4
      have os4 := os3.below b4
      have rp4 := rp3.kept b4
      have rq4 := rq3.kept b4
      clear os3 rp3 rq3 b4 ox
      go_wp2_with fail
      refine (impl_is hA.out.1 os4.reads rq4).mono ?_
      rintro e w5 ⟨va, rfl, oa, b5⟩
      rw [hA.out.2] at oa
      have bb5 := below_step bb4 b5
      have os5 := os4.below b5
      have rp5 := rp4.kept b5
      clear os4 rp4 rq4 b5 hA
      go_wp2_with fail
      refine (gives_is hI.out (implWithin_any _ _ _ _ _ os5.reads rp5)).mono ?_
      rintro e w6 ⟨rfl, b6⟩
      have bb6 := below_step bb5 b6
      have os6 := os5.below b6
      have oa6 := oa.below b6
      clear os5 rp5 oa b6 hI
      go_wp2_with fail
      refine (gives_is (show decide (shrunkGrownR ps qs = shrunkGrownR ps qs) = true by simp) (sameSpots_any _ _ _ _ _ oa6.reads os6.reads)).mono ?_
      rintro e w7 ⟨rfl, b7⟩
      have bb7 := below_step bb6 b7
      go_wp2_with fail
      refine (alive_any _).mono ?_
      rintro e w8 ⟨rfl, b8⟩
      go_wp2
      go_ret
      exact ⟨rfl, below_step bb7 b8⟩
set_option maxRecDepth 100000 in
theorem lifted (os : Os) (started : os.Started) (H : Type) (enc : TypeId × Value → H) :
    ReturnsInHanded {} Try.checked os 7 .any (Rows.fnShrunkGrownSpec.pre6 enc Try.prog Try.f7 Rows.fnShrunkGrownRow.domain false) (Rows.fnShrunkGrownSpec.post enc Try.prog Try.f7 false true false false) := by
  refine returnsInHanded_of_change (C := Try.checked) own started (by kernel_rfl) Try.func7
    (ChangeSpec.witness6 (enc := enc) (C := Try.checked) false ⟨#[], #[.slice none 0 0], []⟩ 8 (by kernel_rfl) (by kernel_rfl) (by kernel_rfl) (by kernel_rfl)) ?_
  intro W base args ds gs before hval0 hW _ _
  have hval : ∀ (j : Nat) t v, Try.f7.params[j]? = some t → args[j]? = some v → Value.okWide Try.prog W .any base t v := hval0
  have hW' := hW
  obtain ⟨p, q, hA0, hV, rfl, _, _⟩ := hW
  have hA : DataW.TrodAll enc Try.prog W 0 (fun _ => true) true Try.f7.params.toList args.toList ds p := hA0
  rw [Try.params7] at hA hval
  obtain ⟨v0, d0, rfl, rfl, h0⟩ := trodAll_one hA
  obtain ⟨rfl, rfl⟩ := trodVars_none hV
  clear hA0 hval0
  simp only [List.append_nil] at hW'
  have hlt : ∀ x ∈ p, x.block < W.heap.size := fun x hx => by simpa using hW'.lt x hx
  have r0 := open_bytes (hval 0 22 v0 rfl rfl) h0 hlt
  obtain ⟨⟨bA, bn, bc⟩, rfl, rb, rn, rc⟩ := r0
  simp only at rb rn rc
  refine (walk bA bn bc W rb rn rc).mono fun e W' hg => ?_
  obtain ⟨he, hb⟩ := hg
  subst he
  exact ⟨_, rfl, _, _, _, [], p, [], hW', trodAll_mk1 (shut_bool Try.underlying4 _), trodAll_mk1 (kept_arg (by kernel_rfl) (of_decide_eq_true (by kernel_rfl)) h0 hb hlt), rfl, hb.frame _, fun h => by cases h⟩

theorem holds : Rows.FnShrunkGrownSaid :=
  OpenClaim.holds_of_wide 7 Try.f7 rfl rfl rfl rfl rfl rfl rfl ⟨rfl, rfl, rfl, rfl, rfl⟩ rfl rfl rfl rfl rfl (by kernel_rfl) Try.func7 (by kernel_rfl)
    (of_decide_eq_true (by kernel_rfl)) (by unfold Func.isWrapper; first | (rw [if_pos (by decide +kernel)]; kernel_rfl) | (rw [if_neg (by decide +kernel)]; exact ⟨rfl, rfl⟩))
    (fun os started H enc _ => lifted os started H enc)
end Go.Proofs.Ytfofmfkdkihhbab.fnShrunkGrown
