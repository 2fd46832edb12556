/-
  Proved: the law of ReachedOf (FnReachedOf) returns true for every code, and the code reads afterwards as it read before. No conditions.
-/
import Derived.Test.YtmpfhdcefilekaaDraws7
import Derived.Test.YtmpfhdcefilekaaReachS
import Derived.Test.YtmpfhdcefilekaaPieceI
import Derived.Test.YtmpfhdcefilekaaLaw7
import Derived.Test.YtmpfhdcefilekaaEq
import Derived.Test.YtmpfhdcefilekaaOpen
namespace Go.Proofs.Ytmpfhdcefilekaa.fnReachedOf
open Go.ChangeShapes Go.WideShapes Go.ChangeAt Go.RowKit

theorem impl_lit {b e : Bool} {r ps ms : List Sp} {v u : Value} {w : World} (hk : withinB ms ps = b) (hr : reachR e ps ms = r) (h : Reads w w.heap.size v ps) (k : Reads w w.heap.size u ms) : Calls Try.prog 14 #[v, u, .bool e] w (Gives2' r b w) := by
  subst hk hr; exact implReached_any e ps ms v u w h k
theorem spec_lit {b e : Bool} {r ps ms : List Sp} {v u : Value} {w : World} (hk : withinB ms ps = b) (hr : reachR e ps ms = r) (h : Reads w w.heap.size v ps) (k : Reads w w.heap.size u ms) : Calls Try.prog 15 #[v, u, .bool e] w (Gives2' r b w) := by
  subst hk hr; exact specReached_any e ps ms v u w h k
theorem within_lit {b : Bool} {p q : List Sp} {v u : Value} {w : World} (hk : withinB p q = b) (h : Reads w w.heap.size v p) (h' : Reads w w.heap.size u q) : Calls Try.prog 18 #[v, u] w (Gives (.bool b) w) := by
  subst hk; exact implWithin_any p q v u w h h'
set_option maxRecDepth 100000 in
set_option maxHeartbeats 3200000 in
theorem walk (A : Option Addr) (n c : Nat) (w : World) (hb : Bytes w w.heap.size A n) (hn : n ≤ c) (hc : c ≤ 9223372036854775807) :
    Calls Try.prog 3 #[.slice A n c] w (Gives (.bool true) w) := by
  by_cases hbig : 1048576 < n
  · go_enter Try.func3, Try.ntmps3
    go_wp2
    go_ret
    exact ⟨rfl, Below.refl _ _⟩
  · go_enter Try.func3, Try.ntmps3
    go_wp2_with fail
    refine (drawReachedOf_any A n c _ hb hn hc).mono ?_
    rintro e w1 ⟨v, u, ps, ms, b, rfl, op, om, hpl, hml, bb⟩
    obtain ⟨Ap, cp, rfl, _, _⟩ := op.reads.slice
    obtain ⟨Am, cm, rfl, _, _⟩ := om.reads.slice
    clear hb hn hc
    rcases hw : withinB ms ps with _ | _
    · have HW := Lib.hid (And.intro hw (reachR_no (e := b) hw))
      clear hw
      go_wp2_with fail
      refine (impl_lit HW.out.1 HW.out.2 op.reads om.reads).mono ?_
      rintro e w2 ⟨vs, rfl, os, bn⟩
      have bb := below_step bb bn
      have op := op.below bn
      have om := om.below bn
      go_wp2_with fail
      refine (spec_lit HW.out.1 HW.out.2 op.reads om.reads).mono ?_
      rintro e w3 ⟨vx, rfl, ox, bn⟩
      have bb := below_step bb bn
      have os := os.below bn
      obtain ⟨As, cs, rfl, _, _⟩ := os.reads.slice
      go_wp2_with fail
      refine (gives_is (show decide (([] : List Sp) = []) = true by simp) (sameSpots_any _ _ _ _ _ os.reads ox.reads)).mono ?_
      rintro e w4 ⟨rfl, bn⟩
      have bb := below_step bb bn
      go_wp2_with fail
      refine (alive_any _).mono ?_
      rintro e w5 ⟨rfl, bn⟩
      have bb := below_step bb bn
      go_wp2
      go_ret
      exact ⟨rfl, bb⟩
    · have H7 := Lib.hid (reached7 (e := b) hw)
      have HW := Lib.hid hw
      obtain ⟨s, hs⟩ : ∃ s, reachL b ps ms = s := ⟨_, rfl⟩
      obtain ⟨f, hf⟩ : ∃ s, reachL false ps ms = s := ⟨_, rfl⟩
      obtain ⟨a, ha⟩ : ∃ s, reachL true ps ms = s := ⟨_, rfl⟩
      have K : reachR b ps ms = s ∧ reachR false ps ms = f ∧ reachR true ps ms = a ∧ reachR b ps s = s ∧ withinB ms s = true ∧ withinB s ps = true ∧ withinB f a = true := by
        have h := H7.out
        rw [← hs, ← hf, ← ha]
        exact ⟨h.s, h.f, h.a, h.again, h.w1, h.w2, h.w3⟩
      have HK := Lib.hid K
      clear hw hs hf ha K H7
      go_wp2_with fail
      refine (impl_lit HW.out HK.out.1 op.reads om.reads).mono ?_
      rintro e w2 ⟨vs, rfl, os, bn⟩
      have bb := below_step bb bn
      have op := op.below bn
      have om := om.below bn
      go_wp2_with fail
      refine (spec_lit HW.out HK.out.1 op.reads om.reads).mono ?_
      rintro e w3 ⟨vx, rfl, ox, bn⟩
      have bb := below_step bb bn
      have op := op.below bn
      have om := om.below bn
      have os := os.below bn
      obtain ⟨As, cs, rfl, _, _⟩ := os.reads.slice
      go_wp2_with fail
      refine (gives_is (show decide (s = s) = true by simp) (sameSpots_any _ _ _ _ _ os.reads ox.reads)).mono ?_
      rintro e w4 ⟨rfl, bn⟩
      have bb := below_step bb bn
      have op := op.below bn
      have om := om.below bn
      have os := os.below bn
      clear ox bn
      go_wp2_with fail
      refine (impl_lit HK.out.2.2.2.2.2.1 HK.out.2.2.2.1 op.reads os.reads).mono ?_
      rintro e w5 ⟨vg, rfl, og, bn⟩
      have bb := below_step bb bn
      have op := op.below bn
      have om := om.below bn
      have os := os.below bn
      obtain ⟨Ag, cg, rfl, _, _⟩ := og.reads.slice
      clear bn
      go_wp2_with fail
      refine (impl_lit HW.out HK.out.2.1 op.reads om.reads).mono ?_
      rintro e w6 ⟨vf, rfl, of, bn⟩
      have bb := below_step bb bn
      have op := op.below bn
      have om := om.below bn
      have os := os.below bn
      have og := og.below bn
      obtain ⟨Af, cf, rfl, _, _⟩ := of.reads.slice
      clear bn
      go_wp2_with fail
      refine (impl_lit HW.out HK.out.2.2.1 op.reads om.reads).mono ?_
      rintro e w7 ⟨va, rfl, oa, bn⟩
      have bb := below_step bb bn
      have op := op.below bn
      have om := om.below bn
      have os := os.below bn
      have og := og.below bn
      have of := of.below bn
      obtain ⟨Aa, ca, rfl, _, _⟩ := oa.reads.slice
      clear bn
      go_wp2_with fail
      refine (within_lit HK.out.2.2.2.2.1 om.reads os.reads).mono ?_
      rintro e w8 ⟨rfl, bn⟩
      have bb := below_step bb bn
      have op := op.below bn
      have os := os.below bn
      have og := og.below bn
      have of := of.below bn
      have oa := oa.below bn
      clear bn om
      go_wp2_with fail
      refine (within_lit HK.out.2.2.2.2.2.1 os.reads op.reads).mono ?_
      rintro e w9 ⟨rfl, bn⟩
      have bb := below_step bb bn
      have os := os.below bn
      have og := og.below bn
      have of := of.below bn
      have oa := oa.below bn
      clear bn op
      go_wp2_with fail
      refine (gives_is (show decide (s = s) = true by simp) (sameSpots_any _ _ _ _ _ og.reads os.reads)).mono ?_
      rintro e w10 ⟨rfl, bn⟩
      have bb := below_step bb bn
      have of := of.below bn
      have oa := oa.below bn
      clear bn os og
      go_wp2_with fail
      refine (within_lit HK.out.2.2.2.2.2.2 of.reads oa.reads).mono ?_
      rintro e w11 ⟨rfl, bn⟩
      have bb := below_step bb bn
      clear bn of oa
      go_wp2_with fail
      refine (alive_any _).mono ?_
      rintro e w12 ⟨rfl, bn⟩
      have bb := below_step bb bn
      go_wp2
      go_ret
      exact ⟨rfl, bb⟩
set_option maxRecDepth 100000 in
theorem lifted (os : Os) (started : os.Started) (H : Type) (enc : TypeId × Value → H) :
    ReturnsInHanded {} Try.checked os 3 .any (Rows.fnReachedOfSpec.pre6 enc Try.prog Try.f3 Rows.fnReachedOfRow.domain false) (Rows.fnReachedOfSpec.post enc Try.prog Try.f3 false true false false) := by
  refine returnsInHanded_of_change (C := Try.checked) own started (by kernel_rfl) Try.func3
    (ChangeSpec.witness6 (enc := enc) (C := Try.checked) false ⟨#[], #[.slice none 0 0], []⟩ 8 (by kernel_rfl) (by kernel_rfl) (by kernel_rfl) (by kernel_rfl)) ?_
  intro W base args ds gs before hval0 hW _ _
  have hval : ∀ (j : Nat) t v, Try.f3.params[j]? = some t → args[j]? = some v → Value.okWide Try.prog W .any base t v := hval0
  have hW' := hW
  obtain ⟨p, q, hA0, hV, rfl, _, _⟩ := hW
  have hA : DataW.TrodAll enc Try.prog W 0 (fun _ => true) true Try.f3.params.toList args.toList ds p := hA0
  rw [Try.params3] at hA hval
  obtain ⟨v0, d0, rfl, rfl, h0⟩ := trodAll_one hA
  obtain ⟨rfl, rfl⟩ := trodVars_none hV
  clear hA0 hval0
  simp only [List.append_nil] at hW'
  have hlt : ∀ x ∈ p, x.block < W.heap.size := fun x hx => by simpa using hW'.lt x hx
  have r0 := open_bytes (hval 0 22 v0 rfl rfl) h0 hlt
  obtain ⟨⟨bA, bn, bc⟩, rfl, rb, rn, rc⟩ := r0
  simp only at rb rn rc
  refine (walk bA bn bc W rb rn rc).mono fun e W' hg => ?_
  obtain ⟨he, hb⟩ := hg
  subst he
  exact ⟨_, rfl, _, _, _, [], p, [], hW', trodAll_mk1 (shut_bool Try.underlying4 _), trodAll_mk1 (kept_arg (by kernel_rfl) (of_decide_eq_true (by kernel_rfl)) h0 hb hlt), rfl, hb.frame _, fun h => by cases h⟩

theorem holds : Rows.FnReachedOfSaid :=
  OpenClaim.holds_of_wide 3 Try.f3 rfl rfl rfl rfl rfl rfl rfl ⟨rfl, rfl, rfl, rfl, rfl⟩ rfl rfl rfl rfl rfl (by kernel_rfl) Try.func3 (by kernel_rfl)
    (of_decide_eq_true (by kernel_rfl)) (by unfold Func.isWrapper; first | (rw [if_pos (by decide +kernel)]; kernel_rfl) | (rw [if_neg (by decide +kernel)]; exact ⟨rfl, rfl⟩))
    (fun os started H enc _ => lifted os started H enc)
end Go.Proofs.Ytmpfhdcefilekaa.fnReachedOf
