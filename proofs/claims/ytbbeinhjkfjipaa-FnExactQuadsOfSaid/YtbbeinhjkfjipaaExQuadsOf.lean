/-
  Proved: the exact law of QuadsOf (FnExactQuadsOf) returns true for every input, and its arguments read afterwards as they read before. No conditions.
-/
import Derived.Test.YtbbeinhjkfjipaaCellS
import Derived.Test.YtbbeinhjkfjipaaCellQ
import Derived.Test.YtbbeinhjkfjipaaCopy
import Derived.Test.YtbbeinhjkfjipaaOpen
namespace Go.Proofs.Ytbbeinhjkfjipaa.exQuadsOf
open Go.ChangeShapes Go.WideShapes Go.ChangeAt Go.RowKit

theorem impl_is {p : List Sp} {N M K : Int} {B : Bool} {v : Value} {w : World} (hN : quadA p = N) (hM : quadB p = M) (hK : quadC p = K) (hB : picB p = B) (h : Reads w w.heap.size v p) : Calls Try.prog 33 #[v] w (GivesQuad N M K B w) := by
  subst hN hM hK hB; exact implQuads_any p v w h
theorem spec_is {p : List Sp} {N M K : Int} {B : Bool} {v : Value} {w : World} (hN : quadA p = N) (hM : quadB p = M) (hK : quadC p = K) (hB : picB p = B) (h : Reads w w.heap.size v p) : Calls Try.prog 34 #[v] w (GivesQuad N M K B w) := by
  subst hN hM hK hB; exact specQuads_any p v w h
set_option maxRecDepth 100000 in
set_option maxHeartbeats 1600000 in
theorem walk (ps : List Sp) (v : Value) (w : World) (h : Reads w w.heap.size v ps) : Calls Try.prog 12 #[v] w (Gives (.bool true) w) := by
  obtain ⟨N, hN⟩ : ∃ N, quadA ps = N := ⟨_, rfl⟩
  obtain ⟨M, hM⟩ : ∃ M, quadB ps = M := ⟨_, rfl⟩
  obtain ⟨K, hK⟩ : ∃ K, quadC ps = K := ⟨_, rfl⟩
  obtain ⟨B, hB⟩ : ∃ B, picB ps = B := ⟨_, rfl⟩
  have H := Lib.hid (And.intro hN (And.intro hM (And.intro hK hB)))
  clear hN hM hK hB
  obtain ⟨A, c, rfl, hc, hm⟩ := h.slice
  unfold maxLen at hm
  by_cases hl : 1048576 < ps.length
  · go_enter Try.func12, Try.ntmps12
    go_wp2_with fail
    refine (szSpotS_yes ps.length c A 1048576 _ (by omega) (by omega) (by omega) (by omega)).mono ?_
    rintro e w1 ⟨rfl, b1⟩
    go_wp2
    go_ret
    exact ⟨rfl, b1⟩
  · go_enter Try.func12, Try.ntmps12
    go_wp2_with fail
    refine (szSpotS_no ps.length c A 1048576 _ (by omega) (by omega) (by omega) (by omega)).mono ?_
    rintro e w1 ⟨rfl, bb⟩
    go_wp2_with fail
    refine (toSpotS_any ps _ _ (h.kept bb) (by omega)).mono ?_
    rintro e w2 ⟨v2, rfl, o2, hb⟩
    have bb := below_step bb hb
    go_wp2_with fail
    refine (spec_is H.out.1 H.out.2.1 H.out.2.2.1 H.out.2.2.2 o2.reads).mono ?_
    rintro e w3 ⟨rfl, hb⟩
    have bb := below_step bb hb
    go_wp2_with fail
    refine (toSpotS_any ps _ _ (h.kept bb) (by omega)).mono ?_
    rintro e w4 ⟨v4, rfl, o4, hb⟩
    have bb := below_step bb hb
    go_wp2_with fail
    refine (impl_is H.out.1 H.out.2.1 H.out.2.2.1 H.out.2.2.2 o4.reads).mono ?_
    rintro e w5 ⟨rfl, hb⟩
    have o4 := o4.below hb
    have bb := below_step bb hb
    go_wp2_with fail
    refine (toSpotS_any ps _ _ (h.kept bb) (by omega)).mono ?_
    rintro e w6 ⟨v6, rfl, o6, hb⟩
    have o4 := o4.below hb
    have bb := below_step bb hb
    go_wp2_with fail
    refine (gives_is (show decide (ps = ps) = true by simp) (eqSpotS_any ps ps _ _ _ o4.reads o6.reads)).mono ?_
    rintro e w7 ⟨rfl, hb⟩
    have bb := below_step bb hb
    go_wp2
    go_ret
    exact ⟨rfl, bb⟩
set_option maxRecDepth 100000 in
theorem lifted (os : Os) (started : os.Started) (H : Type) (enc : TypeId × Value → H) :
    ReturnsInHanded {} Try.checked os 12 .any (Rows.fnExactQuadsOfSpec.pre6 enc Try.prog Try.f12 Rows.fnExactQuadsOfRow.domain false) (Rows.fnExactQuadsOfSpec.post enc Try.prog Try.f12 false true false false) := by
  refine returnsInHanded_of_change (C := Try.checked) own started (by kernel_rfl) Try.func12
    (ChangeSpec.witness6 (enc := enc) (C := Try.checked) false ⟨#[], #[.slice none 0 0], []⟩ 8 (by kernel_rfl) (by kernel_rfl) (by kernel_rfl) (by kernel_rfl)) ?_
  intro W base args ds gs before hval0 hW _ _
  have hval : ∀ (j : Nat) t v, Try.f12.params[j]? = some t → args[j]? = some v → Value.okWide Try.prog W .any base t v := hval0
  have hW' := hW
  obtain ⟨p, q, hA0, hV, rfl, _, _⟩ := hW
  have hA : DataW.TrodAll enc Try.prog W 0 (fun _ => true) true Try.f12.params.toList args.toList ds p := hA0
  rw [Try.params12] at hA hval
  obtain ⟨v0, d0, rfl, rfl, h0⟩ := trodAll_one hA
  obtain ⟨rfl, rfl⟩ := trodVars_none hV
  clear hA0 hval0
  simp only [List.append_nil] at hW'
  have hlt : ∀ x ∈ p, x.block < W.heap.size := fun x hx => by simpa using hW'.lt x hx
  have r0 := open_lspots (hval 0 40 v0 rfl rfl) h0 hlt
  obtain ⟨ps0, r0⟩ := r0
  refine (walk ps0 v0 W r0).mono fun e W' hg => ?_
  obtain ⟨he, hb⟩ := hg
  subst he
  exact ⟨_, rfl, _, _, _, [], p, [], hW', trodAll_mk1 (shut_bool Try.underlying4 _), trodAll_mk1 (kept_arg (by kernel_rfl) (of_decide_eq_true (by kernel_rfl)) h0 hb hlt), rfl, hb.frame _, fun h => by cases h⟩

theorem holds : Rows.FnExactQuadsOfSaid :=
  OpenClaim.holds_of_wide 12 Try.f12 rfl rfl rfl rfl rfl rfl rfl ⟨rfl, rfl, rfl, rfl, rfl⟩ rfl rfl rfl rfl rfl (by kernel_rfl) Try.func12 (by kernel_rfl)
    (of_decide_eq_true (by kernel_rfl)) (by unfold Func.isWrapper; first | (rw [if_pos (by decide +kernel)]; kernel_rfl) | (rw [if_neg (by decide +kernel)]; exact ⟨rfl, rfl⟩))
    (fun os started H enc _ => lifted os started H enc)
end Go.Proofs.Ytbbeinhjkfjipaa.exQuadsOf
