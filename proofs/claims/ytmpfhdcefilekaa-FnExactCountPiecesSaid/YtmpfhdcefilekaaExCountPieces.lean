/-
  Proved: the exact law of CountPieces (FnExactCountPieces) returns true for every input, and its arguments read afterwards as they read before. No conditions.
-/
import Derived.Test.YtmpfhdcefilekaaPieceS
import Derived.Test.YtmpfhdcefilekaaJoinI
import Derived.Test.YtmpfhdcefilekaaCopy
import Derived.Test.YtmpfhdcefilekaaOpen
namespace Go.Proofs.Ytmpfhdcefilekaa.exCountPieces
open Go.ChangeShapes Go.WideShapes Go.ChangeAt Go.RowKit

set_option maxRecDepth 100000 in
set_option maxHeartbeats 800000 in
theorem walk (p : List Sp) (v : Value) (b : Bool) (w : World) (h : Reads w w.heap.size v p) : Calls Try.prog 10 #[v, .bool b] w (Gives (.bool true) w) := by
  obtain ⟨A, c, rfl, hc, hm⟩ := h.slice
  unfold maxLen at hm
  by_cases hl : 1048576 < p.length
  · go_enter Try.func10, Try.ntmps10
    go_wp2_with fail
    refine (szSpotS_yes p.length c A 1048576 _ (by omega) (by omega) (by omega) (by omega)).mono ?_
    rintro e w1 ⟨rfl, b1⟩
    go_wp2
    go_ret
    exact ⟨rfl, b1⟩
  · go_enter Try.func10, Try.ntmps10
    go_wp2_with fail
    refine (szSpotS_no p.length c A 1048576 _ (by omega) (by omega) (by omega) (by omega)).mono ?_
    rintro e w1 ⟨rfl, bb⟩
    go_wp2_with fail
    refine (toSpotS_any p _ _ (h.kept bb) (by omega)).mono ?_
    rintro e w2 ⟨v2, rfl, o2, hb⟩
    have bb := below_step bb hb
    go_wp2_with fail
    refine (specCount7_any b p _ _ o2.reads).mono ?_
    rintro e w3 ⟨rfl, hb⟩
    have bb := below_step bb hb
    go_wp2_with fail
    refine (toSpotS_any p _ _ (h.kept bb) (by omega)).mono ?_
    rintro e w4 ⟨v4, rfl, o4, hb⟩
    have bb := below_step bb hb
    go_wp2_with fail
    refine (implCount7_any b p _ _ o4.reads).mono ?_
    rintro e w5 ⟨rfl, hb⟩
    have o4 := o4.below hb
    have bb := below_step bb hb
    go_wp2_with fail
    refine (toSpotS_any p _ _ (h.kept bb) (by omega)).mono ?_
    rintro e w6 ⟨v6, rfl, o6, hb⟩
    have o4 := o4.below hb
    have bb := below_step bb hb
    go_wp2_with fail
    refine (gives_is (show decide (p = p) = true by simp) (eqSpotS_any p p _ _ _ o4.reads o6.reads)).mono ?_
    rintro e w7 ⟨rfl, hb⟩
    have bb := below_step bb hb
    go_wp2
    go_ret
    exact ⟨rfl, bb⟩
set_option maxRecDepth 100000 in
theorem lifted (os : Os) (started : os.Started) (H : Type) (enc : TypeId × Value → H) :
    ReturnsInHanded {} Try.checked os 10 .any (Rows.fnExactCountPiecesSpec.pre6 enc Try.prog Try.f10 Rows.fnExactCountPiecesRow.domain false) (Rows.fnExactCountPiecesSpec.post enc Try.prog Try.f10 false true false false) := by
  refine returnsInHanded_of_change (C := Try.checked) own started (by kernel_rfl) Try.func10
    (ChangeSpec.witness6 (enc := enc) (C := Try.checked) false ⟨#[], #[.slice none 0 0, .bool false], []⟩ 8 (by kernel_rfl) (by kernel_rfl) (by kernel_rfl) (by kernel_rfl)) ?_
  intro W base args ds gs before hval0 hW _ _
  have hval : ∀ (j : Nat) t v, Try.f10.params[j]? = some t → args[j]? = some v → Value.okWide Try.prog W .any base t v := hval0
  have hW' := hW
  obtain ⟨p, q, hA0, hV, rfl, _, _⟩ := hW
  have hA : DataW.TrodAll enc Try.prog W 0 (fun _ => true) true Try.f10.params.toList args.toList ds p := hA0
  rw [Try.params10] at hA hval
  obtain ⟨v0, v1, d0, d1, p0, p1, rfl, rfl, rfl, h0, h1⟩ := trodAll_two hA
  obtain ⟨rfl, rfl⟩ := trodVars_none hV
  clear hA0 hval0
  simp only [List.append_nil] at hW'
  have hlt : ∀ x ∈ p0 ++ p1, x.block < W.heap.size := fun x hx => by simpa using hW'.lt x hx
  have hlt0 : ∀ x ∈ p0, x.block < W.heap.size := fun x hx => hlt x (List.mem_append_left _ hx)
  have hlt1 : ∀ x ∈ p1, x.block < W.heap.size := fun x hx => hlt x (List.mem_append_right _ hx)
  obtain ⟨ps0, r0⟩ := open_lspots (hval 0 47 v0 rfl rfl) h0 hlt0
  obtain ⟨x1, rfl, _, _⟩ := open_bool Try.underlying4 (hval 1 4 v1 rfl rfl) h1
  refine (walk ps0 v0 x1 W r0).mono fun e W' hg => ?_
  obtain ⟨he, hb⟩ := hg
  subst he
  exact ⟨_, rfl, _, _, _, [], p0 ++ p1, [], hW', trodAll_mk1 (shut_bool Try.underlying4 _), trodAll_mk2 (kept_arg (by kernel_rfl) (of_decide_eq_true (by kernel_rfl)) h0 hb hlt0) (kept_arg (by kernel_rfl) (of_decide_eq_true (by kernel_rfl)) h1 hb hlt1), rfl, hb.frame _, fun h => by cases h⟩

theorem holds : Rows.FnExactCountPiecesSaid :=
  OpenClaim.holds_of_wide 10 Try.f10 rfl rfl rfl rfl rfl rfl rfl ⟨rfl, rfl, rfl, rfl, rfl⟩ rfl rfl rfl rfl rfl (by kernel_rfl) Try.func10 (by kernel_rfl)
    (of_decide_eq_true (by kernel_rfl)) (by unfold Func.isWrapper; first | (rw [if_pos (by decide +kernel)]; kernel_rfl) | (rw [if_neg (by decide +kernel)]; exact ⟨rfl, rfl⟩))
    (fun os started H enc _ => lifted os started H enc)
end Go.Proofs.Ytmpfhdcefilekaa.exCountPieces
