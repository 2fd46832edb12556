/-
  Proved: the exact law of HolesOf (FnExactHolesOf) returns true for every input, and its arguments read afterwards as they read before. No conditions.
-/
import Derived.Test.YtmpfhdcefilekaaHoleS
import Derived.Test.YtmpfhdcefilekaaFillI
import Derived.Test.YtmpfhdcefilekaaPartsL
import Derived.Test.YtmpfhdcefilekaaOpen
namespace Go.Proofs.Ytmpfhdcefilekaa.exHolesOf
open Go.ChangeShapes Go.WideShapes Go.ChangeAt Go.RowKit

theorem sum_ok (ps : List Sp) : ((holesR ps).map List.length).sum ≤ 1000000 := by
  rcases hp : picB ps with _ | _
  · rw [show holesR ps = [] by unfold holesR; rw [hp]; rfl]; simp
  · rw [holesR_yes hp]
    have := holes_sum hp
    omega
set_option maxRecDepth 100000 in
set_option maxHeartbeats 1600000 in
theorem walk (ps : List Sp) (v : Value) (w : World) (h : Reads w w.heap.size v ps) : Calls Try.prog 11 #[v] w (Gives (.bool true) w) := by
  obtain ⟨A, c, rfl, hc, hm⟩ := h.slice
  unfold maxLen at hm
  by_cases hl : 1048576 < ps.length
  · go_enter Try.func11, Try.ntmps11
    go_wp2_with fail
    refine (szSpotS_yes ps.length c A 1048576 _ (by omega) (by omega) (by omega) (by omega)).mono ?_
    rintro e w1 ⟨rfl, b1⟩
    go_wp2
    go_ret
    exact ⟨rfl, b1⟩
  · have hT := sum_ok ps
    go_enter Try.func11, Try.ntmps11
    go_wp2_with fail
    refine (szSpotS_no ps.length c A 1048576 _ (by omega) (by omega) (by omega) (by omega)).mono ?_
    rintro e w1 ⟨rfl, b1⟩
    have bb := b1
    go_wp2_with fail
    refine (toSpotS_any ps _ _ ((h.below bb).more bb.size) (by omega)).mono ?_
    rintro e w2 ⟨v2, rfl, o2, bn⟩
    have bb := below_step bb bn
    clear bn b1
    go_wp2_with fail
    refine (specHoles_any ps _ _ o2.reads).mono ?_
    rintro e w3 ⟨vw, rfl, ow, b3⟩
    have bb := below_step bb b3
    have pw := ow.bound
    have hb3 := bb.size
    clear o2 b3 ow
    go_wp2_with fail
    refine (toSpotS_any ps _ _ ((h.below bb).more bb.size) (by omega)).mono ?_
    rintro e w4 ⟨vx, rfl, ox, bn⟩
    have hxl : ∀ k, vx.ownBlock = some k → w3.heap.size ≤ k ∧ k < w4.heap.size := ox.lt
    have pw := pw.keep bn
    have hq := bn.size
    have hq34 := bn.size
    have bb := below_step bb bn
    clear bn
    go_wp2_with fail
    refine (implHoles_any ps _ _ ox.reads).mono ?_
    rintro e w5 ⟨vg, rfl, og, bn⟩
    have hs4 := bn.size
    have ox := ox.below bn
    have pw := pw.keep (bn.mono hq)
    have hq := Nat.le_trans hq bn.size
    have bb := below_step bb bn
    clear bn
    go_wp2_with fail
    refine (gives_is (show decide (holesR ps = holesR ps) = true by simp) (eqSpotSS_any _ _ _ _ _ og.reads pw.reads)).mono ?_
    rintro e w6 ⟨rfl, bn⟩
    have hs4 := Nat.le_trans hs4 bn.size
    have ox := ox.below bn
    have og := og.below bn
    have pw := pw.keep ((bn).mono hq)
    have hq := Nat.le_trans hq (bn).size
    have bb := below_step bb bn
    clear bn
    go_wp2_with fail
    refine (toSpotS_any ps _ _ ((h.below bb).more bb.size) (by omega)).mono ?_
    rintro e w7 ⟨v7, rfl, o7, bn⟩
    have hs4 := Nat.le_trans hs4 bn.size
    have ox := ox.below bn
    have og := og.below bn
    have pw := pw.keep ((bn).mono hq)
    have hq := Nat.le_trans hq (bn).size
    have bb := below_step bb bn
    clear bn
    go_wp2_with fail
    refine (gives_is (show decide (ps = ps) = true by simp) (eqSpotS_any _ _ _ _ _ ox.reads o7.reads)).mono ?_
    rintro e w8 ⟨rfl, bn⟩
    clear o7
    have hs4 := Nat.le_trans hs4 bn.size
    have ox := ox.below bn
    have og := og.below bn
    have pw := pw.keep ((bn).mono hq)
    have hq := Nat.le_trans hq (bn).size
    have bb := below_step bb bn
    clear bn
    go_wp2_with fail
    refine (mark_any ps _ _ 1 _ ox (by omega) (by omega) (by omega)).mono ?_
    rintro e w9 ⟨rfl, ox9, g9⟩
    have hbw3 : w.heap.size ≤ w3.heap.size := hb3
    have bb9 := bb.grown g9 bb.size (fun k hk => Nat.le_trans hbw3 (hxl k hk).1)
    have pw9 := pw.keep ((Below.refl w3.heap.size _).grown g9 hq (fun k hk => (hxl k hk).1))
    have og9 := og.grownLow g9 (fun k hk => (hxl k hk).2)
    have hq9 := Nat.le_trans hq g9.size
    have hs9 := Nat.le_trans hs4 g9.size
    clear bb pw og ox ox9 g9 hq hs4
    go_wp2_with fail
    refine (gives_is (show decide (holesR ps = holesR ps) = true by simp) (eqSpotSS_any _ _ _ _ _ og9.reads pw9.reads)).mono ?_
    rintro e w10 ⟨rfl, bn⟩
    have og10 := og9.below bn
    have pw10 := pw9.keep (bn.mono hq9)
    have hq10 := Nat.le_trans hq9 bn.size
    have hs10 := Nat.le_trans hs9 bn.size
    have bb10 := below_step bb9 bn
    clear bn og9 pw9 hq9 hs9 bb9
    obtain ⟨Ag, cg, rfl, _, _⟩ := og10.reads.slice
    go_wp2_with fail
    refine (markSS_any (holesR ps) _ w4.heap.size 1 _ og10 hs10 hT (by omega) (by omega)).mono ?_
    rintro e w11 ⟨rfl, og11, b11⟩
    have pw11 := pw10.keep (b11.mono hq34)
    have bb11 := bb10.trans (b11.mono (Nat.le_trans hbw3 hq34))
    have hq11 := Nat.le_trans hq34 (Nat.le_trans hs10 b11.size)
    clear og10 pw10 hq10 bb10 b11
    go_wp2_with fail
    refine (heldSS_any (holesR ps) _ 1 _ og11.reads hT (by omega) (by omega)).mono ?_
    rintro e w12 ⟨rfl, bn⟩
    have og12 := og11.below bn
    have pw12 := pw11.keep (bn.mono hq11)
    have hq12 := Nat.le_trans hq11 bn.size
    have bb := below_step bb11 bn
    clear bn og11 pw11 bb11 hq11
    go_wp2_with fail
    refine (toSpotS_any ps _ _ ((h.below bb).more bb.size) (by omega)).mono ?_
    rintro e w13 ⟨v13, rfl, o13, bn⟩
    go_wp2_with fail
    refine (implHoles_any ps _ _ o13.reads).mono ?_
    rintro e w14 ⟨vh, rfl, oh, bi⟩
    have bh := below_step bn bi
    clear bn bi o13
    have og15 := og12.below bh
    have pw15 := pw12.keep (bh.mono hq12)
    have bb15 := below_step bb bh
    clear bh og12 pw12 bb
    go_wp2_with fail
    refine (gives_is (show decide (holesR ps = holesR ps) = true by simp) (eqSpotSS_any _ _ _ _ _ oh.reads pw15.reads)).mono ?_
    rintro e w16 ⟨rfl, bn⟩
    have og16 := og15.below bn
    have bb16 := below_step bb15 bn
    clear bn og15 bb15 oh pw15
    go_wp2_with fail
    refine (heldSS_any (holesR ps) _ 1 _ og16.reads hT (by omega) (by omega)).mono ?_
    rintro e w17 ⟨rfl, b17⟩
    have bb17 := below_step bb16 b17
    go_wp2
    go_ret
    exact ⟨rfl, bb17⟩
set_option maxRecDepth 100000 in
theorem lifted (os : Os) (started : os.Started) (H : Type) (enc : TypeId × Value → H) :
    ReturnsInHanded {} Try.checked os 11 .any (Rows.fnExactHolesOfSpec.pre6 enc Try.prog Try.f11 Rows.fnExactHolesOfRow.domain false) (Rows.fnExactHolesOfSpec.post enc Try.prog Try.f11 false true false false) := by
  refine returnsInHanded_of_change (C := Try.checked) own started (by kernel_rfl) Try.func11
    (ChangeSpec.witness6 (enc := enc) (C := Try.checked) false ⟨#[], #[.slice none 0 0], []⟩ 8 (by kernel_rfl) (by kernel_rfl) (by kernel_rfl) (by kernel_rfl)) ?_
  intro W base args ds gs before hval0 hW _ _
  have hval : ∀ (j : Nat) t v, Try.f11.params[j]? = some t → args[j]? = some v → Value.okWide Try.prog W .any base t v := hval0
  have hW' := hW
  obtain ⟨p, q, hA0, hV, rfl, _, _⟩ := hW
  have hA : DataW.TrodAll enc Try.prog W 0 (fun _ => true) true Try.f11.params.toList args.toList ds p := hA0
  rw [Try.params11] at hA hval
  obtain ⟨v0, d0, rfl, rfl, h0⟩ := trodAll_one hA
  obtain ⟨rfl, rfl⟩ := trodVars_none hV
  clear hA0 hval0
  simp only [List.append_nil] at hW'
  have hlt : ∀ x ∈ p, x.block < W.heap.size := fun x hx => by simpa using hW'.lt x hx
  have r0 := open_lspots (hval 0 47 v0 rfl rfl) h0 hlt
  obtain ⟨ps0, r0⟩ := r0
  refine (walk ps0 v0 W r0).mono fun e W' hg => ?_
  obtain ⟨he, hb⟩ := hg
  subst he
  exact ⟨_, rfl, _, _, _, [], p, [], hW', trodAll_mk1 (shut_bool Try.underlying4 _), trodAll_mk1 (kept_arg (by kernel_rfl) (of_decide_eq_true (by kernel_rfl)) h0 hb hlt), rfl, hb.frame _, fun h => by cases h⟩

theorem holds : Rows.FnExactHolesOfSaid :=
  OpenClaim.holds_of_wide 11 Try.f11 rfl rfl rfl rfl rfl rfl rfl ⟨rfl, rfl, rfl, rfl, rfl⟩ rfl rfl rfl rfl rfl (by kernel_rfl) Try.func11 (by kernel_rfl)
    (of_decide_eq_true (by kernel_rfl)) (by unfold Func.isWrapper; first | (rw [if_pos (by decide +kernel)]; kernel_rfl) | (rw [if_neg (by decide +kernel)]; exact ⟨rfl, rfl⟩))
    (fun os started H enc _ => lifted os started H enc)
end Go.Proofs.Ytmpfhdcefilekaa.exHolesOf
