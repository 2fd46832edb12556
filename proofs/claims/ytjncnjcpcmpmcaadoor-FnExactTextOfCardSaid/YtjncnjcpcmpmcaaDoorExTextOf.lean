/-
  Proved: the exact law of TextOf (FnExactTextOf) returns true for every input, and its arguments read afterwards as they read before. No conditions.
-/
import Derived.Test.YtjncnjcpcmpmcaaDoorTextJ
import Derived.Test.YtjncnjcpcmpmcaaDoorLaidD
import Derived.Test.YtjncnjcpcmpmcaaDoorEq
import Derived.Test.YtjncnjcpcmpmcaaDoorCopy
import Derived.Test.YtjncnjcpcmpmcaaDoorOpen
namespace Go.Proofs.YtjncnjcpcmpmcaaDoor.exTextOf
open Go.ChangeShapes Go.WideShapes Go.ChangeAt Go.RowKit

theorem textS_is {p : List Sp} {v : Value} {w : World} {s : ByteArray} (hs : bs (textT p) = s) (h : Reads w w.heap.size v p) : Calls Tryd.prog 13 #[v] w (Gives (.string s) w) := by
  subst hs; exact specText_any p v w h
theorem textI_is {p : List Sp} {v : Value} {w : World} {s : ByteArray} (hs : bs (textT p) = s) (h : Reads w w.heap.size v p) (hp : PowOk w) : Calls Tryd.prog 12 #[v] w (Gives (.string s) w) := by
  subst hs; exact implTextT_any p v w h hp
set_option maxRecDepth 100000 in
set_option maxHeartbeats 1600000 in
theorem walk (ps : List Sp) (v : Value) (w : World) (h : Reads w w.heap.size v ps) (hp : PowOk w) : Calls Tryd.prog 7 #[v] w (Gives (.bool true) w) := by
  obtain ⟨A, c, rfl, hc, hm⟩ := h.slice
  unfold maxLen at hm
  by_cases hl : 1048576 < ps.length
  · go_enter Tryd.func7, Tryd.ntmps7
    go_wp2_with fail
    refine (szSpotS_yes ps.length c A 1048576 _ (by omega) (by omega) (by omega) (by omega)).mono ?_
    rintro e w1 ⟨rfl, b1⟩
    go_wp2
    go_ret
    exact ⟨rfl, b1⟩
  · obtain ⟨s, hs⟩ : ∃ s, bs (textT ps) = s := ⟨_, rfl⟩
    have HS := Lib.hid hs
    clear hs
    go_enter Tryd.func7, Tryd.ntmps7
    go_wp2_with fail
    refine (szSpotS_no ps.length c A 1048576 _ (by omega) (by omega) (by omega) (by omega)).mono ?_
    rintro e w1 ⟨rfl, bb⟩
    go_wp2_with fail
    refine (toSpotS_any ps _ _ ((h.below bb).more bb.size) (by omega)).mono ?_
    rintro e w2 ⟨v2, rfl, o2, bn⟩
    have bb := below_step bb bn
    clear bn
    go_wp2_with fail
    refine (textS_is HS.out o2.reads).mono ?_
    rintro e w3 ⟨rfl, b3⟩
    have bb := below_step bb b3
    clear o2 b3
    go_wp2_with fail
    refine (toSpotS_any ps _ _ ((h.below bb).more bb.size) (by omega)).mono ?_
    rintro e w4 ⟨vx, rfl, ox, bn⟩
    have bb := below_step bb bn
    clear bn
    go_wp2_with fail
    refine (textI_is HS.out ox.reads (hp.below bb)).mono ?_
    rintro e w5 ⟨rfl, b5⟩
    have ox := ox.below b5
    have bb := below_step bb b5
    clear b5
    go_wp2_with fail
    refine (toSpotS_any ps _ _ ((h.below bb).more bb.size) (by omega)).mono ?_
    rintro e w7 ⟨v7, rfl, o7, bn⟩
    have ox := ox.below bn
    have bb := below_step bb bn
    clear bn
    go_wp2_with fail
    refine (gives_is (show decide (ps = ps) = true by simp) (eqSpotS_any _ _ _ _ _ ox.reads o7.reads)).mono ?_
    rintro e w8 ⟨rfl, bn⟩
    have bb := below_step bb bn
    clear bn ox o7
    go_wp2
    go_ret
    exact ⟨rfl, bb⟩

set_option maxRecDepth 100000 in
theorem lifted (os : Os) (started : os.Started) (H : Type) (enc : TypeId × Value → H) :
    ReturnsInHanded {} Tryd.checked os 7 .any (fun w args => (Rows.fnExactTextOfSpec.pre enc Tryd.prog Tryd.f7 Rows.fnExactTextOfRow.domain false w args ∧ laidMetH Tryd.prog Rows.fnExactTextOfRow.laid w) ∧ sizedMet enc Tryd.prog Tryd.f7 (OpenSpec.ofChange Rows.fnExactTextOfSpec) false w args) (Rows.fnExactTextOfSpec.post enc Tryd.prog Tryd.f7 false true false false) := by
  refine returnsInHanded_of_change_and (C := Tryd.checked) (X := fun w _ => laidMetH Tryd.prog Rows.fnExactTextOfRow.laid w) (fun _ _ _ hh h => h.of_heap hh) own started (by kernel_rfl) Tryd.func7
    (ChangeSpec.witness_shaped (enc := enc) (C := Tryd.checked) (os := os) (X := fun w _ => laidMetH Tryd.prog Rows.fnExactTextOfRow.laid w) false (World.laidAll Tryd.prog os Rows.fnExactTextOfRow.laid) #[.slice none 0 0] 8 (World.laidAll_os _ _ _)
      (World.shaped_of_ZipB (by kernel_rfl) (by kernel_rfl)) (by kernel_rfl) (by kernel_rfl) (by kernel_rfl)
      (by rw [MakeChecks.laidMetH_plain _ _ _ (by kernel_rfl)]; exact laidMet_laidAll _ (by kernel_rfl) (by kernel_rfl))) ?_
  intro W base args ds gs before hval0 hW _ _ hL _
  rw [MakeChecks.laidMetH_plain _ _ _ (by kernel_rfl)] at hL
  have hval : ∀ (j : Nat) t v, Tryd.f7.params[j]? = some t → args[j]? = some v → Value.okWide Tryd.prog W .any base t v := hval0
  have hW' := hW
  obtain ⟨p, q, hA0, hV, rfl, _, _⟩ := hW
  have hA : DataW.TrodAll enc Tryd.prog W 0 (fun _ => true) true Tryd.f7.params.toList args.toList ds p := hA0
  rw [Tryd.params7] at hA hval
  obtain ⟨v0, d0, rfl, rfl, h0⟩ := trodAll_one hA
  obtain ⟨rfl, rfl⟩ := trodVars_none hV
  clear hA0 hval0
  simp only [List.append_nil] at hW'
  have hlt : ∀ x ∈ p, x.block < W.heap.size := fun x hx => by simpa using hW'.lt x hx
  have r0 := open_lspots (hval 0 42 v0 rfl rfl) h0 hlt
  obtain ⟨ps0, r0⟩ := r0
  refine (walk ps0 v0 W r0 (vars3 hL)).mono fun e W' hg => ?_
  obtain ⟨he, hb⟩ := hg
  subst he
  exact ⟨_, rfl, _, _, _, [], p, [], hW', trodAll_mk1 (shut_bool Tryd.underlying4 _), trodAll_mk1 (kept_arg (by kernel_rfl) (of_decide_eq_true (by kernel_rfl)) h0 hb hlt), rfl, hb.frame _, fun h => by cases h⟩

theorem row : Rows.FnExactTextOfSaid :=
  OpenClaim.holds_of_wide 7 Tryd.f7 rfl rfl rfl rfl rfl rfl rfl ⟨rfl, rfl, rfl, rfl, rfl⟩ rfl rfl rfl rfl rfl (by kernel_rfl) Tryd.func7 (by kernel_rfl)
    (of_decide_eq_true (by kernel_rfl)) (by unfold Func.isWrapper; first | (rw [if_pos (by decide +kernel)]; kernel_rfl) | (rw [if_neg (by decide +kernel)]; exact ⟨rfl, rfl⟩))
    (fun os started H enc _ => lifted os started H enc)
theorem holds : Rows.FnExactTextOfCardSaid :=
  Claim7.holds_tied_plain_at .later [] Rows.fnExactTextOfCard.laidKinds true Rows.fnExactTextOfCard.stood.harness Rows.fnExactTextOfCard.stood.looks row (fun _ h => by cases h) (by kernel_rfl) (fun _ h => by cases h) fnExactTextOf_row_tie rfl ⟨rfl, rfl⟩ (by kernel_rfl) rfl
    (fun f fn hf hfn => by
      obtain rfl : f = 7 := Option.some.inj ((show Tryd.prog.funcNamed Rows.fnExactTextOfRow.func = some 7 by kernel_rfl).symm.trans hf) |>.symm
      obtain rfl : fn = Tryd.f7 := (Option.some.inj (Tryd.func7.symm.trans hfn)).symm
      exact ⟨by kernel_rfl, fun j t ht => by
        rw [Tryd.params7] at ht
        have hm : t ∈ [42] := by simpa using Array.mem_of_getElem? ht
        have hall : ([42].all fun u => !Tryd.prog.wantsStandIn u) = true := by kernel_rfl
        exact (show Tryd.prog.wantsStandIn t = false by simpa using List.all_eq_true.1 hall t hm)⟩)
    (by kernel_rfl)
end Go.Proofs.YtjncnjcpcmpmcaaDoor.exTextOf
