/-
  Proved: the exact law of LongRow (FnExactLongRow) returns true for every input, and its arguments read afterwards as they read before. No conditions.
-/
import Derived.Test.YtjncnjcpcmpmcaaDoorLongI
import Derived.Test.YtjncnjcpcmpmcaaDoorLongS
import Derived.Test.YtjncnjcpcmpmcaaDoorLaidD
import Derived.Test.YtjncnjcpcmpmcaaDoorOpen
namespace Go.Proofs.YtjncnjcpcmpmcaaDoor.exLongRow
open Go.ChangeShapes Go.WideShapes Go.ChangeAt Go.RowKit

theorem longS_is {l : Bs} {w : World} {s : ByteArray} {b : Bool} (hs : bs (longR l) = s) (hb : longOk l = b) (hl : l.length ≤ 1048576) : Calls Tryd.prog 28 #[.string (bs l)] w (Gives (.tuple #[.string s, .bool b]) w) := by
  subst hs hb; exact specLong_any l w hl
theorem longI_is {l : Bs} {w : World} {s : ByteArray} {b : Bool} (hs : bs (longR l) = s) (hb : longOk l = b) (hl : l.length ≤ 1048576) (he : ErrOk w) : Calls Tryd.prog 26 #[.string (bs l)] w (Gives (.tuple #[.string s, .bool b]) w) := by
  subst hs hb; exact implLong_any l w hl he
set_option maxRecDepth 100000 in
set_option maxHeartbeats 1600000 in
theorem walk (l : Bs) (w : World) (hm : l.length ≤ 9223372036854775807) (he : ErrOk w) : Calls Tryd.prog 10 #[.string (bs l)] w (Gives (.bool true) w) := by
  have hsz := bs_size l
  by_cases hl : 1048576 < l.length
  · have hd : decide ((1048576 : Int) < (l.length : Int)) = true := decide_eq_true (by omega)
    go_enter Tryd.func10, Tryd.ntmps10
    go_wp2
    go_ret
    exact ⟨rfl, Below.refl _ _⟩
  · have hd : decide ((1048576 : Int) < (l.length : Int)) = false := decide_eq_false (by omega)
    obtain ⟨s, hs⟩ : ∃ s, bs (longR l) = s := ⟨_, rfl⟩
    rcases hk : longOk l with _ | _
    all_goals
      have HS := Lib.hid (And.intro hs hk)
      clear hs hk
      go_enter Tryd.func10, Tryd.ntmps10
      go_wp2_with fail
      refine (longS_is HS.out.1 HS.out.2 (by omega)).mono ?_
      rintro e w3 ⟨rfl, bb⟩
      go_wp2_with fail
      refine (longI_is HS.out.1 HS.out.2 (by omega) (he.below bb)).mono ?_
      rintro e w5 ⟨rfl, b5⟩
      have bb := below_step bb b5
      go_wp2
      go_ret
      exact ⟨rfl, bb⟩

set_option maxRecDepth 100000 in
theorem lifted (os : Os) (started : os.Started) (H : Type) (enc : TypeId × Value → H) :
    ReturnsInHanded {} Tryd.checked os 10 .any (fun w args => (Rows.fnExactLongRowSpec.pre enc Tryd.prog Tryd.f10 Rows.fnExactLongRowRow.domain false w args ∧ laidMetH Tryd.prog Rows.fnExactLongRowRow.laid w) ∧ sizedMet enc Tryd.prog Tryd.f10 (OpenSpec.ofChange Rows.fnExactLongRowSpec) false w args) (Rows.fnExactLongRowSpec.post enc Tryd.prog Tryd.f10 false true false false) := by
  refine returnsInHanded_of_change_and (C := Tryd.checked) (X := fun w _ => laidMetH Tryd.prog Rows.fnExactLongRowRow.laid w) (fun _ _ _ hh h => h.of_heap hh) own started (by kernel_rfl) Tryd.func10
    (ChangeSpec.witness_shaped (enc := enc) (C := Tryd.checked) (os := os) (X := fun w _ => laidMetH Tryd.prog Rows.fnExactLongRowRow.laid w) false (World.laidAll Tryd.prog os Rows.fnExactLongRowRow.laid) #[.string ⟨#[]⟩] 8 (World.laidAll_os _ _ _)
      (World.shaped_of_ZipB (by kernel_rfl) (by kernel_rfl)) (by kernel_rfl) (by kernel_rfl) (by kernel_rfl)
      (by rw [MakeChecks.laidMetH_plain _ _ _ (by kernel_rfl)]; exact laidMet_laidAll _ (by kernel_rfl) (by kernel_rfl))) ?_
  intro W base args ds gs before hval0 hW _ _ hL _
  rw [MakeChecks.laidMetH_plain _ _ _ (by kernel_rfl)] at hL
  have hval : ∀ (j : Nat) t v, Tryd.f10.params[j]? = some t → args[j]? = some v → Value.okWide Tryd.prog W .any base t v := hval0
  have hW' := hW
  obtain ⟨p, q, hA0, hV, rfl, _, _⟩ := hW
  have hA : DataW.TrodAll enc Tryd.prog W 0 (fun _ => true) true Tryd.f10.params.toList args.toList ds p := hA0
  rw [Tryd.params10] at hA hval
  obtain ⟨v0, d0, rfl, rfl, h0⟩ := trodAll_one hA
  obtain ⟨rfl, rfl⟩ := trodVars_none hV
  clear hA0 hval0
  simp only [List.append_nil] at hW'
  have hlt : ∀ x ∈ p, x.block < W.heap.size := fun x hx => by simpa using hW'.lt x hx
  obtain ⟨s0, rfl⟩ := okWide_string Tryd.underlying9 (hval 0 9 v0 rfl rfl)
  obtain ⟨l0, rfl⟩ := bs_all s0
  have hl0 : l0.length ≤ 9223372036854775807 := by
    obtain ⟨fuel, hf⟩ := h0
    obtain ⟨s1, hc1, _, hm1⟩ := DataW.trod_string Tryd.underlying9 hf
    simp [Value.cells] at hc1
    subst hc1
    rw [bs_size] at hm1
    exact hm1
  refine (walk l0 W hl0 (vars7 hL).2).mono fun e W' hg => ?_
  obtain ⟨he, hb⟩ := hg
  subst he
  exact ⟨_, rfl, _, _, _, [], p, [], hW', trodAll_mk1 (shut_bool Tryd.underlying4 _), trodAll_mk1 (kept_arg (by kernel_rfl) (of_decide_eq_true (by kernel_rfl)) h0 hb hlt), rfl, hb.frame _, fun h => by cases h⟩

theorem row : Rows.FnExactLongRowSaid :=
  OpenClaim.holds_of_wide 10 Tryd.f10 rfl rfl rfl rfl rfl rfl rfl ⟨rfl, rfl, rfl, rfl, rfl⟩ rfl rfl rfl rfl rfl (by kernel_rfl) Tryd.func10 (by kernel_rfl)
    (of_decide_eq_true (by kernel_rfl)) (by unfold Func.isWrapper; first | (rw [if_pos (by decide +kernel)]; kernel_rfl) | (rw [if_neg (by decide +kernel)]; exact ⟨rfl, rfl⟩))
    (fun os started H enc _ => lifted os started H enc)
theorem holds : Rows.FnExactLongRowCardSaid :=
  Claim7.holds_tied_plain_at .later [] Rows.fnExactLongRowCard.laidKinds true Rows.fnExactLongRowCard.stood.harness Rows.fnExactLongRowCard.stood.looks row (fun _ h => by cases h) (by kernel_rfl) (fun _ h => by cases h) fnExactLongRow_row_tie rfl ⟨rfl, rfl⟩ (by kernel_rfl) rfl
    (fun f fn hf hfn => by
      obtain rfl : f = 10 := Option.some.inj ((show Tryd.prog.funcNamed Rows.fnExactLongRowRow.func = some 10 by kernel_rfl).symm.trans hf) |>.symm
      obtain rfl : fn = Tryd.f10 := (Option.some.inj (Tryd.func10.symm.trans hfn)).symm
      exact ⟨by kernel_rfl, fun j t ht => by
        rw [Tryd.params10] at ht
        have hm : t ∈ [9] := by simpa using Array.mem_of_getElem? ht
        have hall : ([9].all fun u => !Tryd.prog.wantsStandIn u) = true := by kernel_rfl
        exact (show Tryd.prog.wantsStandIn t = false by simpa using List.all_eq_true.1 hall t hm)⟩)
    (by kernel_rfl)
end Go.Proofs.YtjncnjcpcmpmcaaDoor.exLongRow
