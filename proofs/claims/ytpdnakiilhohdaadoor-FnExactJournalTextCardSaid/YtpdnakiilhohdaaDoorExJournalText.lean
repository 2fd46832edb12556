/-
  Proved: the exact law of JournalText (FnExactJournalText) returns true for every input, and its argument reads afterwards as it read before. No conditions but the row's own: what the listed variables of the library hold.
-/
import Derived.Test.YtpdnakiilhohdaaDoorDeedJ
import Derived.Test.YtpdnakiilhohdaaDoorDeedK
import Derived.Test.YtpdnakiilhohdaaDoorOpenE
import Derived.Test.YtpdnakiilhohdaaDoorLaidB
namespace Go.Proofs.YtpdnakiilhohdaaDoor.exJournalText
open Go.ChangeShapes Go.WideShapes Go.ChangeAt Go.RowKit

theorem jS_is {l : List Cn} {T : Bs} {v : Value} {w : World} (hT : jourT l = T) (h : CReads w w.heap.size v l) (hl : l.length ≤ 2000000) : Calls Tryd.prog 19 #[v] w (Gives (strV T) w) := by
  subst hT; exact specJour_any l v w h hl
theorem jI_is {l : List Cn} {T : Bs} {v : Value} {w : World} (hT : jourT l = T) (h : CReads w w.heap.size v l) (hl : l.length ≤ 2000000) (hp : PowOk w) : Calls Tryd.prog 18 #[v] w (Gives (strV T) w) := by
  subst hT; exact implJour_any l v w h hl hp
set_option maxRecDepth 100000 in
set_option maxHeartbeats 1600000 in
theorem walk (l : List Cn) (v : Value) (w : World) (h : CReads w w.heap.size v l) (hp : PowOk w) : Calls Tryd.prog 8 #[v] w (Gives (.bool true) w) := by
  obtain ⟨Al, cl, rfl, hl1, hl2⟩ := h.slice
  unfold maxLen at hl2
  by_cases hz : (1048576 : Int) < l.length
  · go_enter Tryd.func8, Tryd.ntmps8
    go_wp2_with fail
    refine (szDeedS_yes l.length cl Al 1048576 _ (by omega) (by omega) (by omega) hz).mono ?_
    rintro e w1 ⟨rfl, b1⟩
    go_wp2
    go_ret
    exact ⟨rfl, b1⟩
  · obtain ⟨T, hT⟩ : ∃ T, jourT l = T := ⟨_, rfl⟩
    have HT := Lib.hid hT
    have hTt : (bs T).toList = T := ByteArray.toList_mk T
    have HL := Lib.hid (show l.length ≤ 1048576 by omega)
    clear hT
    go_enter Tryd.func8, Tryd.ntmps8
    go_wp2_with fail
    refine (szDeedS_no l.length cl Al 1048576 _ (by omega) (by omega) (by omega) (by omega)).mono ?_
    rintro e w1 ⟨rfl, bb⟩
    have hnn : ¬ (1048576 - (l.length : Int) < 0) := by omega
    go_wp2_with fail
    refine (toDeedS_any l _ _ ((h.below bb).more bb.size) HL.out).mono ?_
    rintro e w2 ⟨v2, rfl, o2, b2⟩
    replace bb := below_step bb b2
    clear b2
    go_wp2_with fail
    refine (jS_is HT.out o2.reads (by have := HL.out; omega)).mono ?_
    rintro e w3 ⟨rfl, b3⟩
    replace bb := below_step bb b3
    clear b3 o2
    go_wp2_with fail
    refine (toDeedS_any l _ _ ((h.below bb).more bb.size) HL.out).mono ?_
    rintro e w4 ⟨v4, rfl, o4, b4⟩
    replace bb := below_step bb b4
    clear b4
    go_wp2_with fail
    refine (jI_is HT.out o4.reads (by have := HL.out; omega) (hp.below bb)).mono ?_
    rintro e w5 ⟨rfl, b5⟩
    replace bb := below_step bb b5
    replace o4 := o4.below b5
    clear b5
    go_wp2_with fail
    refine (toDeedS_any l _ _ ((h.below bb).more bb.size) HL.out).mono ?_
    rintro e w6 ⟨v6, rfl, o6, b6⟩
    replace bb := below_step bb b6
    replace o4 := o4.below b6
    clear b6
    go_wp2_with fail
    refine (gives_is (show decide (l = l) = true by simp) (eqDeedS_any l l _ _ _ o4.reads o6.reads)).mono ?_
    rintro e w7 ⟨rfl, b7⟩
    go_wp2
    go_ret
    exact ⟨rfl, below_step bb b7⟩
set_option maxRecDepth 100000 in
theorem lifted (os : Os) (started : os.Started) (H : Type) (enc : TypeId × Value → H) :
    ReturnsInHanded {} Tryd.checked os 8 .any (fun w args => (Rows.fnExactJournalTextSpec.pre enc Tryd.prog Tryd.f8 Rows.fnExactJournalTextRow.domain false w args ∧ laidMetH Tryd.prog Rows.fnExactJournalTextRow.laid w) ∧ sizedMet enc Tryd.prog Tryd.f8 (OpenSpec.ofChange Rows.fnExactJournalTextSpec) false w args) (Rows.fnExactJournalTextSpec.post enc Tryd.prog Tryd.f8 false true false false) := by
  refine returnsInHanded_of_change_and (C := Tryd.checked) (X := fun w _ => laidMetH Tryd.prog Rows.fnExactJournalTextRow.laid w) (fun _ _ _ hh h => h.of_heap hh) own started (by kernel_rfl) Tryd.func8
    (ChangeSpec.witness_shaped (enc := enc) (C := Tryd.checked) (os := os) (X := fun w _ => laidMetH Tryd.prog Rows.fnExactJournalTextRow.laid w) false (World.laidAll Tryd.prog os Rows.fnExactJournalTextRow.laid) #[.slice none 0 0] 8 (World.laidAll_os _ _ _)
      (World.shaped_of_ZipB (by kernel_rfl) (by kernel_rfl)) (by kernel_rfl) (by kernel_rfl) (by kernel_rfl)
      (by rw [MakeChecks.laidMetH_plain _ _ _ (by kernel_rfl)]; exact laidMet_laidAll _ (by kernel_rfl) (by kernel_rfl))) ?_
  intro W base args ds gs before hval0 hW _ _ hL _
  rw [MakeChecks.laidMetH_plain _ _ _ (by kernel_rfl)] at hL
  have hval : ∀ (j : Nat) t v, Tryd.f8.params[j]? = some t → args[j]? = some v → Value.okWide Tryd.prog W .any base t v := hval0
  have hW' := hW
  obtain ⟨p, q, hA0, hV, rfl, _, _⟩ := hW
  have hA : DataW.TrodAll enc Tryd.prog W 0 (fun _ => true) true Tryd.f8.params.toList args.toList ds p := hA0
  rw [Tryd.params8] at hA hval
  obtain ⟨v0, d0, rfl, rfl, h0⟩ := trodAll_one hA
  obtain ⟨rfl, rfl⟩ := trodVars_none hV
  clear hA0 hval0
  simp only [List.append_nil] at hW'
  have hlt : ∀ x ∈ p, x.block < W.heap.size := fun x hx => by simpa using hW'.lt x hx
  have r0 := open_ldeeds (hval 0 43 v0 rfl rfl) h0 hlt
  obtain ⟨ps0, r0⟩ := r0
  refine (walk ps0 v0 W r0 (varsB3 hL rfl)).mono fun e W' hg => ?_
  obtain ⟨he, hb⟩ := hg
  subst he
  exact ⟨_, rfl, _, _, _, [], p, [], hW', trodAll_mk1 (shut_bool Tryd.underlying4 _), trodAll_mk1 (kept_arg (by kernel_rfl) (of_decide_eq_true (by kernel_rfl)) h0 hb hlt), rfl, hb.frame _, fun h => by cases h⟩

theorem row : Rows.FnExactJournalTextSaid :=
  OpenClaim.holds_of_wide 8 Tryd.f8 rfl rfl rfl rfl rfl rfl rfl ⟨rfl, rfl, rfl, rfl, rfl⟩ rfl rfl rfl rfl rfl (by kernel_rfl) Tryd.func8 (by kernel_rfl)
    (of_decide_eq_true (by kernel_rfl)) (by unfold Func.isWrapper; first | (rw [if_pos (by decide +kernel)]; kernel_rfl) | (rw [if_neg (by decide +kernel)]; exact ⟨rfl, rfl⟩))
    (fun os started H enc _ => lifted os started H enc)
theorem holds : Rows.FnExactJournalTextCardSaid :=
  Claim7.holds_tied_plain_at .later [] Rows.fnExactJournalTextCard.laidKinds true Rows.fnExactJournalTextCard.stood.harness Rows.fnExactJournalTextCard.stood.looks row (fun _ h => by cases h) (by kernel_rfl) (fun _ h => by cases h) fnExactJournalText_row_tie rfl ⟨rfl, rfl⟩ (by kernel_rfl) rfl
    (fun f fn hf hfn => by
      obtain rfl : f = 8 := Option.some.inj ((show Tryd.prog.funcNamed Rows.fnExactJournalTextRow.func = some 8 by kernel_rfl).symm.trans hf) |>.symm
      obtain rfl : fn = Tryd.f8 := (Option.some.inj (Tryd.func8.symm.trans hfn)).symm
      exact ⟨by kernel_rfl, fun j t ht => by
        rw [Tryd.params8] at ht
        have hm : t ∈ [43] := by simpa using Array.mem_of_getElem? ht
        have hall : ([43].all fun u => !Tryd.prog.wantsStandIn u) = true := by kernel_rfl
        exact (show Tryd.prog.wantsStandIn t = false by simpa using List.all_eq_true.1 hall t hm)⟩)
    (by kernel_rfl)
end Go.Proofs.YtpdnakiilhohdaaDoor.exJournalText
