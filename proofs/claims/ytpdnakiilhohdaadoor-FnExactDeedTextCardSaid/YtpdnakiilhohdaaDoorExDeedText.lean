/-
  Proved: the exact law of DeedText (FnExactDeedText) returns true for every input, and its argument reads afterwards as it read before. No conditions but the row's own: what the listed variables of the library hold.
-/
import Derived.Test.YtpdnakiilhohdaaDoorDeedJ
import Derived.Test.YtpdnakiilhohdaaDoorDeedR
import Derived.Test.YtpdnakiilhohdaaDoorOpenE
import Derived.Test.YtpdnakiilhohdaaDoorLaidB
namespace Go.Proofs.YtpdnakiilhohdaaDoor.exDeedText
open Go.ChangeShapes Go.WideShapes Go.ChangeAt Go.RowKit

set_option maxRecDepth 100000 in
set_option maxHeartbeats 1600000 in
theorem walk (k x y : Int) (w : World) (hp : PowOk w) : Calls Tryd.prog 6 #[.agg #[.int .i64 k, .int .i64 x, .int .i64 y]] w (Gives (.bool true) w) := by
  obtain ⟨W, hW⟩ : ∃ W, W = w.alloc (.cells #[.int .i64 k, .int .i64 x, .int .i64 y] 38) := ⟨_, rfl⟩
  have bb : Below w.heap.size w W := by rw [hW]; exact box_below _ _ _
  have r0 : W.heap[w.heap.size]? = some (.cells #[.int .i64 k, .int .i64 x, .int .i64 y] 38 (0, 0)) := by rw [hW]; exact heap_alloc_new _ _
  have s0 : w.heap.size < W.heap.size := by rw [hW]; simp
  obtain ⟨c0, c1, c2⟩ := cells3_s r0
  obtain ⟨T, hT⟩ : ∃ T, deedT ((k, x), y) = T := ⟨_, rfl⟩
  have HT := Lib.hid hT
  have hTt : (bs T).toList = T := ByteArray.toList_mk T
  clear hT
  go_enter Tryd.func6, Tryd.ntmps6
  go_wp2_with (first | (rw [← hW]; clear hW) | fail)
  refine (toDeed_any k x y _).mono ?_
  rintro e w1 ⟨rfl, b1⟩
  replace r0 := (b1.block _ s0).trans r0
  replace bb := below_step bb b1
  clear c0 c1 c2 s0
  have s0 : w.heap.size < w1.heap.size := (Array.getElem?_eq_some_iff.1 r0).1
  go_wp2_with fail
  refine (deedS_is HT.out).mono ?_
  rintro e w2 ⟨rfl, b2⟩
  replace r0 := (b2.block _ s0).trans r0
  replace bb := below_step bb b2
  obtain ⟨c0, c1, c2⟩ := cells3_s r0
  clear s0 b1 b2
  go_wp2_with fail
  refine (toDeed_any k x y _).mono ?_
  rintro e w3 ⟨rfl, b3⟩
  replace bb := below_step bb b3
  clear c0 c1 c2 r0 b3
  go_wp2_with fail
  refine (deedI_is HT.out (hp.below bb)).mono ?_
  rintro e w4 ⟨rfl, b4⟩
  go_wp2
  go_ret
  exact ⟨rfl, below_step bb b4⟩
set_option maxRecDepth 100000 in
theorem lifted (os : Os) (started : os.Started) (H : Type) (enc : TypeId × Value → H) :
    ReturnsInHanded {} Tryd.checked os 6 .any (fun w args => (Rows.fnExactDeedTextSpec.pre enc Tryd.prog Tryd.f6 Rows.fnExactDeedTextRow.domain false w args ∧ laidMetH Tryd.prog Rows.fnExactDeedTextRow.laid w) ∧ sizedMet enc Tryd.prog Tryd.f6 (OpenSpec.ofChange Rows.fnExactDeedTextSpec) false w args) (Rows.fnExactDeedTextSpec.post enc Tryd.prog Tryd.f6 false true false false) := by
  refine returnsInHanded_of_change_and (C := Tryd.checked) (X := fun w _ => laidMetH Tryd.prog Rows.fnExactDeedTextRow.laid w) (fun _ _ _ hh h => h.of_heap hh) own started (by kernel_rfl) Tryd.func6
    (ChangeSpec.witness_shaped (enc := enc) (C := Tryd.checked) (os := os) (X := fun w _ => laidMetH Tryd.prog Rows.fnExactDeedTextRow.laid w) false (World.laidAll Tryd.prog os Rows.fnExactDeedTextRow.laid) #[.agg #[.int .i64 0, .int .i64 0, .int .i64 0]] 8 (World.laidAll_os _ _ _)
      (World.shaped_of_ZipB (by kernel_rfl) (by kernel_rfl)) (by kernel_rfl) (by kernel_rfl) (by kernel_rfl)
      (by rw [MakeChecks.laidMetH_plain _ _ _ (by kernel_rfl)]; exact laidMet_laidAll _ (by kernel_rfl) (by kernel_rfl))) ?_
  intro W base args ds gs before hval0 hW _ _ hL _
  rw [MakeChecks.laidMetH_plain _ _ _ (by kernel_rfl)] at hL
  have hval : ∀ (j : Nat) t v, Tryd.f6.params[j]? = some t → args[j]? = some v → Value.okWide Tryd.prog W .any base t v := hval0
  have hW' := hW
  obtain ⟨p, q, hA0, hV, rfl, _, _⟩ := hW
  have hA : DataW.TrodAll enc Tryd.prog W 0 (fun _ => true) true Tryd.f6.params.toList args.toList ds p := hA0
  rw [Tryd.params6] at hA hval
  obtain ⟨v0, d0, rfl, rfl, h0⟩ := trodAll_one hA
  obtain ⟨rfl, rfl⟩ := trodVars_none hV
  clear hA0 hval0
  simp only [List.append_nil] at hW'
  have hlt : ∀ x ∈ p, x.block < W.heap.size := fun x hx => by simpa using hW'.lt x hx
  have r0 := (fun a b _ => open_ldeed a b) (hval 0 38 v0 rfl rfl) h0 hlt
  obtain ⟨ps0, r0⟩ := r0
  refine ((show Calls Tryd.prog 6 #[v0] W (Gives (.bool true) W) from by rw [r0]; exact walk _ _ _ W (varsB3 hL rfl))).mono fun e W' hg => ?_
  obtain ⟨he, hb⟩ := hg
  subst he
  exact ⟨_, rfl, _, _, _, [], p, [], hW', trodAll_mk1 (shut_bool Tryd.underlying4 _), trodAll_mk1 (kept_arg (by kernel_rfl) (of_decide_eq_true (by kernel_rfl)) h0 hb hlt), rfl, hb.frame _, fun h => by cases h⟩

theorem row : Rows.FnExactDeedTextSaid :=
  OpenClaim.holds_of_wide 6 Tryd.f6 rfl rfl rfl rfl rfl rfl rfl ⟨rfl, rfl, rfl, rfl, rfl⟩ rfl rfl rfl rfl rfl (by kernel_rfl) Tryd.func6 (by kernel_rfl)
    (of_decide_eq_true (by kernel_rfl)) (by unfold Func.isWrapper; first | (rw [if_pos (by decide +kernel)]; kernel_rfl) | (rw [if_neg (by decide +kernel)]; exact ⟨rfl, rfl⟩))
    (fun os started H enc _ => lifted os started H enc)
theorem holds : Rows.FnExactDeedTextCardSaid :=
  Claim7.holds_tied_plain_at .later [] Rows.fnExactDeedTextCard.laidKinds true Rows.fnExactDeedTextCard.stood.harness Rows.fnExactDeedTextCard.stood.looks row (fun _ h => by cases h) (by kernel_rfl) (fun _ h => by cases h) fnExactDeedText_row_tie rfl ⟨rfl, rfl⟩ (by kernel_rfl) rfl
    (fun f fn hf hfn => by
      obtain rfl : f = 6 := Option.some.inj ((show Tryd.prog.funcNamed Rows.fnExactDeedTextRow.func = some 6 by kernel_rfl).symm.trans hf) |>.symm
      obtain rfl : fn = Tryd.f6 := (Option.some.inj (Tryd.func6.symm.trans hfn)).symm
      exact ⟨by kernel_rfl, fun j t ht => by
        rw [Tryd.params6] at ht
        have hm : t ∈ [38] := by simpa using Array.mem_of_getElem? ht
        have hall : ([38].all fun u => !Tryd.prog.wantsStandIn u) = true := by kernel_rfl
        exact (show Tryd.prog.wantsStandIn t = false by simpa using List.all_eq_true.1 hall t hm)⟩)
    (by kernel_rfl)
end Go.Proofs.YtpdnakiilhohdaaDoor.exDeedText
