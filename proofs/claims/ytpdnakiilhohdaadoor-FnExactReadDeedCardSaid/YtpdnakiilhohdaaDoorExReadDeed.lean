/-
  Proved: the exact law of ReadDeed (FnExactReadDeed) returns true for every input. No conditions but the row's own: what the listed variables of the library hold.
-/
import Derived.Test.YtpdnakiilhohdaaDoorDeedJ
import Derived.Test.YtpdnakiilhohdaaDoorDeedK
import Derived.Test.YtpdnakiilhohdaaDoorLaidB
import Derived.Test.YtpdnakiilhohdaaDoorOpenE
namespace Go.Proofs.YtpdnakiilhohdaaDoor.exReadDeed
open Go.ChangeShapes Go.WideShapes Go.ChangeAt Go.RowKit

set_option maxRecDepth 100000 in
set_option maxHeartbeats 1600000 in
theorem walk (l : Bs) (w : World) (hl : l.length ≤ 9223372036854775807) (hp : PowOk w) (he : ErrOk w) : Calls Tryd.prog 7 #[.string (bs l)] w (Gives (.bool true) w) := by
  have hsl := bs_size l
  by_cases hbig : 1048576 < l.length
  · have hb : (1048576 : Int) < (l.length : Int) := by omega
    go_enter Tryd.func7, Tryd.ntmps7
    go_wp2
    go_ret
    exact ⟨rfl, Below.refl _ _⟩
  · obtain ⟨R, hR⟩ : ∃ R, readDR l = R := ⟨_, rfl⟩
    obtain ⟨OK, hOK⟩ : ∃ OK, readDOk l = OK := ⟨_, rfl⟩
    have HR := Lib.hid hR
    have HO := Lib.hid hOK
    obtain ⟨⟨Rk, Rx⟩, Ry⟩ := R
    clear hR hOK
    go_enter Tryd.func7, Tryd.ntmps7
    go_wp2_with fail
    refine (readS_is HR.out HO.out (by omega)).mono ?_
    rintro e w1 ⟨rfl, b1⟩
    obtain ⟨W2, hW2⟩ : ∃ W, W = w1.alloc (.cells #[.int .i64 Rk, .int .i64 Rx, .int .i64 Ry] 24) := ⟨_, rfl⟩
    have bx : Below w1.heap.size w1 W2 := by rw [hW2]; exact box_below _ _ _
    have r2 : W2.heap[w1.heap.size]? = some (.cells #[.int .i64 Rk, .int .i64 Rx, .int .i64 Ry] 24 (0, 0)) := by rw [hW2]; exact heap_alloc_new _ _
    have s2 : w1.heap.size < W2.heap.size := by rw [hW2]; simp
    have bb := below_step b1 bx
    clear b1 bx
    go_wp2_with (first | (rw [← hW2]; clear hW2) | fail)
    refine (readI_is HR.out HO.out (by omega) (hp.below bb) (he.below bb)).mono ?_
    rintro e w3 ⟨rfl, b3⟩
    have r3 := (b3.block _ s2).trans r2
    have s3 : w1.heap.size < w3.heap.size := (Array.getElem?_eq_some_iff.1 r3).1
    have bb3 := below_step bb b3
    obtain ⟨W4, hW4⟩ : ∃ W, W = w3.alloc (.cells #[.int .i64 Rk, .int .i64 Rx, .int .i64 Ry] 24) := ⟨_, rfl⟩
    have bx : Below w3.heap.size w3 W4 := by rw [hW4]; exact box_below _ _ _
    have r4 : W4.heap[w3.heap.size]? = some (.cells #[.int .i64 Rk, .int .i64 Rx, .int .i64 Ry] 24 (0, 0)) := by rw [hW4]; exact heap_alloc_new _ _
    have r5 := (bx.block _ s3).trans r3
    have bb4 := below_step bb3 bx
    obtain ⟨c0, c1, c2⟩ := cells3_s r4
    obtain ⟨d0, d1, d2⟩ := cells3_s r5
    clear r2 r3 bx bb bb3 b3
    go_wp2_with (first | (rw [← hW4]; clear hW4) | fail)
    refine (eqDeed_is (b := true) (by simp)).mono ?_
    rintro e w5 ⟨rfl, b5⟩
    rcases OK with _ | _
    all_goals
      go_wp2
      go_ret
      exact ⟨rfl, below_step bb4 b5⟩
set_option maxRecDepth 100000 in
theorem lifted (os : Os) (started : os.Started) (H : Type) (enc : TypeId × Value → H) :
    ReturnsInHanded {} Tryd.checked os 7 .any (fun w args => (Rows.fnExactReadDeedSpec.pre enc Tryd.prog Tryd.f7 Rows.fnExactReadDeedRow.domain false w args ∧ laidMetH Tryd.prog Rows.fnExactReadDeedRow.laid w) ∧ sizedMet enc Tryd.prog Tryd.f7 (OpenSpec.ofChange Rows.fnExactReadDeedSpec) false w args) (Rows.fnExactReadDeedSpec.post enc Tryd.prog Tryd.f7 false true false false) := by
  refine returnsInHanded_of_change_and (C := Tryd.checked) (X := fun w _ => laidMetH Tryd.prog Rows.fnExactReadDeedRow.laid w) (fun _ _ _ hh h => h.of_heap hh) own started (by kernel_rfl) Tryd.func7
    (ChangeSpec.witness_shaped (enc := enc) (C := Tryd.checked) (os := os) (X := fun w _ => laidMetH Tryd.prog Rows.fnExactReadDeedRow.laid w) false (World.laidAll Tryd.prog os Rows.fnExactReadDeedRow.laid) #[.string ⟨#[]⟩] 8 (World.laidAll_os _ _ _)
      (World.shaped_of_ZipB (by kernel_rfl) (by kernel_rfl)) (by kernel_rfl) (by kernel_rfl) (by kernel_rfl)
      (by rw [MakeChecks.laidMetH_plain _ _ _ (by kernel_rfl)]; exact laidMet_laidAll _ (by kernel_rfl) (by kernel_rfl))) ?_
  intro W base args ds gs before hval0 hW _ _ hL _
  rw [MakeChecks.laidMetH_plain _ _ _ (by kernel_rfl)] at hL
  have hval : ∀ (j : Nat) t v, Tryd.f7.params[j]? = some t → args[j]? = some v → Value.okWide Tryd.prog W .any base t v := hval0
  have hW' := hW
  obtain ⟨p, q, hA0, hV, rfl, _, _⟩ := hW
  have hA : DataW.TrodAll enc Tryd.prog W 0 (fun _ => true) true Tryd.f7.params.toList args.toList ds p := hA0
  rw [Tryd.params7] at hA hval
  obtain ⟨v0, d0, rfl, rfl, h0⟩ := trodAll_one hA
  obtain ⟨rfl, rfl⟩ := trodVars_none hV
  clear hA0 hval0
  simp only [List.append_nil] at hW'
  have hlt : ∀ x ∈ p, x.block < W.heap.size := fun x hx => by simpa using hW'.lt x hx
  obtain ⟨s0, rfl⟩ := okWide_string Tryd.underlying9 (hval 0 9 v0 rfl rfl)
  obtain ⟨l0, rfl⟩ := bs_all s0
  have hl0 : l0.length ≤ 9223372036854775807 := by
    obtain ⟨fuel, hf⟩ := h0
    obtain ⟨s1, hc1, _, hm1⟩ := DataW.trod_string Tryd.underlying9 hf
    simp [Value.cells] at hc1
    subst hc1
    rw [bs_size] at hm1
    exact hm1
  refine (walk l0 W hl0 (varsB5 hL rfl (by kernel_rfl) (by kernel_rfl)).1 (varsB5 hL rfl (by kernel_rfl) (by kernel_rfl)).2).mono fun e W' hg => ?_
  obtain ⟨he, hb⟩ := hg
  subst he
  exact ⟨_, rfl, _, _, _, [], p, [], hW', trodAll_mk1 (shut_bool Tryd.underlying4 _), trodAll_mk1 (kept_arg (by kernel_rfl) (of_decide_eq_true (by kernel_rfl)) h0 hb hlt), rfl, hb.frame _, fun h => by cases h⟩

theorem row : Rows.FnExactReadDeedSaid :=
  OpenClaim.holds_of_wide 7 Tryd.f7 rfl rfl rfl rfl rfl rfl rfl ⟨rfl, rfl, rfl, rfl, rfl⟩ rfl rfl rfl rfl rfl (by kernel_rfl) Tryd.func7 (by kernel_rfl)
    (of_decide_eq_true (by kernel_rfl)) (by unfold Func.isWrapper; first | (rw [if_pos (by decide +kernel)]; kernel_rfl) | (rw [if_neg (by decide +kernel)]; exact ⟨rfl, rfl⟩))
    (fun os started H enc _ => lifted os started H enc)
theorem holds : Rows.FnExactReadDeedCardSaid :=
  Claim7.holds_tied_plain_at .later [] Rows.fnExactReadDeedCard.laidKinds true Rows.fnExactReadDeedCard.stood.harness Rows.fnExactReadDeedCard.stood.looks row (fun _ h => by cases h) (by kernel_rfl) (fun _ h => by cases h) fnExactReadDeed_row_tie rfl ⟨rfl, rfl⟩ (by kernel_rfl) rfl
    (fun f fn hf hfn => by
      obtain rfl : f = 7 := Option.some.inj ((show Tryd.prog.funcNamed Rows.fnExactReadDeedRow.func = some 7 by kernel_rfl).symm.trans hf) |>.symm
      obtain rfl : fn = Tryd.f7 := (Option.some.inj (Tryd.func7.symm.trans hfn)).symm
      exact ⟨by kernel_rfl, fun j t ht => by
        rw [Tryd.params7] at ht
        have hm : t ∈ [9] := by simpa using Array.mem_of_getElem? ht
        have hall : ([9].all fun u => !Tryd.prog.wantsStandIn u) = true := by kernel_rfl
        exact (show Tryd.prog.wantsStandIn t = false by simpa using List.all_eq_true.1 hall t hm)⟩)
    (by kernel_rfl)
end Go.Proofs.YtpdnakiilhohdaaDoor.exReadDeed
