/-
  Proved: the exact law of ReadText (FnExactReadText) returns true for every input, and its arguments read afterwards as they read before. No conditions.
-/
import Derived.Test.YtjncnjcpcmpmcaaDoorReadJ
import Derived.Test.YtjncnjcpcmpmcaaDoorLaidD
import Derived.Test.YtjncnjcpcmpmcaaDoorEq
import Derived.Test.YtjncnjcpcmpmcaaDoorMark
import Derived.Test.YtjncnjcpcmpmcaaDoorOpen
namespace Go.Proofs.YtjncnjcpcmpmcaaDoor.exReadText
open Go.ChangeShapes Go.WideShapes Go.ChangeAt Go.RowKit

theorem readS_is {l : Bs} {w : World} {ps : List Sp} {b : Bool} (hs : readR l = ps) (hb : readOk l = b) (hl : l.length ≤ 1048576) : Calls Tryd.prog 22 #[.string (bs l)] w (Gives2' ps b w) := by
  subst hs hb; exact specRead_any l w (by omega)
theorem readI_is {l : Bs} {w : World} {ps : List Sp} {b : Bool} (hs : readR l = ps) (hb : readOk l = b) (hl : l.length ≤ 1048576) (hp : PowOk w) (he : ErrOk w) : Calls Tryd.prog 16 #[.string (bs l)] w (Gives2' ps b w) := by
  subst hs hb; exact implRead_any l w (by omega) hp he
theorem read_le (l : Bs) : (readR l).length ≤ 1000 := by
  rcases h : readOk l with _ | _
  · rw [(read_fail h).1]; simp
  · have := (picB_pic (read_ok h).1).1; omega
set_option maxRecDepth 100000 in
set_option maxHeartbeats 1600000 in
theorem walk (l : Bs) (w : World) (hm : l.length ≤ 9223372036854775807) (hp : PowOk w) (he : ErrOk w) : Calls Tryd.prog 8 #[.string (bs l)] w (Gives (.bool true) w) := by
  have hsz := bs_size l
  by_cases hl : 1048576 < l.length
  · have hd : decide ((1048576 : Int) < (l.length : Int)) = true := decide_eq_true (by omega)
    go_enter Tryd.func8, Tryd.ntmps8
    go_wp2
    go_ret
    exact ⟨rfl, Below.refl _ _⟩
  · have hd : decide ((1048576 : Int) < (l.length : Int)) = false := decide_eq_false (by omega)
    have hT := read_le l
    obtain ⟨ps, hs⟩ : ∃ ps, readR l = ps := ⟨_, rfl⟩
    rw [hs] at hT
    rcases hk : readOk l with _ | _
    all_goals
      have HS := Lib.hid (And.intro hs hk)
      clear hs hk
      go_enter Tryd.func8, Tryd.ntmps8
      go_wp2_with fail
      refine (readS_is HS.out.1 HS.out.2 (by omega)).mono ?_
      rintro e w3 ⟨vw, rfl, ow, bb⟩
      have hb3 := bb.size
      go_wp2_with fail
      refine (readI_is HS.out.1 HS.out.2 (by omega) (hp.below bb) (he.below bb)).mono ?_
      rintro e w5 ⟨vg, rfl, og, b5⟩
      have newg := Owns.ne ow og (Nat.le_refl _)
      have ow := ow.below b5
      have bb := below_step bb b5
      clear b5
      go_wp2_with fail
      refine (gives_is (show decide (ps = ps) = true by simp) (eqSpotS_any _ _ _ _ _ og.reads ow.reads)).mono ?_
      rintro e w6 ⟨rfl, bn⟩
      have ow := ow.below bn
      have og := og.below bn
      have bb := below_step bb bn
      clear bn
      go_wp2_with fail
      refine (mark_any ps _ _ 1 _ og (by omega) (by omega) (by omega)).mono ?_
      rintro e w9 ⟨rfl, og9, g9⟩
      have bb9 := bb.grown g9 bb.size (fun k hk => Nat.le_trans hb3 (og.lt k hk).1)
      have ow9 := ow.grown g9 newg
      clear bb ow og g9
      go_wp2_with fail
      refine (held_any ps.length _ 1 _ og9.reads (by omega) (by omega) (by omega)).mono ?_
      rintro e w10 ⟨rfl, bn⟩
      have ow := ow9.below bn
      have og := og9.below bn
      have bb := below_step bb9 bn
      clear bn ow9 og9 bb9
      go_wp2_with fail
      refine (readI_is HS.out.1 HS.out.2 (by omega) (hp.below bb) (he.below bb)).mono ?_
      rintro e w11 ⟨vh, rfl, oh, bn⟩
      have ow := ow.below bn
      have og := og.below bn
      have bb := below_step bb bn
      clear bn
      go_wp2_with fail
      refine (gives_is (show decide (ps = ps) = true by simp) (eqSpotS_any _ _ _ _ _ oh.reads ow.reads)).mono ?_
      rintro e w12 ⟨rfl, bn⟩
      have og := og.below bn
      have bb := below_step bb bn
      clear bn oh ow
      go_wp2_with fail
      refine (held_any ps.length _ 1 _ og.reads (by omega) (by omega) (by omega)).mono ?_
      rintro e w13 ⟨rfl, bn⟩
      have bb := below_step bb bn
      go_wp2
      go_ret
      exact ⟨rfl, bb⟩

set_option maxRecDepth 100000 in
theorem lifted (os : Os) (started : os.Started) (H : Type) (enc : TypeId × Value → H) :
    ReturnsInHanded {} Tryd.checked os 8 .any (fun w args => (Rows.fnExactReadTextSpec.pre enc Tryd.prog Tryd.f8 Rows.fnExactReadTextRow.domain false w args ∧ laidMetH Tryd.prog Rows.fnExactReadTextRow.laid w) ∧ sizedMet enc Tryd.prog Tryd.f8 (OpenSpec.ofChange Rows.fnExactReadTextSpec) false w args) (Rows.fnExactReadTextSpec.post enc Tryd.prog Tryd.f8 false true false false) := by
  refine returnsInHanded_of_change_and (C := Tryd.checked) (X := fun w _ => laidMetH Tryd.prog Rows.fnExactReadTextRow.laid w) (fun _ _ _ hh h => h.of_heap hh) own started (by kernel_rfl) Tryd.func8
    (ChangeSpec.witness_shaped (enc := enc) (C := Tryd.checked) (os := os) (X := fun w _ => laidMetH Tryd.prog Rows.fnExactReadTextRow.laid w) false (World.laidAll Tryd.prog os Rows.fnExactReadTextRow.laid) #[.string ⟨#[]⟩] 8 (World.laidAll_os _ _ _)
      (World.shaped_of_ZipB (by kernel_rfl) (by kernel_rfl)) (by kernel_rfl) (by kernel_rfl) (by kernel_rfl)
      (by rw [MakeChecks.laidMetH_plain _ _ _ (by kernel_rfl)]; exact laidMet_laidAll _ (by kernel_rfl) (by kernel_rfl))) ?_
  intro W base args ds gs before hval0 hW _ _ hL _
  rw [MakeChecks.laidMetH_plain _ _ _ (by kernel_rfl)] at hL
  have hval : ∀ (j : Nat) t v, Tryd.f8.params[j]? = some t → args[j]? = some v → Value.okWide Tryd.prog W .any base t v := hval0
  have hW' := hW
  obtain ⟨p, q, hA0, hV, rfl, _, _⟩ := hW
  have hA : DataW.TrodAll enc Tryd.prog W 0 (fun _ => true) true Tryd.f8.params.toList args.toList ds p := hA0
  rw [Tryd.params8] at hA hval
  obtain ⟨v0, d0, rfl, rfl, h0⟩ := trodAll_one hA
  obtain ⟨rfl, rfl⟩ := trodVars_none hV
  clear hA0 hval0
  simp only [List.append_nil] at hW'
  have hlt : ∀ x ∈ p, x.block < W.heap.size := fun x hx => by simpa using hW'.lt x hx
  obtain ⟨s0, rfl⟩ := okWide_string Tryd.underlying9 (hval 0 9 v0 rfl rfl)
  obtain ⟨l0, rfl⟩ := bs_all s0
  have hl0 : l0.length ≤ 9223372036854775807 := by
    obtain ⟨fuel, hf⟩ := h0
    obtain ⟨s1, hc1, _, hm1⟩ := DataW.trod_string Tryd.underlying9 hf
    simp [Value.cells] at hc1
    subst hc1
    rw [bs_size] at hm1
    exact hm1
  refine (walk l0 W hl0 (vars5 hL).1 (vars5 hL).2).mono fun e W' hg => ?_
  obtain ⟨he, hb⟩ := hg
  subst he
  exact ⟨_, rfl, _, _, _, [], p, [], hW', trodAll_mk1 (shut_bool Tryd.underlying4 _), trodAll_mk1 (kept_arg (by kernel_rfl) (of_decide_eq_true (by kernel_rfl)) h0 hb hlt), rfl, hb.frame _, fun h => by cases h⟩

theorem row : Rows.FnExactReadTextSaid :=
  OpenClaim.holds_of_wide 8 Tryd.f8 rfl rfl rfl rfl rfl rfl rfl ⟨rfl, rfl, rfl, rfl, rfl⟩ rfl rfl rfl rfl rfl (by kernel_rfl) Tryd.func8 (by kernel_rfl)
    (of_decide_eq_true (by kernel_rfl)) (by unfold Func.isWrapper; first | (rw [if_pos (by decide +kernel)]; kernel_rfl) | (rw [if_neg (by decide +kernel)]; exact ⟨rfl, rfl⟩))
    (fun os started H enc _ => lifted os started H enc)
theorem holds : Rows.FnExactReadTextCardSaid :=
  Claim7.holds_tied_plain_at .later [] Rows.fnExactReadTextCard.laidKinds true Rows.fnExactReadTextCard.stood.harness Rows.fnExactReadTextCard.stood.looks row (fun _ h => by cases h) (by kernel_rfl) (fun _ h => by cases h) fnExactReadText_row_tie rfl ⟨rfl, rfl⟩ (by kernel_rfl) rfl
    (fun f fn hf hfn => by
      obtain rfl : f = 8 := Option.some.inj ((show Tryd.prog.funcNamed Rows.fnExactReadTextRow.func = some 8 by kernel_rfl).symm.trans hf) |>.symm
      obtain rfl : fn = Tryd.f8 := (Option.some.inj (Tryd.func8.symm.trans hfn)).symm
      exact ⟨by kernel_rfl, fun j t ht => by
        rw [Tryd.params8] at ht
        have hm : t ∈ [9] := by simpa using Array.mem_of_getElem? ht
        have hall : ([9].all fun u => !Tryd.prog.wantsStandIn u) = true := by kernel_rfl
        exact (show Tryd.prog.wantsStandIn t = false by simpa using List.all_eq_true.1 hall t hm)⟩)
    (by kernel_rfl)
end Go.Proofs.YtjncnjcpcmpmcaaDoor.exReadText
