/-
  Proved: the exact law of ReadJournal (FnExactReadJournal) returns true for every input. No conditions but the row's own: what the listed variables of the library hold.
-/
import Derived.Test.YtpdnakiilhohdaaDoorDeedJ
import Derived.Test.YtpdnakiilhohdaaDoorDeedK
import Derived.Test.YtpdnakiilhohdaaDoorOpenE
import Derived.Test.YtpdnakiilhohdaaDoorLaidB
namespace Go.Proofs.YtpdnakiilhohdaaDoor.exReadJournal
open Go.ChangeShapes Go.WideShapes Go.ChangeAt Go.RowKit

theorem rI_is {s : Bs} {l : List Cn} {n : Nat} {w : World} (h1 : (jread [] s).1 = l) (h2 : (jread [] s).2 = n) (hl : s.length ≤ 10000000) (hp : PowOk w) (he : ErrOk w) : Calls Tryd.prog 20 #[.string (bs s)] w (GivesJ l n w) := by
  subst h1; subst h2; exact implReadJ_any s hl w hp he
theorem rS_is {s : Bs} {l : List Cn} {n : Nat} {w : World} (h1 : (jread [] s).1 = l) (h2 : (jread [] s).2 = n) (hl : s.length ≤ 10000000) : Calls Tryd.prog 27 #[.string (bs s)] w (GivesJS l n w) := by
  subst h1; subst h2; exact specReadJ_any s hl w
theorem owns_ne {w1 w2 : World} {b1 b2 : Nat} {v1 v2 : Value} {l1 l2 : List Cn} (h1 : COwns w1 b1 v1 l1) (h2 : COwns w2 b2 v2 l2) (hb : w1.heap.size ≤ b2) : v1.ownBlock = none ∨ v1.ownBlock ≠ v2.ownBlock := by
  cases e1 : v1.ownBlock with
  | none => exact .inl rfl
  | some k => exact .inr (fun e => by have := (h1.lt k e1).2; have := (h2.lt k e.symm).1; omega)
set_option maxRecDepth 100000 in
set_option maxHeartbeats 3200000 in
theorem walk (s : Bs) (w : World) (hl : s.length ≤ 9223372036854775807) (hp : PowOk w) (he : ErrOk w) : Calls Tryd.prog 9 #[.string (bs s)] w (Gives (.bool true) w) := by
  have hsl := bs_size s
  by_cases hbig : 1048576 < s.length
  · have hb : (1048576 : Int) < (s.length : Int) := by omega
    go_enter Tryd.func9, Tryd.ntmps9
    go_wp2
    go_ret
    exact ⟨rfl, Below.refl _ _⟩
  · obtain ⟨L, hL⟩ : ∃ L, (jread [] s).1 = L := ⟨_, rfl⟩
    obtain ⟨N, hN⟩ : ∃ N, (jread [] s).2 = N := ⟨_, rfl⟩
    have hLl : L.length ≤ 1048576 := by rw [← hL]; have := jread_len s.length s (Nat.le_refl _); omega
    have HL := Lib.hid hL
    have HN := Lib.hid hN
    have HLl := Lib.hid hLl
    have HP := Lib.hid hp
    have HE := Lib.hid he
    clear hL hN hLl hp he
    go_enter Tryd.func9, Tryd.ntmps9
    go_wp2_with fail
    refine (rS_is HL.out HN.out (by omega)).mono ?_
    rintro e w1 ⟨v1, rfl, o1, bb⟩
    go_wp2_with fail
    refine (rI_is HL.out HN.out (by omega) (HP.out.below bb) (HE.out.below bb)).mono ?_
    rintro e w2 ⟨v2, rfl, o2, b2⟩
    have z1 := bb.size
    have z2 := b2.size
    replace bb := below_step bb b2
    have n21 := (owns_ne o1 o2 (Nat.le_refl _))
    replace o1 := o1.below b2
    have hbase : w.heap.size ≤ w1.heap.size := z1
    clear b2
    go_wp2_with fail
    refine (gives_is (show decide (L = L) = true by simp) (eqDeedS_any L L _ _ _ o2.reads o1.reads)).mono ?_
    rintro e w3 ⟨rfl, b3⟩
    replace bb := below_step bb b3
    replace o1 := o1.below b3
    replace o2 := o2.below b3
    have z3 := b3.size
    clear b3
    go_wp2_with fail
    refine (markC_any L v2 _ 1 _ o2 (by have := HLl.out; omega) (by omega) (by omega)).mono ?_
    rintro e w4 ⟨rfl, o4, g4⟩
    have bb4 := Below.grown bb g4 bb.size (fun k e => by have := (o2.lt k e).1; omega)
    have o1' := o1.grown g4 n21
    have z4 := g4.size
    clear bb o1 o2 g4
    go_wp2_with fail
    refine (heldC_any L.length v2 1 _ o4.reads (by have := HLl.out; omega) (by omega) (by omega)).mono ?_
    rintro e w5 ⟨rfl, b5⟩
    replace bb4 := below_step bb4 b5
    replace o1' := o1'.below b5
    replace o4 := o4.below b5
    have z5 := b5.size
    clear b5
    go_wp2_with fail
    refine (rI_is HL.out HN.out (by omega) (HP.out.below bb4) (HE.out.below bb4)).mono ?_
    rintro e w6 ⟨v6, rfl, o6, b6⟩
    replace bb4 := below_step bb4 b6
    replace o1' := o1'.below b6
    replace o4 := o4.below b6
    clear b6
    go_wp2_with fail
    refine (gives_is (show decide (L = L) = true by simp) (eqDeedS_any L L _ _ _ o6.reads o1'.reads)).mono ?_
    rintro e w7 ⟨rfl, b7⟩
    replace bb4 := below_step bb4 b7
    replace o4 := o4.below b7
    clear b7
    go_wp2_with fail
    refine (heldC_any L.length v2 1 _ o4.reads (by have := HLl.out; omega) (by omega) (by omega)).mono ?_
    rintro e w8 ⟨rfl, b8⟩
    go_wp2
    go_ret
    exact ⟨rfl, below_step bb4 b8⟩
set_option maxRecDepth 100000 in
theorem lifted (os : Os) (started : os.Started) (H : Type) (enc : TypeId × Value → H) :
    ReturnsInHanded {} Tryd.checked os 9 .any (fun w args => (Rows.fnExactReadJournalSpec.pre enc Tryd.prog Tryd.f9 Rows.fnExactReadJournalRow.domain false w args ∧ laidMetH Tryd.prog Rows.fnExactReadJournalRow.laid w) ∧ sizedMet enc Tryd.prog Tryd.f9 (OpenSpec.ofChange Rows.fnExactReadJournalSpec) false w args) (Rows.fnExactReadJournalSpec.post enc Tryd.prog Tryd.f9 false true false false) := by
  refine returnsInHanded_of_change_and (C := Tryd.checked) (X := fun w _ => laidMetH Tryd.prog Rows.fnExactReadJournalRow.laid w) (fun _ _ _ hh h => h.of_heap hh) own started (by kernel_rfl) Tryd.func9
    (ChangeSpec.witness_shaped (enc := enc) (C := Tryd.checked) (os := os) (X := fun w _ => laidMetH Tryd.prog Rows.fnExactReadJournalRow.laid w) false (World.laidAll Tryd.prog os Rows.fnExactReadJournalRow.laid) #[.string ⟨#[]⟩] 8 (World.laidAll_os _ _ _)
      (World.shaped_of_ZipB (by kernel_rfl) (by kernel_rfl)) (by kernel_rfl) (by kernel_rfl) (by kernel_rfl)
      (by rw [MakeChecks.laidMetH_plain _ _ _ (by kernel_rfl)]; exact laidMet_laidAll _ (by kernel_rfl) (by kernel_rfl))) ?_
  intro W base args ds gs before hval0 hW _ _ hL _
  rw [MakeChecks.laidMetH_plain _ _ _ (by kernel_rfl)] at hL
  have hval : ∀ (j : Nat) t v, Tryd.f9.params[j]? = some t → args[j]? = some v → Value.okWide Tryd.prog W .any base t v := hval0
  have hW' := hW
  obtain ⟨p, q, hA0, hV, rfl, _, _⟩ := hW
  have hA : DataW.TrodAll enc Tryd.prog W 0 (fun _ => true) true Tryd.f9.params.toList args.toList ds p := hA0
  rw [Tryd.params9] at hA hval
  obtain ⟨v0, d0, rfl, rfl, h0⟩ := trodAll_one hA
  obtain ⟨rfl, rfl⟩ := trodVars_none hV
  clear hA0 hval0
  simp only [List.append_nil] at hW'
  have hlt : ∀ x ∈ p, x.block < W.heap.size := fun x hx => by simpa using hW'.lt x hx
  obtain ⟨s0, rfl⟩ := okWide_string Tryd.underlying9 (hval 0 9 v0 rfl rfl)
  obtain ⟨l0, rfl⟩ := bs_all s0
  have hl0 : l0.length ≤ 9223372036854775807 := by
    obtain ⟨fuel, hf⟩ := h0
    obtain ⟨s1, hc1, _, hm1⟩ := DataW.trod_string Tryd.underlying9 hf
    simp [Value.cells] at hc1
    subst hc1
    rw [bs_size] at hm1
    exact hm1
  refine (walk l0 W hl0 (varsB5 hL rfl (by kernel_rfl) (by kernel_rfl)).1 (varsB5 hL rfl (by kernel_rfl) (by kernel_rfl)).2).mono fun e W' hg => ?_
  obtain ⟨he, hb⟩ := hg
  subst he
  exact ⟨_, rfl, _, _, _, [], p, [], hW', trodAll_mk1 (shut_bool Tryd.underlying4 _), trodAll_mk1 (kept_arg (by kernel_rfl) (of_decide_eq_true (by kernel_rfl)) h0 hb hlt), rfl, hb.frame _, fun h => by cases h⟩

theorem row : Rows.FnExactReadJournalSaid :=
  OpenClaim.holds_of_wide 9 Tryd.f9 rfl rfl rfl rfl rfl rfl rfl ⟨rfl, rfl, rfl, rfl, rfl⟩ rfl rfl rfl rfl rfl (by kernel_rfl) Tryd.func9 (by kernel_rfl)
    (of_decide_eq_true (by kernel_rfl)) (by unfold Func.isWrapper; first | (rw [if_pos (by decide +kernel)]; kernel_rfl) | (rw [if_neg (by decide +kernel)]; exact ⟨rfl, rfl⟩))
    (fun os started H enc _ => lifted os started H enc)
theorem holds : Rows.FnExactReadJournalCardSaid :=
  Claim7.holds_tied_plain_at .later [] Rows.fnExactReadJournalCard.laidKinds true Rows.fnExactReadJournalCard.stood.harness Rows.fnExactReadJournalCard.stood.looks row (fun _ h => by cases h) (by kernel_rfl) (fun _ h => by cases h) fnExactReadJournal_row_tie rfl ⟨rfl, rfl⟩ (by kernel_rfl) rfl
    (fun f fn hf hfn => by
      obtain rfl : f = 9 := Option.some.inj ((show Tryd.prog.funcNamed Rows.fnExactReadJournalRow.func = some 9 by kernel_rfl).symm.trans hf) |>.symm
      obtain rfl : fn = Tryd.f9 := (Option.some.inj (Tryd.func9.symm.trans hfn)).symm
      exact ⟨by kernel_rfl, fun j t ht => by
        rw [Tryd.params9] at ht
        have hm : t ∈ [9] := by simpa using Array.mem_of_getElem? ht
        have hall : ([9].all fun u => !Tryd.prog.wantsStandIn u) = true := by kernel_rfl
        exact (show Tryd.prog.wantsStandIn t = false by simpa using List.all_eq_true.1 hall t hm)⟩)
    (by kernel_rfl)
end Go.Proofs.YtpdnakiilhohdaaDoor.exReadJournal
