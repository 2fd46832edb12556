/-
  Proved: the law of JournalText (FnJournalText) returns true for every code, and the code reads afterwards as it read before. No conditions but the row's own: what the listed variables of the library hold.
-/
import Derived.Test.YtpdnakiilhohdaaDoorDeedJ
import Derived.Test.YtpdnakiilhohdaaDoorDeedK
import Derived.Test.YtpdnakiilhohdaaDoorDrawB
import Derived.Test.YtpdnakiilhohdaaDoorSameD
import Derived.Test.YtpdnakiilhohdaaDoorLaidB
namespace Go.Proofs.YtpdnakiilhohdaaDoor.fnJournalText
open Go.ChangeShapes Go.WideShapes Go.ChangeAt Go.RowKit

theorem jS_is {l : List Cn} {T : Bs} {v : Value} {w : World} (hT : jourT l = T) (h : CReads w w.heap.size v l) (hl : l.length ≤ 2000000) : Calls Tryd.prog 19 #[v] w (Gives (strV T) w) := by
  subst hT; exact specJour_any l v w h hl
theorem jI_is {l : List Cn} {T : Bs} {v : Value} {w : World} (hT : jourT l = T) (h : CReads w w.heap.size v l) (hl : l.length ≤ 2000000) (hp : PowOk w) : Calls Tryd.prog 18 #[v] w (Gives (strV T) w) := by
  subst hT; exact implJour_any l v w h hl hp
theorem rI_is {s : Bs} {l : List Cn} {n : Nat} {w : World} (h1 : (jread [] s).1 = l) (h2 : (jread [] s).2 = n) (hl : s.length ≤ 10000000) (hp : PowOk w) (he : ErrOk w) : Calls Tryd.prog 20 #[.string (bs s)] w (GivesJ l n w) := by
  subst h1; subst h2; exact implReadJ_any s hl w hp he
set_option maxRecDepth 100000 in
set_option maxHeartbeats 3200000 in
theorem walk (A : Option Addr) (n c : Nat) (w : World) (hb : Bytes w w.heap.size A n) (hn : n ≤ c) (hc : c ≤ 9223372036854775807) (hp : PowOk w) (he : ErrOk w) :
    Calls Tryd.prog 5 #[.slice A n c] w (Gives (.bool true) w) := by
  by_cases hbig : 1048576 < n
  · go_enter Tryd.func5, Tryd.ntmps5
    go_wp2
    go_ret
    exact ⟨rfl, Below.refl _ _⟩
  · go_enter Tryd.func5, Tryd.ntmps5
    go_wp2_with fail
    refine (drawJour_any A n c _ hb hn hc).mono ?_
    rintro e w1 ⟨u, l, rfl, r1, hl6, bb⟩
    have HP := Lib.hid hp
    have HE := Lib.hid he
    have HL := Lib.hid hl6
    clear hb hn hc hp he hl6
    obtain ⟨Au, cu, rfl, hu1, hu2⟩ := r1.slice
    unfold maxLen at hu2
    obtain ⟨T, hT⟩ : ∃ T, jourT l = T := ⟨_, rfl⟩
    have HT := Lib.hid hT
    have hTt : (bs T).toList = T := ByteArray.toList_mk T
    have hsz := bs_size T
    clear hT
    go_wp2_with fail
    refine (jI_is HT.out r1 (by have := HL.out; omega) (HP.out.below bb)).mono ?_
    rintro e w2 ⟨rfl, b2⟩
    replace bb := below_step bb b2
    have r2 := r1.kept b2
    clear r1 b2
    go_wp2_with fail
    refine (jS_is HT.out r2 (by have := HL.out; omega)).mono ?_
    rintro e w3 ⟨rfl, b3⟩
    replace bb := below_step bb b3
    have r3 := r2.kept b3
    clear r2 b3
    rcases hq : (T == []) with _ | _
    · have hne := beq_eq_false_iff_ne.1 hq
      have hok : jourOk l = true := by
        rcases e : jourOk l with _ | _
        · exact absurd (HT.out.symm.trans (jourT_no e)) hne
        · rfl
      have hTe : T = jourL l := HT.out.symm.trans (jourT_yes hok)
      have hj := jread_is hok
      rw [← hTe] at hj
      have hTl : T.length ≤ 100 := by
        have h1 := jourL_len l
        have h2 := HL.out
        rw [hTe]; omega
      have H1 := Lib.hid (congrArg Prod.fst hj)
      have H2 := Lib.hid (congrArg Prod.snd hj)
      clear hj hTe hok hne
      go_wp2_with fail
      refine (rI_is H1.out H2.out (by omega) (HP.out.below bb) (HE.out.below bb)).mono ?_
      rintro e w4 ⟨v4, rfl, o4, b4⟩
      replace bb := below_step bb b4
      have r4 := r3.kept b4
      clear r3 b4
      go_wp2_with fail
      refine (sameDeeds_any l _ _ _ o4.reads r4).mono ?_
      rintro e w5 ⟨rfl, b5⟩
      go_wp2
      go_ret
      exact ⟨rfl, below_step bb b5⟩
    · go_wp2_with fail
      refine (alive_any _).mono ?_
      rintro e w4 ⟨rfl, b4⟩
      go_wp2
      go_ret
      exact ⟨rfl, below_step bb b4⟩
set_option maxRecDepth 100000 in
theorem lifted (os : Os) (started : os.Started) (H : Type) (enc : TypeId × Value → H) :
    ReturnsInHanded {} Tryd.checked os 5 .any (fun w args => (Rows.fnJournalTextSpec.pre enc Tryd.prog Tryd.f5 Rows.fnJournalTextRow.domain false w args ∧ laidMetH Tryd.prog Rows.fnJournalTextRow.laid w) ∧ sizedMet enc Tryd.prog Tryd.f5 (OpenSpec.ofChange Rows.fnJournalTextSpec) false w args) (Rows.fnJournalTextSpec.post enc Tryd.prog Tryd.f5 false true false false) := by
  refine returnsInHanded_of_change_and (C := Tryd.checked) (X := fun w _ => laidMetH Tryd.prog Rows.fnJournalTextRow.laid w) (fun _ _ _ hh h => h.of_heap hh) own started (by kernel_rfl) Tryd.func5
    (ChangeSpec.witness_shaped (enc := enc) (C := Tryd.checked) (os := os) (X := fun w _ => laidMetH Tryd.prog Rows.fnJournalTextRow.laid w) false (World.laidAll Tryd.prog os Rows.fnJournalTextRow.laid) #[.slice none 0 0] 8 (World.laidAll_os _ _ _)
      (World.shaped_of_ZipB (by kernel_rfl) (by kernel_rfl)) (by kernel_rfl) (by kernel_rfl) (by kernel_rfl)
      (by rw [MakeChecks.laidMetH_plain _ _ _ (by kernel_rfl)]; exact laidMet_laidAll _ (by kernel_rfl) (by kernel_rfl))) ?_
  intro W base args ds gs before hval0 hW _ _ hL _
  rw [MakeChecks.laidMetH_plain _ _ _ (by kernel_rfl)] at hL
  have hval : ∀ (j : Nat) t v, Tryd.f5.params[j]? = some t → args[j]? = some v → Value.okWide Tryd.prog W .any base t v := hval0
  have hW' := hW
  obtain ⟨p, q, hA0, hV, rfl, _, _⟩ := hW
  have hA : DataW.TrodAll enc Tryd.prog W 0 (fun _ => true) true Tryd.f5.params.toList args.toList ds p := hA0
  rw [Tryd.params5] at hA hval
  obtain ⟨v0, d0, rfl, rfl, h0⟩ := trodAll_one hA
  obtain ⟨rfl, rfl⟩ := trodVars_none hV
  clear hA0 hval0
  simp only [List.append_nil] at hW'
  have hlt : ∀ x ∈ p, x.block < W.heap.size := fun x hx => by simpa using hW'.lt x hx
  have r0 := open_bytes (hval 0 22 v0 rfl rfl) h0 hlt
  obtain ⟨⟨bA, bn, bc⟩, rfl, rb, rn, rc⟩ := r0
  simp only at rb rn rc
  refine (walk bA bn bc W rb rn rc (varsB5 hL rfl (by kernel_rfl) (by kernel_rfl)).1 (varsB5 hL rfl (by kernel_rfl) (by kernel_rfl)).2).mono fun e W' hg => ?_
  obtain ⟨he, hb⟩ := hg
  subst he
  exact ⟨_, rfl, _, _, _, [], p, [], hW', trodAll_mk1 (shut_bool Tryd.underlying4 _), trodAll_mk1 (kept_arg (by kernel_rfl) (of_decide_eq_true (by kernel_rfl)) h0 hb hlt), rfl, hb.frame _, fun h => by cases h⟩

theorem row : Rows.FnJournalTextSaid :=
  OpenClaim.holds_of_wide 5 Tryd.f5 rfl rfl rfl rfl rfl rfl rfl ⟨rfl, rfl, rfl, rfl, rfl⟩ rfl rfl rfl rfl rfl (by kernel_rfl) Tryd.func5 (by kernel_rfl)
    (of_decide_eq_true (by kernel_rfl)) (by unfold Func.isWrapper; first | (rw [if_pos (by decide +kernel)]; kernel_rfl) | (rw [if_neg (by decide +kernel)]; exact ⟨rfl, rfl⟩))
    (fun os started H enc _ => lifted os started H enc)
theorem holds : Rows.FnJournalTextCardSaid :=
  Claim7.holds_tied_plain_at .later [] Rows.fnJournalTextCard.laidKinds true Rows.fnJournalTextCard.stood.harness Rows.fnJournalTextCard.stood.looks row (fun _ h => by cases h) (by kernel_rfl) (fun _ h => by cases h) fnJournalText_row_tie rfl ⟨rfl, rfl⟩ (by kernel_rfl) rfl
    (fun f fn hf hfn => by
      obtain rfl : f = 5 := Option.some.inj ((show Tryd.prog.funcNamed Rows.fnJournalTextRow.func = some 5 by kernel_rfl).symm.trans hf) |>.symm
      obtain rfl : fn = Tryd.f5 := (Option.some.inj (Tryd.func5.symm.trans hfn)).symm
      exact ⟨by kernel_rfl, fun j t ht => by
        rw [Tryd.params5] at ht
        have hm : t ∈ [22] := by simpa using Array.mem_of_getElem? ht
        have hall : ([22].all fun u => !Tryd.prog.wantsStandIn u) = true := by kernel_rfl
        exact (show Tryd.prog.wantsStandIn t = false by simpa using List.all_eq_true.1 hall t hm)⟩)
    (by kernel_rfl)
end Go.Proofs.YtpdnakiilhohdaaDoor.fnJournalText
