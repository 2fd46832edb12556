/-
  Proved: the law of DeedText (FnDeedText) returns true for every code, and the code reads afterwards as it read before. No conditions but the row's own: what the listed variables of the library hold.
-/
import Derived.Test.YtpdnakiilhohdaaDoorDeedJ
import Derived.Test.YtpdnakiilhohdaaDoorDeedK
import Derived.Test.YtpdnakiilhohdaaDoorDrawB
import Derived.Test.YtpdnakiilhohdaaDoorLaidB
namespace Go.Proofs.YtpdnakiilhohdaaDoor.fnDeedText
open Go.ChangeShapes Go.WideShapes Go.ChangeAt Go.RowKit

set_option maxRecDepth 100000 in
set_option maxHeartbeats 3200000 in
theorem walk (A : Option Addr) (n c : Nat) (w : World) (hb : Bytes w w.heap.size A n) (hn : n ≤ c) (hc : c ≤ 9223372036854775807) (hp : PowOk w) (he : ErrOk w) :
    Calls Tryd.prog 3 #[.slice A n c] w (Gives (.bool true) w) := by
  by_cases hbig : 1048576 < n
  · go_enter Tryd.func3, Tryd.ntmps3
    go_wp2
    go_ret
    exact ⟨rfl, Below.refl _ _⟩
  · go_enter Tryd.func3, Tryd.ntmps3
    go_wp2_with fail
    refine (drawDeedT_any A n c _ hb hn hc).mono ?_
    rintro e w1 ⟨k, x, y, rfl, bb⟩
    have HP := Lib.hid hp
    have HE := Lib.hid he
    clear hb hn hc hp he
    obtain ⟨W, hW⟩ : ∃ W, W = w1.alloc (.cells #[.int .i64 k, .int .i64 x, .int .i64 y] 24) := ⟨_, rfl⟩
    have bx : Below w1.heap.size w1 W := by rw [hW]; exact box_below _ _ _
    have D : At3D W w1.heap.size k x y := ⟨by rw [hW]; exact heap_alloc_new _ _⟩
    replace bb := below_step bb bx
    obtain ⟨c0, c1, c2⟩ := D.c
    obtain ⟨T, hT⟩ : ∃ T, deedT ((k, x), y) = T := ⟨_, rfl⟩
    have HT := Lib.hid hT
    have hTt : (bs T).toList = T := ByteArray.toList_mk T
    have hTl : T.length ≤ 20 := by rw [← hT]; exact deedT_le _
    clear hT bx
    go_wp2_with (first | (rw [← hW]; clear hW) | fail)
    refine (deedI_is HT.out (HP.out.below bb)).mono ?_
    rintro e w2 ⟨rfl, b2⟩
    replace bb := below_step bb b2
    replace D := D.below b2
    clear c0 c1 c2 b2
    obtain ⟨c0, c1, c2⟩ := D.c
    go_wp2_with fail
    refine (deedS_is HT.out).mono ?_
    rintro e w3 ⟨rfl, b3⟩
    replace bb := below_step bb b3
    replace D := D.below b3
    clear c0 c1 c2 b3
    rcases hq : (T == []) with _ | _
    · have hne := beq_eq_false_iff_ne.1 hq
      obtain ⟨h1, h2⟩ := readD_yes (s := T) (deedT_ok (by rw [HT.out]; exact hne)) HT.out
      have H1 := Lib.hid h1
      have H2 := Lib.hid h2
      clear h1 h2 hne
      go_wp2_with fail
      refine (readI_is H1.out H2.out (by omega) (HP.out.below bb) (HE.out.below bb)).mono ?_
      rintro e w4 ⟨rfl, b4⟩
      replace bb := below_step bb b4
      replace D := D.below b4
      clear b4
      obtain ⟨W5, hW5⟩ : ∃ W, W = w4.alloc (.cells #[.int .i64 k, .int .i64 x, .int .i64 y] 24) := ⟨_, rfl⟩
      have bx : Below w4.heap.size w4 W5 := by rw [hW5]; exact box_below _ _ _
      have D5 : At3D W5 w4.heap.size k x y := ⟨by rw [hW5]; exact heap_alloc_new _ _⟩
      replace bb := below_step bb bx
      replace D := D.below bx
      obtain ⟨c0, c1, c2⟩ := D.c
      obtain ⟨d0, d1, d2⟩ := D5.c
      go_wp2_with (first | (rw [← hW5]; clear hW5) | fail)
      go_ret
      exact ⟨rfl, bb⟩
    · go_wp2_with fail
      refine (alive_any _).mono ?_
      rintro e w4 ⟨rfl, b4⟩
      go_wp2
      go_ret
      exact ⟨rfl, below_step bb b4⟩
set_option maxRecDepth 100000 in
theorem lifted (os : Os) (started : os.Started) (H : Type) (enc : TypeId × Value → H) :
    ReturnsInHanded {} Tryd.checked os 3 .any (fun w args => (Rows.fnDeedTextSpec.pre enc Tryd.prog Tryd.f3 Rows.fnDeedTextRow.domain false w args ∧ laidMetH Tryd.prog Rows.fnDeedTextRow.laid w) ∧ sizedMet enc Tryd.prog Tryd.f3 (OpenSpec.ofChange Rows.fnDeedTextSpec) false w args) (Rows.fnDeedTextSpec.post enc Tryd.prog Tryd.f3 false true false false) := by
  refine returnsInHanded_of_change_and (C := Tryd.checked) (X := fun w _ => laidMetH Tryd.prog Rows.fnDeedTextRow.laid w) (fun _ _ _ hh h => h.of_heap hh) own started (by kernel_rfl) Tryd.func3
    (ChangeSpec.witness_shaped (enc := enc) (C := Tryd.checked) (os := os) (X := fun w _ => laidMetH Tryd.prog Rows.fnDeedTextRow.laid w) false (World.laidAll Tryd.prog os Rows.fnDeedTextRow.laid) #[.slice none 0 0] 8 (World.laidAll_os _ _ _)
      (World.shaped_of_ZipB (by kernel_rfl) (by kernel_rfl)) (by kernel_rfl) (by kernel_rfl) (by kernel_rfl)
      (by rw [MakeChecks.laidMetH_plain _ _ _ (by kernel_rfl)]; exact laidMet_laidAll _ (by kernel_rfl) (by kernel_rfl))) ?_
  intro W base args ds gs before hval0 hW _ _ hL _
  rw [MakeChecks.laidMetH_plain _ _ _ (by kernel_rfl)] at hL
  have hval : ∀ (j : Nat) t v, Tryd.f3.params[j]? = some t → args[j]? = some v → Value.okWide Tryd.prog W .any base t v := hval0
  have hW' := hW
  obtain ⟨p, q, hA0, hV, rfl, _, _⟩ := hW
  have hA : DataW.TrodAll enc Tryd.prog W 0 (fun _ => true) true Tryd.f3.params.toList args.toList ds p := hA0
  rw [Tryd.params3] at hA hval
  obtain ⟨v0, d0, rfl, rfl, h0⟩ := trodAll_one hA
  obtain ⟨rfl, rfl⟩ := trodVars_none hV
  clear hA0 hval0
  simp only [List.append_nil] at hW'
  have hlt : ∀ x ∈ p, x.block < W.heap.size := fun x hx => by simpa using hW'.lt x hx
  have r0 := open_bytes (hval 0 22 v0 rfl rfl) h0 hlt
  obtain ⟨⟨bA, bn, bc⟩, rfl, rb, rn, rc⟩ := r0
  simp only at rb rn rc
  refine (walk bA bn bc W rb rn rc (varsB5 hL rfl (by kernel_rfl) (by kernel_rfl)).1 (varsB5 hL rfl (by kernel_rfl) (by kernel_rfl)).2).mono fun e W' hg => ?_
  obtain ⟨he, hb⟩ := hg
  subst he
  exact ⟨_, rfl, _, _, _, [], p, [], hW', trodAll_mk1 (shut_bool Tryd.underlying4 _), trodAll_mk1 (kept_arg (by kernel_rfl) (of_decide_eq_true (by kernel_rfl)) h0 hb hlt), rfl, hb.frame _, fun h => by cases h⟩

theorem row : Rows.FnDeedTextSaid :=
  OpenClaim.holds_of_wide 3 Tryd.f3 rfl rfl rfl rfl rfl rfl rfl ⟨rfl, rfl, rfl, rfl, rfl⟩ rfl rfl rfl rfl rfl (by kernel_rfl) Tryd.func3 (by kernel_rfl)
    (of_decide_eq_true (by kernel_rfl)) (by unfold Func.isWrapper; first | (rw [if_pos (by decide +kernel)]; kernel_rfl) | (rw [if_neg (by decide +kernel)]; exact ⟨rfl, rfl⟩))
    (fun os started H enc _ => lifted os started H enc)
theorem holds : Rows.FnDeedTextCardSaid :=
  Claim7.holds_tied_plain_at .later [] Rows.fnDeedTextCard.laidKinds true Rows.fnDeedTextCard.stood.harness Rows.fnDeedTextCard.stood.looks row (fun _ h => by cases h) (by kernel_rfl) (fun _ h => by cases h) fnDeedText_row_tie rfl ⟨rfl, rfl⟩ (by kernel_rfl) rfl
    (fun f fn hf hfn => by
      obtain rfl : f = 3 := Option.some.inj ((show Tryd.prog.funcNamed Rows.fnDeedTextRow.func = some 3 by kernel_rfl).symm.trans hf) |>.symm
      obtain rfl : fn = Tryd.f3 := (Option.some.inj (Tryd.func3.symm.trans hfn)).symm
      exact ⟨by kernel_rfl, fun j t ht => by
        rw [Tryd.params3] at ht
        have hm : t ∈ [22] := by simpa using Array.mem_of_getElem? ht
        have hall : ([22].all fun u => !Tryd.prog.wantsStandIn u) = true := by kernel_rfl
        exact (show Tryd.prog.wantsStandIn t = false by simpa using List.all_eq_true.1 hall t hm)⟩)
    (by kernel_rfl)
end Go.Proofs.YtpdnakiilhohdaaDoor.fnDeedText
