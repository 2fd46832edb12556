/-
  Proved: the law of ReadDeed (FnReadDeed) returns true for every code, and the code reads afterwards as it read before. No conditions but the row's own: what the listed variables of the library hold.
-/
import Derived.Test.YtpdnakiilhohdaaDoorDeedJ
import Derived.Test.YtpdnakiilhohdaaDoorDeedK
import Derived.Test.YtpdnakiilhohdaaDoorDrawB
import Derived.Test.YtpdnakiilhohdaaDoorLaidB
namespace Go.Proofs.YtpdnakiilhohdaaDoor.fnReadDeed
open Go.ChangeShapes Go.WideShapes Go.ChangeAt Go.RowKit

set_option maxRecDepth 100000 in
set_option maxHeartbeats 3200000 in
theorem walk (A : Option Addr) (n c : Nat) (w : World) (hb : Bytes w w.heap.size A n) (hn : n ≤ c) (hc : c ≤ 9223372036854775807) (hp : PowOk w) (he : ErrOk w) :
    Calls Tryd.prog 4 #[.slice A n c] w (Gives (.bool true) w) := by
  by_cases hbig : 1048576 < n
  · go_enter Tryd.func4, Tryd.ntmps4
    go_wp2
    go_ret
    exact ⟨rfl, Below.refl _ _⟩
  · go_enter Tryd.func4, Tryd.ntmps4
    go_wp2_with fail
    refine (drawReadDeed_any A n c _ hb hn hc).mono ?_
    rintro e w1 ⟨s, rfl, hsl, bb⟩
    have HP := Lib.hid hp
    have HE := Lib.hid he
    clear hb hn hc hp he
    obtain ⟨R, hR⟩ : ∃ R, readDR s = R := ⟨_, rfl⟩
    obtain ⟨OK, hOK⟩ : ∃ OK, readDOk s = OK := ⟨_, rfl⟩
    have HR := Lib.hid hR
    have HO := Lib.hid hOK
    obtain ⟨⟨Rk, Rx⟩, Ry⟩ := R
    clear hR hOK
    have hst : (bs s).toList = s := ByteArray.toList_mk s
    go_wp2_with fail
    refine (readI_is HR.out HO.out (by omega) (HP.out.below bb) (HE.out.below bb)).mono ?_
    rintro e w2 ⟨rfl, b2⟩
    replace bb := below_step bb b2
    obtain ⟨W3, hW3⟩ : ∃ W, W = (w2).alloc (.cells #[.int .i64 Rk, .int .i64 Rx, .int .i64 Ry] 24) := ⟨_, rfl⟩
    have bx : Below (w2).heap.size w2 W3 := by rw [hW3]; exact box_below _ _ _
    have D3 : At3D W3 (w2).heap.size Rk Rx Ry := ⟨by rw [hW3]; exact heap_alloc_new _ _⟩
    replace bb := below_step bb bx
    go_wp2_with (first | (rw [← hW3]; clear hW3) | fail)
    refine (readS_is HR.out HO.out (by omega)).mono ?_
    rintro e w4 ⟨rfl, b4⟩
    replace bb := below_step bb b4
    replace D3 := D3.below b4
    obtain ⟨W5, hW5⟩ : ∃ W, W = (w4).alloc (.cells #[.int .i64 Rk, .int .i64 Rx, .int .i64 Ry] 24) := ⟨_, rfl⟩
    have bx : Below (w4).heap.size w4 W5 := by rw [hW5]; exact box_below _ _ _
    have D5 : At3D W5 (w4).heap.size Rk Rx Ry := ⟨by rw [hW5]; exact heap_alloc_new _ _⟩
    replace bb := below_step bb bx
    replace D3 := D3.below bx
    obtain ⟨c0, c1, c2⟩ := D3.c
    obtain ⟨d0, d1, d2⟩ := D5.c
    clear bx b2 b4
    cases OK with
    | false =>
      obtain ⟨h1, _⟩ := readD_fail (s := s) HO.out
      rw [HR.out] at h1
      have hz : Rk = 0 ∧ Rx = 0 ∧ Ry = 0 := by
        have e1 := congrArg (fun a => a.1.1) h1
        have e2 := congrArg (fun a => a.1.2) h1
        have e3 := congrArg (fun a => a.2) h1
        exact ⟨e1, e2, e3⟩
      have q1 : (Rk == 0) = true := beq_iff_eq.2 hz.1
      have q2 : (Rx == 0) = true := beq_iff_eq.2 hz.2.1
      have q3 : (Ry == 0) = true := beq_iff_eq.2 hz.2.2
      clear hz h1
      go_wp2_with (first | (rw [← hW5]; clear hW5) | fail)
      refine (alive_any _).mono ?_
      rintro e w6 ⟨rfl, b6⟩
      go_wp2
      go_ret
      exact ⟨rfl, below_step bb b6⟩
    | true =>
      obtain ⟨h1, h2⟩ := readD_ok (s := s) HO.out
      rw [HR.out] at h1 h2
      have H2 := Lib.hid h2
      obtain ⟨M, hM⟩ : ∃ M, s ++ [32] = M := ⟨_, rfl⟩
      have hMl : M.length ≤ 200 := by rw [← hM, List.length_append, List.length_singleton]; omega
      have hno : readDOk M = false := by rw [← hM]; exact readD_space s
      obtain ⟨⟨⟨Zk, Zx⟩, Zy⟩, hn1⟩ : ∃ Z, readDR M = Z := ⟨_, rfl⟩
      have HN := Lib.hid hno
      have HN1 := Lib.hid hn1
      have hadd := add_lit (P := Tryd.prog) s 32 (by omega)
      rw [hM] at hadd
      clear h1 h2 hM hno hn1
      go_wp2_with (first | (rw [← hW5]; clear hW5) | fail)
      refine (readI_is HN1.out HN.out (by omega) (HP.out.below bb) (HE.out.below bb)).mono ?_
      rintro e w6 ⟨rfl, b6⟩
      replace bb := below_step bb b6
      replace D3 := D3.below b6
      obtain ⟨W7, hW7⟩ : ∃ W, W = w6.alloc (.cells #[.int .i64 Zk, .int .i64 Zx, .int .i64 Zy] 24) := ⟨_, rfl⟩
      have bx : Below w6.heap.size w6 W7 := by rw [hW7]; exact box_below _ _ _
      replace bb := below_step bb bx
      replace D3 := D3.below bx
      clear c0 c1 c2 d0 d1 d2 b6 bx
      obtain ⟨c0, c1, c2⟩ := D3.c
      go_wp2_with (first | (rw [← hW7]; clear hW7) | fail)
      refine (deedI_is H2.out (HP.out.below bb)).mono ?_
      rintro e w8 ⟨rfl, b8⟩
      go_wp2
      go_ret
      exact ⟨rfl, below_step bb b8⟩
set_option maxRecDepth 100000 in
theorem lifted (os : Os) (started : os.Started) (H : Type) (enc : TypeId × Value → H) :
    ReturnsInHanded {} Tryd.checked os 4 .any (fun w args => (Rows.fnReadDeedSpec.pre enc Tryd.prog Tryd.f4 Rows.fnReadDeedRow.domain false w args ∧ laidMetH Tryd.prog Rows.fnReadDeedRow.laid w) ∧ sizedMet enc Tryd.prog Tryd.f4 (OpenSpec.ofChange Rows.fnReadDeedSpec) false w args) (Rows.fnReadDeedSpec.post enc Tryd.prog Tryd.f4 false true false false) := by
  refine returnsInHanded_of_change_and (C := Tryd.checked) (X := fun w _ => laidMetH Tryd.prog Rows.fnReadDeedRow.laid w) (fun _ _ _ hh h => h.of_heap hh) own started (by kernel_rfl) Tryd.func4
    (ChangeSpec.witness_shaped (enc := enc) (C := Tryd.checked) (os := os) (X := fun w _ => laidMetH Tryd.prog Rows.fnReadDeedRow.laid w) false (World.laidAll Tryd.prog os Rows.fnReadDeedRow.laid) #[.slice none 0 0] 8 (World.laidAll_os _ _ _)
      (World.shaped_of_ZipB (by kernel_rfl) (by kernel_rfl)) (by kernel_rfl) (by kernel_rfl) (by kernel_rfl)
      (by rw [MakeChecks.laidMetH_plain _ _ _ (by kernel_rfl)]; exact laidMet_laidAll _ (by kernel_rfl) (by kernel_rfl))) ?_
  intro W base args ds gs before hval0 hW _ _ hL _
  rw [MakeChecks.laidMetH_plain _ _ _ (by kernel_rfl)] at hL
  have hval : ∀ (j : Nat) t v, Tryd.f4.params[j]? = some t → args[j]? = some v → Value.okWide Tryd.prog W .any base t v := hval0
  have hW' := hW
  obtain ⟨p, q, hA0, hV, rfl, _, _⟩ := hW
  have hA : DataW.TrodAll enc Tryd.prog W 0 (fun _ => true) true Tryd.f4.params.toList args.toList ds p := hA0
  rw [Tryd.params4] at hA hval
  obtain ⟨v0, d0, rfl, rfl, h0⟩ := trodAll_one hA
  obtain ⟨rfl, rfl⟩ := trodVars_none hV
  clear hA0 hval0
  simp only [List.append_nil] at hW'
  have hlt : ∀ x ∈ p, x.block < W.heap.size := fun x hx => by simpa using hW'.lt x hx
  have r0 := open_bytes (hval 0 22 v0 rfl rfl) h0 hlt
  obtain ⟨⟨bA, bn, bc⟩, rfl, rb, rn, rc⟩ := r0
  simp only at rb rn rc
  refine (walk bA bn bc W rb rn rc (varsB5 hL rfl (by kernel_rfl) (by kernel_rfl)).1 (varsB5 hL rfl (by kernel_rfl) (by kernel_rfl)).2).mono fun e W' hg => ?_
  obtain ⟨he, hb⟩ := hg
  subst he
  exact ⟨_, rfl, _, _, _, [], p, [], hW', trodAll_mk1 (shut_bool Tryd.underlying4 _), trodAll_mk1 (kept_arg (by kernel_rfl) (of_decide_eq_true (by kernel_rfl)) h0 hb hlt), rfl, hb.frame _, fun h => by cases h⟩

theorem row : Rows.FnReadDeedSaid :=
  OpenClaim.holds_of_wide 4 Tryd.f4 rfl rfl rfl rfl rfl rfl rfl ⟨rfl, rfl, rfl, rfl, rfl⟩ rfl rfl rfl rfl rfl (by kernel_rfl) Tryd.func4 (by kernel_rfl)
    (of_decide_eq_true (by kernel_rfl)) (by unfold Func.isWrapper; first | (rw [if_pos (by decide +kernel)]; kernel_rfl) | (rw [if_neg (by decide +kernel)]; exact ⟨rfl, rfl⟩))
    (fun os started H enc _ => lifted os started H enc)
theorem holds : Rows.FnReadDeedCardSaid :=
  Claim7.holds_tied_plain_at .later [] Rows.fnReadDeedCard.laidKinds true Rows.fnReadDeedCard.stood.harness Rows.fnReadDeedCard.stood.looks row (fun _ h => by cases h) (by kernel_rfl) (fun _ h => by cases h) fnReadDeed_row_tie rfl ⟨rfl, rfl⟩ (by kernel_rfl) rfl
    (fun f fn hf hfn => by
      obtain rfl : f = 4 := Option.some.inj ((show Tryd.prog.funcNamed Rows.fnReadDeedRow.func = some 4 by kernel_rfl).symm.trans hf) |>.symm
      obtain rfl : fn = Tryd.f4 := (Option.some.inj (Tryd.func4.symm.trans hfn)).symm
      exact ⟨by kernel_rfl, fun j t ht => by
        rw [Tryd.params4] at ht
        have hm : t ∈ [22] := by simpa using Array.mem_of_getElem? ht
        have hall : ([22].all fun u => !Tryd.prog.wantsStandIn u) = true := by kernel_rfl
        exact (show Tryd.prog.wantsStandIn t = false by simpa using List.all_eq_true.1 hall t hm)⟩)
    (by kernel_rfl)
end Go.Proofs.YtpdnakiilhohdaaDoor.fnReadDeed
