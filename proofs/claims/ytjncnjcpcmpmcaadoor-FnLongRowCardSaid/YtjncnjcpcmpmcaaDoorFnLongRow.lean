/-
  Proved: the law of LongRow (FnLongRow) returns true for every code, and the code reads afterwards as it read before. No conditions but the row's own: what the listed variables of the library hold.
-/
import Derived.Test.YtjncnjcpcmpmcaaDoorDrawsT
import Derived.Test.YtjncnjcpcmpmcaaDoorLongI
import Derived.Test.YtjncnjcpcmpmcaaDoorLaidD
import Derived.Test.YtjncnjcpcmpmcaaDoorOpen
namespace Go.Proofs.YtjncnjcpcmpmcaaDoor.fnLongRow
open Go.ChangeShapes Go.WideShapes Go.ChangeAt Go.RowKit

theorem longI_lit {l r : Bs} {b : Bool} {w : World} (hr : longR l = r) (hb : longOk l = b) (hl : l.length ≤ 1048576) (he : ErrOk w) : Calls Tryd.prog 26 #[.string (bs l)] w (Gives (.tuple #[.string (bs r), .bool b]) w) := by
  subst hr hb; exact implLong_any l w hl he
theorem longS_lit {l r : Bs} {b : Bool} {w : World} (hr : longR l = r) (hb : longOk l = b) (hl : l.length ≤ 1048576) : Calls Tryd.prog 28 #[.string (bs l)] w (Gives (.tuple #[.string (bs r), .bool b]) w) := by
  subst hr hb; exact specLong_any l w hl
set_option maxRecDepth 100000 in
set_option maxHeartbeats 1600000 in
theorem walk (A : Option Addr) (n c : Nat) (w : World) (hb : Bytes w w.heap.size A n) (hn : n ≤ c) (hc : c ≤ 9223372036854775807) (he : ErrOk w) :
    Calls Tryd.prog 6 #[.slice A n c] w (Gives (.bool true) w) := by
  by_cases hbig : 1048576 < n
  · go_enter Tryd.func6, Tryd.ntmps6
    go_wp2
    go_ret
    exact ⟨rfl, Below.refl _ _⟩
  · go_enter Tryd.func6, Tryd.ntmps6
    go_wp2_with fail
    refine (drawLongRow_any A n c _ hb hn hc).mono ?_
    rintro e w1 ⟨l, rfl, hl, bb⟩
    obtain ⟨R, hR⟩ : ∃ R, longR l = R := ⟨_, rfl⟩
    have htl : (bs l).toList = l := ByteArray.toList_mk l
    have htx : (bs R).toList = R := ByteArray.toList_mk R
    have hsl := bs_size l
    have hsx := bs_size R
    have HE := Lib.hid he
    clear hb hn hc he
    rcases hk : longOk l with _ | _
    · have h0 : R = [] := by rw [← hR]; exact (long_fail hk).1
      have hq : (R == []) = true := by rw [h0]; rfl
      have ci := Lib.hid (fun W (hW : ErrOk W) => longI_lit hR hk (by omega) hW)
      have cs := Lib.hid (fun W => longS_lit (w := W) hR hk (by omega))
      clear hR hk h0
      go_wp2_with fail
      refine (ci.out _ (HE.out.below bb)).mono ?_
      rintro e w2 ⟨rfl, bn⟩
      have bb := below_step bb bn
      clear bn
      go_wp2_with fail
      refine (cs.out _).mono ?_
      rintro e w3 ⟨rfl, bn⟩
      have bb := below_step bb bn
      clear bn
      go_wp2_with fail
      refine (alive_any _).mono ?_
      rintro e w4 ⟨rfl, bn⟩
      go_wp2
      go_ret
      exact ⟨rfl, below_step bb bn⟩
    · obtain ⟨h1, h2⟩ := long_ok hk
      rw [hR] at h1 h2
      have hR61 := (rowOk_is.1 h1).1.2
      have hle : l.length ≤ R.length := by rw [← h2]; exact shortR_length h1
      have hd : decide ((l.length : Int) ≤ (R.length : Int)) = true := decT (by omega)
      have ci := Lib.hid (fun W (hW : ErrOk W) => longI_lit hR hk (by omega) hW)
      have cs := Lib.hid (fun W => longS_lit (w := W) hR hk (by omega))
      have ch := Lib.hid (fun W => shortI_lit (l := R) (r := l) (by omega) h2 W)
      clear hR hk h1 h2
      go_wp2_with fail
      refine (ci.out _ (HE.out.below bb)).mono ?_
      rintro e w2 ⟨rfl, bn⟩
      have bb := below_step bb bn
      clear bn
      go_wp2_with fail
      refine (cs.out _).mono ?_
      rintro e w3 ⟨rfl, bn⟩
      have bb := below_step bb bn
      clear bn
      go_wp2_with fail
      refine (ch.out _).mono ?_
      rintro e w4 ⟨rfl, bn⟩
      go_wp2
      go_ret
      exact ⟨rfl, below_step bb bn⟩

set_option maxRecDepth 100000 in
theorem lifted (os : Os) (started : os.Started) (H : Type) (enc : TypeId × Value → H) :
    ReturnsInHanded {} Tryd.checked os 6 .any (fun w args => (Rows.fnLongRowSpec.pre enc Tryd.prog Tryd.f6 Rows.fnLongRowRow.domain false w args ∧ laidMetH Tryd.prog Rows.fnLongRowRow.laid w) ∧ sizedMet enc Tryd.prog Tryd.f6 (OpenSpec.ofChange Rows.fnLongRowSpec) false w args) (Rows.fnLongRowSpec.post enc Tryd.prog Tryd.f6 false true false false) := by
  refine returnsInHanded_of_change_and (C := Tryd.checked) (X := fun w _ => laidMetH Tryd.prog Rows.fnLongRowRow.laid w) (fun _ _ _ hh h => h.of_heap hh) own started (by kernel_rfl) Tryd.func6
    (ChangeSpec.witness_shaped (enc := enc) (C := Tryd.checked) (os := os) (X := fun w _ => laidMetH Tryd.prog Rows.fnLongRowRow.laid w) false (World.laidAll Tryd.prog os Rows.fnLongRowRow.laid) #[.slice none 0 0] 8 (World.laidAll_os _ _ _)
      (World.shaped_of_ZipB (by kernel_rfl) (by kernel_rfl)) (by kernel_rfl) (by kernel_rfl) (by kernel_rfl)
      (by rw [MakeChecks.laidMetH_plain _ _ _ (by kernel_rfl)]; exact laidMet_laidAll _ (by kernel_rfl) (by kernel_rfl))) ?_
  intro W base args ds gs before hval0 hW _ _ hL _
  rw [MakeChecks.laidMetH_plain _ _ _ (by kernel_rfl)] at hL
  have hval : ∀ (j : Nat) t v, Tryd.f6.params[j]? = some t → args[j]? = some v → Value.okWide Tryd.prog W .any base t v := hval0
  have hW' := hW
  obtain ⟨p, q, hA0, hV, rfl, _, _⟩ := hW
  have hA : DataW.TrodAll enc Tryd.prog W 0 (fun _ => true) true Tryd.f6.params.toList args.toList ds p := hA0
  rw [Tryd.params6] at hA hval
  obtain ⟨v0, d0, rfl, rfl, h0⟩ := trodAll_one hA
  obtain ⟨rfl, rfl⟩ := trodVars_none hV
  clear hA0 hval0
  simp only [List.append_nil] at hW'
  have hlt : ∀ x ∈ p, x.block < W.heap.size := fun x hx => by simpa using hW'.lt x hx
  have r0 := open_bytes (hval 0 22 v0 rfl rfl) h0 hlt
  obtain ⟨⟨bA, bn, bc⟩, rfl, rb, rn, rc⟩ := r0
  simp only at rb rn rc
  refine (walk bA bn bc W rb rn rc (vars7 hL).2).mono fun e W' hg => ?_
  obtain ⟨he, hb⟩ := hg
  subst he
  exact ⟨_, rfl, _, _, _, [], p, [], hW', trodAll_mk1 (shut_bool Tryd.underlying4 _), trodAll_mk1 (kept_arg (by kernel_rfl) (of_decide_eq_true (by kernel_rfl)) h0 hb hlt), rfl, hb.frame _, fun h => by cases h⟩

theorem row : Rows.FnLongRowSaid :=
  OpenClaim.holds_of_wide 6 Tryd.f6 rfl rfl rfl rfl rfl rfl rfl ⟨rfl, rfl, rfl, rfl, rfl⟩ rfl rfl rfl rfl rfl (by kernel_rfl) Tryd.func6 (by kernel_rfl)
    (of_decide_eq_true (by kernel_rfl)) (by unfold Func.isWrapper; first | (rw [if_pos (by decide +kernel)]; kernel_rfl) | (rw [if_neg (by decide +kernel)]; exact ⟨rfl, rfl⟩))
    (fun os started H enc _ => lifted os started H enc)
theorem holds : Rows.FnLongRowCardSaid :=
  Claim7.holds_tied_plain_at .later [] Rows.fnLongRowCard.laidKinds true Rows.fnLongRowCard.stood.harness Rows.fnLongRowCard.stood.looks row (fun _ h => by cases h) (by kernel_rfl) (fun _ h => by cases h) fnLongRow_row_tie rfl ⟨rfl, rfl⟩ (by kernel_rfl) rfl
    (fun f fn hf hfn => by
      obtain rfl : f = 6 := Option.some.inj ((show Tryd.prog.funcNamed Rows.fnLongRowRow.func = some 6 by kernel_rfl).symm.trans hf) |>.symm
      obtain rfl : fn = Tryd.f6 := (Option.some.inj (Tryd.func6.symm.trans hfn)).symm
      exact ⟨by kernel_rfl, fun j t ht => by
        rw [Tryd.params6] at ht
        have hm : t ∈ [22] := by simpa using Array.mem_of_getElem? ht
        have hall : ([22].all fun u => !Tryd.prog.wantsStandIn u) = true := by kernel_rfl
        exact (show Tryd.prog.wantsStandIn t = false by simpa using List.all_eq_true.1 hall t hm)⟩)
    (by kernel_rfl)
end Go.Proofs.YtjncnjcpcmpmcaaDoor.fnLongRow
