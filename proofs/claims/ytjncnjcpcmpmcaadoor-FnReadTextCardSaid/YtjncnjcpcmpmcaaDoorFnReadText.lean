/-
  Proved: the law of ReadText (FnReadText) returns true for every code, and the code reads afterwards as it read before. No conditions but the row's own: what the listed variables of the library hold.
-/
import Derived.Test.YtjncnjcpcmpmcaaDoorDrawsT
import Derived.Test.YtjncnjcpcmpmcaaDoorReadJ
import Derived.Test.YtjncnjcpcmpmcaaDoorEq
import Derived.Test.YtjncnjcpcmpmcaaDoorLaidD
import Derived.Test.YtjncnjcpcmpmcaaDoorOpen
namespace Go.Proofs.YtjncnjcpcmpmcaaDoor.fnReadText
open Go.ChangeShapes Go.WideShapes Go.ChangeAt Go.RowKit

theorem readS_is {l : Bs} {w : World} {ps : List Sp} {b : Bool} (hs : readR l = ps) (hb : readOk l = b) (hl : l.length ≤ 1048576) : Calls Tryd.prog 22 #[.string (bs l)] w (Gives2' ps b w) := by
  subst hs hb; exact specRead_any l w (by omega)
theorem readI_is {l : Bs} {w : World} {ps : List Sp} {b : Bool} (hs : readR l = ps) (hb : readOk l = b) (hl : l.length ≤ 1048577) (hp : PowOk w) (he : ErrOk w) : Calls Tryd.prog 16 #[.string (bs l)] w (Gives2' ps b w) := by
  subst hs hb; exact implRead_any l w (by omega) hp he

set_option maxRecDepth 100000 in
set_option maxHeartbeats 3200000 in
theorem walk (A : Option Addr) (n c : Nat) (w : World) (hb : Bytes w w.heap.size A n) (hn : n ≤ c) (hc : c ≤ 9223372036854775807) (hp : PowOk w) (he : ErrOk w) :
    Calls Tryd.prog 4 #[.slice A n c] w (Gives (.bool true) w) := by
  by_cases hbig : 1048576 < n
  · go_enter Tryd.func4, Tryd.ntmps4
    go_wp2
    go_ret
    exact ⟨rfl, Below.refl _ _⟩
  · go_enter Tryd.func4, Tryd.ntmps4
    go_wp2_with fail
    refine (drawReadText_any A n c _ hb hn hc).mono ?_
    rintro e w1 ⟨l, rfl, hl, bb⟩
    have htl : (bs l).toList = l := ByteArray.toList_mk l
    have hsl := bs_size l
    have HP := Lib.hid hp
    have HE := Lib.hid he
    clear hb hn hc hp he
    obtain ⟨P, hP⟩ : ∃ P, readR l = P := ⟨_, rfl⟩
    rcases hk : readOk l with _ | _
    · have h0 : P = [] := by rw [← hP]; exact (read_fail hk).1
      have ci := Lib.hid (fun W (hW : PowOk W) (hW2 : ErrOk W) => readI_is hP hk (by omega) hW hW2)
      have cs := Lib.hid (fun W => readS_is (w := W) hP hk (by omega))
      have hp0 : P.length = 0 := by rw [h0]; rfl
      have hpd : ((P.length : Int) == 0) = true := by rw [hp0]; rfl
      clear hP hk h0 hp0
      go_wp2_with fail
      refine (ci.out _ (HP.out.below bb) (HE.out.below bb)).mono ?_
      rintro e w2 ⟨v2, rfl, o2, bn⟩
      have bb := below_step bb bn
      clear bn
      go_wp2_with fail
      refine (cs.out _).mono ?_
      rintro e w3 ⟨v3, rfl, o3, bn⟩
      have bb := below_step bb bn
      have o2 := o2.below bn
      clear bn
      go_wp2_with fail
      refine (gives_is (show decide (P = P) = true by simp) (sameSpots_any _ _ _ _ _ o2.reads o3.reads)).mono ?_
      rintro e w4 ⟨rfl, bn⟩
      have bb := below_step bb bn
      have o2 := o2.below bn
      clear bn o3
      obtain ⟨A5, c5, rfl, _, _⟩ := o2.reads.slice
      go_wp2_with fail
      refine (alive_any _).mono ?_
      rintro e w5 ⟨rfl, bn⟩
      go_wp2
      go_ret
      exact ⟨rfl, below_step bb bn⟩
    · obtain ⟨h1, h2⟩ := read_ok hk
      rw [hP] at h1 h2
      have ci := Lib.hid (fun W (hW : PowOk W) (hW2 : ErrOk W) => readI_is hP hk (by omega) hW hW2)
      have cs := Lib.hid (fun W => readS_is (w := W) hP hk (by omega))
      obtain ⟨M, hM⟩ : ∃ M, l ++ [47] = M := ⟨_, rfl⟩
      have hMl : M.length = l.length + 1 := by rw [← hM]; simp
      have hML : M.length ≤ 1048577 := by omega
      have hno := read_no (s := M) (by rw [← hM]; exact no_slash l)
      have cn := Lib.hid (fun W (hW : PowOk W) (hW2 : ErrOk W) => readI_is (w := W) hno.1 hno.2 hML hW hW2)
      have hadd := add_lit (P := Tryd.prog) l 47 (by omega)
      rw [hM] at hadd
      have ct := Lib.hid (fun W (v : Value) (hW : Reads W W.heap.size v P) (hp : PowOk W) => textI_lit hW h2 hp)
      clear hP hk h1 h2 hM hMl hML hno
      go_wp2_with fail
      refine (ci.out _ (HP.out.below bb) (HE.out.below bb)).mono ?_
      rintro e w2 ⟨v2, rfl, o2, bn⟩
      have bb := below_step bb bn
      clear bn
      go_wp2_with fail
      refine (cs.out _).mono ?_
      rintro e w3 ⟨v3, rfl, o3, bn⟩
      have bb := below_step bb bn
      have o2 := o2.below bn
      clear bn
      go_wp2_with fail
      refine (gives_is (show decide (P = P) = true by simp) (sameSpots_any _ _ _ _ _ o2.reads o3.reads)).mono ?_
      rintro e w4 ⟨rfl, bn⟩
      have bb := below_step bb bn
      have o2 := o2.below bn
      clear bn o3
      go_wp2_with fail
      refine (cn.out _ (HP.out.below bb) (HE.out.below bb)).mono ?_
      rintro e w5 ⟨v5, rfl, o5, bn⟩
      have bb := below_step bb bn
      have o2 := o2.below bn
      clear bn o5
      go_wp2_with fail
      refine (ct.out _ _ o2.reads (HP.out.below bb)).mono ?_
      rintro e w6 ⟨rfl, bn⟩
      have bb := below_step bb bn
      go_wp2
      go_ret
      exact ⟨rfl, bb⟩

set_option maxRecDepth 100000 in
theorem lifted (os : Os) (started : os.Started) (H : Type) (enc : TypeId × Value → H) :
    ReturnsInHanded {} Tryd.checked os 4 .any (fun w args => (Rows.fnReadTextSpec.pre enc Tryd.prog Tryd.f4 Rows.fnReadTextRow.domain false w args ∧ laidMetH Tryd.prog Rows.fnReadTextRow.laid w) ∧ sizedMet enc Tryd.prog Tryd.f4 (OpenSpec.ofChange Rows.fnReadTextSpec) false w args) (Rows.fnReadTextSpec.post enc Tryd.prog Tryd.f4 false true false false) := by
  refine returnsInHanded_of_change_and (C := Tryd.checked) (X := fun w _ => laidMetH Tryd.prog Rows.fnReadTextRow.laid w) (fun _ _ _ hh h => h.of_heap hh) own started (by kernel_rfl) Tryd.func4
    (ChangeSpec.witness_shaped (enc := enc) (C := Tryd.checked) (os := os) (X := fun w _ => laidMetH Tryd.prog Rows.fnReadTextRow.laid w) false (World.laidAll Tryd.prog os Rows.fnReadTextRow.laid) #[.slice none 0 0] 8 (World.laidAll_os _ _ _)
      (World.shaped_of_ZipB (by kernel_rfl) (by kernel_rfl)) (by kernel_rfl) (by kernel_rfl) (by kernel_rfl)
      (by rw [MakeChecks.laidMetH_plain _ _ _ (by kernel_rfl)]; exact laidMet_laidAll _ (by kernel_rfl) (by kernel_rfl))) ?_
  intro W base args ds gs before hval0 hW _ _ hL _
  rw [MakeChecks.laidMetH_plain _ _ _ (by kernel_rfl)] at hL
  have hval : ∀ (j : Nat) t v, Tryd.f4.params[j]? = some t → args[j]? = some v → Value.okWide Tryd.prog W .any base t v := hval0
  have hW' := hW
  obtain ⟨p, q, hA0, hV, rfl, _, _⟩ := hW
  have hA : DataW.TrodAll enc Tryd.prog W 0 (fun _ => true) true Tryd.f4.params.toList args.toList ds p := hA0
  rw [Tryd.params4] at hA hval
  obtain ⟨v0, d0, rfl, rfl, h0⟩ := trodAll_one hA
  obtain ⟨rfl, rfl⟩ := trodVars_none hV
  clear hA0 hval0
  simp only [List.append_nil] at hW'
  have hlt : ∀ x ∈ p, x.block < W.heap.size := fun x hx => by simpa using hW'.lt x hx
  have r0 := open_bytes (hval 0 22 v0 rfl rfl) h0 hlt
  obtain ⟨⟨bA, bn, bc⟩, rfl, rb, rn, rc⟩ := r0
  simp only at rb rn rc
  refine (walk bA bn bc W rb rn rc (vars5 hL).1 (vars5 hL).2).mono fun e W' hg => ?_
  obtain ⟨he, hb⟩ := hg
  subst he
  exact ⟨_, rfl, _, _, _, [], p, [], hW', trodAll_mk1 (shut_bool Tryd.underlying4 _), trodAll_mk1 (kept_arg (by kernel_rfl) (of_decide_eq_true (by kernel_rfl)) h0 hb hlt), rfl, hb.frame _, fun h => by cases h⟩

theorem row : Rows.FnReadTextSaid :=
  OpenClaim.holds_of_wide 4 Tryd.f4 rfl rfl rfl rfl rfl rfl rfl ⟨rfl, rfl, rfl, rfl, rfl⟩ rfl rfl rfl rfl rfl (by kernel_rfl) Tryd.func4 (by kernel_rfl)
    (of_decide_eq_true (by kernel_rfl)) (by unfold Func.isWrapper; first | (rw [if_pos (by decide +kernel)]; kernel_rfl) | (rw [if_neg (by decide +kernel)]; exact ⟨rfl, rfl⟩))
    (fun os started H enc _ => lifted os started H enc)
theorem holds : Rows.FnReadTextCardSaid :=
  Claim7.holds_tied_plain_at .later [] Rows.fnReadTextCard.laidKinds true Rows.fnReadTextCard.stood.harness Rows.fnReadTextCard.stood.looks row (fun _ h => by cases h) (by kernel_rfl) (fun _ h => by cases h) fnReadText_row_tie rfl ⟨rfl, rfl⟩ (by kernel_rfl) rfl
    (fun f fn hf hfn => by
      obtain rfl : f = 4 := Option.some.inj ((show Tryd.prog.funcNamed Rows.fnReadTextRow.func = some 4 by kernel_rfl).symm.trans hf) |>.symm
      obtain rfl : fn = Tryd.f4 := (Option.some.inj (Tryd.func4.symm.trans hfn)).symm
      exact ⟨by kernel_rfl, fun j t ht => by
        rw [Tryd.params4] at ht
        have hm : t ∈ [22] := by simpa using Array.mem_of_getElem? ht
        have hall : ([22].all fun u => !Tryd.prog.wantsStandIn u) = true := by kernel_rfl
        exact (show Tryd.prog.wantsStandIn t = false by simpa using List.all_eq_true.1 hall t hm)⟩)
    (by kernel_rfl)
end Go.Proofs.YtjncnjcpcmpmcaaDoor.fnReadText
