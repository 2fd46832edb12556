/-
  Proved: the law of TextOf (FnTextOf) returns true for every code, and the code reads afterwards as it read before. No conditions but the row's own: what the listed variables of the library hold.
-/
import Derived.Test.YtjncnjcpcmpmcaaDoorDrawsT
import Derived.Test.YtjncnjcpcmpmcaaDoorReadJ
import Derived.Test.YtjncnjcpcmpmcaaDoorMove
import Derived.Test.YtjncnjcpcmpmcaaDoorStrL
import Derived.Test.YtjncnjcpcmpmcaaDoorEq
import Derived.Test.YtjncnjcpcmpmcaaDoorLaidD
import Derived.Test.YtjncnjcpcmpmcaaDoorOpen
namespace Go.Proofs.YtjncnjcpcmpmcaaDoor.fnTextOf
open Go.ChangeShapes Go.WideShapes Go.ChangeAt Go.RowKit

theorem parts {p : List Sp} {x y : Int} (h : moveOk p (x, y) = true) : picB p = true ∧ wide (x, y) = true ∧ picB (moved p (x, y)) = true ∧ moveL p (x, y) = moved p (x, y) := by
  have h' := h
  unfold moveOk at h'
  simp only [Bool.and_eq_true] at h'
  exact ⟨h'.1.1, h'.1.2, h'.2, by unfold moveL; rw [h]; rfl⟩
theorem rows_same {p : List Sp} (h : moveOk p (1, 0) = true) : rowsT (moveL p (1, 0)) = rowsT p := by
  obtain ⟨h1, _, h3, h4⟩ := parts h
  rw [h4]
  refine rows_moved (d := 1) h1 h3 ?_
  unfold moved
  refine List.map_congr_left fun b _ => ?_
  simp
theorem move_lit {p : List Sp} {v : Value} {w : World} {q : List Sp} {b : Bool} (h : Reads w w.heap.size v p) (hq : moveL p (1, 0) = q) (hb : moveOk p (1, 0) = b) :
    Calls Tryd.prog 17 #[v, .agg #[.int .i64 1, .int .i64 0]] w (Gives2' q b w) := by
  subst hq hb; exact implMoved_any p v 1 0 w h
theorem readI_is {l : Bs} {w : World} {ps : List Sp} {b : Bool} (hs : readR l = ps) (hb : readOk l = b) (hl : l.length ≤ 1048576) (hp : PowOk w) (he : ErrOk w) : Calls Tryd.prog 16 #[.string (bs l)] w (Gives2' ps b w) := by
  subst hs hb; exact implRead_any l w (by omega) hp he
theorem rows_lit {p : List Sp} {r : List Bs} {v : Value} {w : World} (h : Reads w w.heap.size v p) (hr : rowsT p = r) : Calls Tryd.prog 20 #[v] w (GivesStrs r w) := by
  subst hr; exact implRowsT_any p v w h
theorem textT_full {p : List Sp} (h : picB p = true) : textT p ≠ [] := by
  by_cases h0 : p = []
  · subst h0; rw [textT_nil]; simp
  · rw [textT_yes h h0]; simp

set_option maxRecDepth 100000 in
set_option maxHeartbeats 3200000 in
theorem walk (A : Option Addr) (n c : Nat) (w : World) (hb : Bytes w w.heap.size A n) (hn : n ≤ c) (hc : c ≤ 9223372036854775807) (hp : PowOk w) (he : ErrOk w) :
    Calls Tryd.prog 3 #[.slice A n c] w (Gives (.bool true) w) := by
  by_cases hbig : 1048576 < n
  · go_enter Tryd.func3, Tryd.ntmps3
    go_wp2
    go_ret
    exact ⟨rfl, Below.refl _ _⟩
  · go_enter Tryd.func3, Tryd.ntmps3
    go_wp2_with fail
    refine (drawTextOf_any A n c _ hb hn hc).mono ?_
    rintro e w1 ⟨v, ps, rfl, D⟩
    have op := D.own
    have bb := D.below
    have hpl := D.len
    have HP := Lib.hid hp
    have HE := Lib.hid he
    clear hb hn hc D hp he
    obtain ⟨Ap, cp, rfl, hcp, hmp⟩ := op.reads.slice
    unfold maxLen at hmp
    obtain ⟨s, hs⟩ : ∃ s, textT ps = s := ⟨_, rfl⟩
    have hts : (bs s).toList = s := ByteArray.toList_mk s
    have hss := bs_size s
    have hsl : s.length ≤ 4000 := by rw [← hs]; exact textT_le
    have HS := Lib.hid hs
    rcases hk : picB ps with _ | _
    · have h0 : s = [] := by rw [← hs]; exact textT_no hk
      have hq : (s == []) = true := by rw [h0]; rfl
      have HK := Lib.hid hk
      clear hs h0 hk
      go_wp2_with fail
      refine (textI_lit op.reads HS.out (HP.out.below bb)).mono ?_
      rintro e w2 ⟨rfl, bn⟩
      have bb := below_step bb bn
      have op := op.below bn
      clear bn
      go_wp2_with fail
      refine (textS_lit op.reads HS.out).mono ?_
      rintro e w3 ⟨rfl, bn⟩
      have bb := below_step bb bn
      have op := op.below bn
      clear bn
      go_wp2_with fail
      refine (gives_is HK.out (implPicture_any ps _ _ op.reads)).mono ?_
      rintro e w4 ⟨rfl, bn⟩
      have bb := below_step bb bn
      clear bn
      go_wp2_with fail
      refine (alive_any _).mono ?_
      rintro e w5 ⟨rfl, bn⟩
      go_wp2
      go_ret
      exact ⟨rfl, below_step bb bn⟩
    · have h0 : s ≠ [] := by rw [← hs]; exact textT_full hk
      have hq : (s == []) = false := by rw [beq_eq_false_iff_ne]; exact h0
      have HR := Lib.hid (read_yes hk hs)
      clear hs h0 hk
      go_wp2_with fail
      refine (textI_lit op.reads HS.out (HP.out.below bb)).mono ?_
      rintro e w2 ⟨rfl, bn⟩
      have bb := below_step bb bn
      have op := op.below bn
      clear bn
      go_wp2_with fail
      refine (textS_lit op.reads HS.out).mono ?_
      rintro e w3 ⟨rfl, bn⟩
      have bb := below_step bb bn
      have op := op.below bn
      clear bn
      go_wp2_with fail
      refine (readI_is HR.out.1 HR.out.2 (by omega) (HP.out.below bb) (HE.out.below bb)).mono ?_
      rintro e w4 ⟨vq, rfl, oq, bn⟩
      have bb := below_step bb bn
      have op := op.below bn
      clear bn
      obtain ⟨m, hm⟩ : ∃ m, moveL ps (1, 0) = m := ⟨_, rfl⟩
      rcases hk2 : moveOk ps (1, 0) with _ | _
      · have cm := Lib.hid (fun W (v : Value) (hW : Reads W W.heap.size v ps) => move_lit hW hm hk2)
        clear hm hk2
        go_wp2_with fail
        refine (cm.out _ _ op.reads).mono ?_
        rintro e w5 ⟨vm, rfl, om, bn⟩
        have bb := below_step bb bn
        have op := op.below bn
        have oq := oq.below bn
        clear bn cm
        go_wp2_with fail
        refine (gives_is (show decide (ps = ps) = true by simp) (sameSpots_any _ _ _ _ _ oq.reads op.reads)).mono ?_
        rintro e w6 ⟨rfl, bn⟩
        have bb := below_step bb bn
        have op := op.below bn
        have om := om.below bn
        clear bn oq
        go_wp2
        go_ret
        exact ⟨rfl, bb⟩
      · obtain ⟨R, hR⟩ : ∃ R, rowsT ps = R := ⟨_, rfl⟩
        have hr2 := rows_same hk2
        rw [hm, hR] at hr2
        have hRl : R.length ≤ 1000000 := by
          rw [← hR]
          by_cases h : picB ps = true ∧ ps ≠ []
          · have := (rowsT_bound h.1 h.2).1; omega
          · rw [rowsT_no h]; simp
        have HR1 := Lib.hid hR
        have HR2 := Lib.hid hr2
        clear hR hr2
        have cm := Lib.hid (fun W (v : Value) (hW : Reads W W.heap.size v ps) => move_lit hW hm hk2)
        clear hm hk2
        go_wp2_with fail
        refine (cm.out _ _ op.reads).mono ?_
        rintro e w5 ⟨vm, rfl, om, bn⟩
        have bb := below_step bb bn
        have op := op.below bn
        have oq := oq.below bn
        clear bn cm
        go_wp2_with fail
        refine (gives_is (show decide (ps = ps) = true by simp) (sameSpots_any _ _ _ _ _ oq.reads op.reads)).mono ?_
        rintro e w6 ⟨rfl, bn⟩
        have bb := below_step bb bn
        have op := op.below bn
        have om := om.below bn
        clear bn oq
        go_wp2_with fail
        refine (rows_lit om.reads HR2.out).mono ?_
        rintro e w7 ⟨v7, rfl, o7, bn⟩
        have bb := below_step bb bn
        have op := op.below bn
        clear bn om
        go_wp2_with fail
        refine (rows_lit op.reads HR1.out).mono ?_
        rintro e w8 ⟨v8, rfl, o8, bn⟩
        have bb := below_step bb bn
        have o7 := o7.below bn
        clear bn op
        go_wp2_with fail
        refine (sameTexts_any _ _ _ _ _ _ o7 o8 hRl).mono ?_
        rintro e w9 ⟨rfl, bn⟩
        have bb := below_step bb bn
        go_wp2
        go_ret
        exact ⟨rfl, bb⟩

set_option maxRecDepth 100000 in
theorem lifted (os : Os) (started : os.Started) (H : Type) (enc : TypeId × Value → H) :
    ReturnsInHanded {} Tryd.checked os 3 .any (fun w args => (Rows.fnTextOfSpec.pre enc Tryd.prog Tryd.f3 Rows.fnTextOfRow.domain false w args ∧ laidMetH Tryd.prog Rows.fnTextOfRow.laid w) ∧ sizedMet enc Tryd.prog Tryd.f3 (OpenSpec.ofChange Rows.fnTextOfSpec) false w args) (Rows.fnTextOfSpec.post enc Tryd.prog Tryd.f3 false true false false) := by
  refine returnsInHanded_of_change_and (C := Tryd.checked) (X := fun w _ => laidMetH Tryd.prog Rows.fnTextOfRow.laid w) (fun _ _ _ hh h => h.of_heap hh) own started (by kernel_rfl) Tryd.func3
    (ChangeSpec.witness_shaped (enc := enc) (C := Tryd.checked) (os := os) (X := fun w _ => laidMetH Tryd.prog Rows.fnTextOfRow.laid w) false (World.laidAll Tryd.prog os Rows.fnTextOfRow.laid) #[.slice none 0 0] 8 (World.laidAll_os _ _ _)
      (World.shaped_of_ZipB (by kernel_rfl) (by kernel_rfl)) (by kernel_rfl) (by kernel_rfl) (by kernel_rfl)
      (by rw [MakeChecks.laidMetH_plain _ _ _ (by kernel_rfl)]; exact laidMet_laidAll _ (by kernel_rfl) (by kernel_rfl))) ?_
  intro W base args ds gs before hval0 hW _ _ hL _
  rw [MakeChecks.laidMetH_plain _ _ _ (by kernel_rfl)] at hL
  have hval : ∀ (j : Nat) t v, Tryd.f3.params[j]? = some t → args[j]? = some v → Value.okWide Tryd.prog W .any base t v := hval0
  have hW' := hW
  obtain ⟨p, q, hA0, hV, rfl, _, _⟩ := hW
  have hA : DataW.TrodAll enc Tryd.prog W 0 (fun _ => true) true Tryd.f3.params.toList args.toList ds p := hA0
  rw [Tryd.params3] at hA hval
  obtain ⟨v0, d0, rfl, rfl, h0⟩ := trodAll_one hA
  obtain ⟨rfl, rfl⟩ := trodVars_none hV
  clear hA0 hval0
  simp only [List.append_nil] at hW'
  have hlt : ∀ x ∈ p, x.block < W.heap.size := fun x hx => by simpa using hW'.lt x hx
  have r0 := open_bytes (hval 0 22 v0 rfl rfl) h0 hlt
  obtain ⟨⟨bA, bn, bc⟩, rfl, rb, rn, rc⟩ := r0
  simp only at rb rn rc
  refine (walk bA bn bc W rb rn rc (vars5 hL).1 (vars5 hL).2).mono fun e W' hg => ?_
  obtain ⟨he, hb⟩ := hg
  subst he
  exact ⟨_, rfl, _, _, _, [], p, [], hW', trodAll_mk1 (shut_bool Tryd.underlying4 _), trodAll_mk1 (kept_arg (by kernel_rfl) (of_decide_eq_true (by kernel_rfl)) h0 hb hlt), rfl, hb.frame _, fun h => by cases h⟩

theorem row : Rows.FnTextOfSaid :=
  OpenClaim.holds_of_wide 3 Tryd.f3 rfl rfl rfl rfl rfl rfl rfl ⟨rfl, rfl, rfl, rfl, rfl⟩ rfl rfl rfl rfl rfl (by kernel_rfl) Tryd.func3 (by kernel_rfl)
    (of_decide_eq_true (by kernel_rfl)) (by unfold Func.isWrapper; first | (rw [if_pos (by decide +kernel)]; kernel_rfl) | (rw [if_neg (by decide +kernel)]; exact ⟨rfl, rfl⟩))
    (fun os started H enc _ => lifted os started H enc)
theorem holds : Rows.FnTextOfCardSaid :=
  Claim7.holds_tied_plain_at .later [] Rows.fnTextOfCard.laidKinds true Rows.fnTextOfCard.stood.harness Rows.fnTextOfCard.stood.looks row (fun _ h => by cases h) (by kernel_rfl) (fun _ h => by cases h) fnTextOf_row_tie rfl ⟨rfl, rfl⟩ (by kernel_rfl) rfl
    (fun f fn hf hfn => by
      obtain rfl : f = 3 := Option.some.inj ((show Tryd.prog.funcNamed Rows.fnTextOfRow.func = some 3 by kernel_rfl).symm.trans hf) |>.symm
      obtain rfl : fn = Tryd.f3 := (Option.some.inj (Tryd.func3.symm.trans hfn)).symm
      exact ⟨by kernel_rfl, fun j t ht => by
        rw [Tryd.params3] at ht
        have hm : t ∈ [22] := by simpa using Array.mem_of_getElem? ht
        have hall : ([22].all fun u => !Tryd.prog.wantsStandIn u) = true := by kernel_rfl
        exact (show Tryd.prog.wantsStandIn t = false by simpa using List.all_eq_true.1 hall t hm)⟩)
    (by kernel_rfl)
end Go.Proofs.YtjncnjcpcmpmcaaDoor.fnTextOf
