/-
  Proved: the law of DifferencesOf (FnDifferencesOf) returns true for every code, and the code reads afterwards as it read before. No conditions.
-/
import Derived.Test.YtfofmfkdkihhbaaDraws2
import Derived.Test.YtfofmfkdkihhbaaDiff
import Derived.Test.YtfofmfkdkihhbaaHas2
import Derived.Test.YtfofmfkdkihhbaaOpen
namespace Go.Proofs.Ytfofmfkdkihhbaa.fnDifferencesOf
open Go.ChangeShapes Go.WideShapes Go.ChangeAt Go.RowKit

theorem ok_parts {p : List Sp} (h : diffOk p = true) : Pic p ∧ diffR p = diffL p ∧ picB (diffL p) = true := by
  have h' := h
  unfold diffOk sumOk at h'
  simp only [Bool.and_eq_true] at h'
  have ht := turnedP_yes h'.1.1
  refine ⟨picB_pic h'.1.1, ?_, ?_⟩
  · unfold diffR sumR diffL
    unfold diffOk at h
    rw [h, if_pos rfl, ht]
  · have := h'.2; rw [ht] at this; exact this
theorem diff_not {p : List Sp} (h : diffOk p = false) : diffR p = [] := by
  unfold diffR sumR; unfold diffOk at h; rw [h]; rfl
theorem turn {p : List Sp} (h : diffOk p = true) : turnedP (diffR p) = diffR p := by
  obtain ⟨_, h2, h3⟩ := ok_parts h
  rw [h2, turnedP_yes h3, turned_diffL]
theorem zero {p : List Sp} (h : diffOk p = true) : hasB (diffR p) (0, 0) = !decide (p.length = 0) := by
  obtain ⟨_, h2, h3⟩ := ok_parts h
  rw [h2, hasB_yes h3, ← decide_not, decide_eq_decide, zero_diffL]
  constructor
  · intro h e; exact h (List.eq_nil_of_length_eq_zero e)
  · intro h e; exact h (by rw [e]; rfl)
theorem same {p : List Sp} (h : diffOk p = true) (hm : moveOk p (1, 2) = true) (ho : diffOk (moveL p (1, 2)) = true) : diffR (moveL p (1, 2)) = diffR p := by
  have e : moveL p (1, 2) = moved p (1, 2) := by unfold moveL; rw [hm]; rfl
  rw [(ok_parts ho).2.1, (ok_parts h).2.1, e, diffL_moved]
theorem odd {p : List Sp} (h : diffOk p = true) : (diffR p).length % 2 = min p.length 1 := by rw [(ok_parts h).2.1, length_diffL]
theorem impl_is {b : Bool} {p : List Sp} {v : Value} {w : World} (hk : diffOk p = b) (h : Reads w w.heap.size v p) : Calls Try.prog 28 #[v] w (Gives2' (diffR p) b w) := by
  subst hk; exact implDiff_any p v w h
theorem spec_is {b : Bool} {p : List Sp} {v : Value} {w : World} (hk : diffOk p = b) (h : Reads w w.heap.size v p) (hl : p.length ≤ 1100000) : Calls Try.prog 29 #[v] w (Gives2' (diffR p) b w) := by
  subst hk; exact specDiff_any p v w h hl
theorem move_is {b : Bool} {ps : List Sp} {v : Value} {ax ay : Int} {w : World} (hk : moveOk ps (ax, ay) = b) (h : Reads w w.heap.size v ps) :
    Calls Try.prog 21 #[v, .agg #[.int .i64 ax, .int .i64 ay]] w (Gives2' (moveL ps (ax, ay)) b w) := by
  subst hk; exact implMoved_any ps v ax ay w h

set_option maxHeartbeats 1600000 in
theorem walk (A : Option Addr) (n c : Nat) (w : World) (hb : Bytes w w.heap.size A n) (hn : n ≤ c) (hc : c ≤ 9223372036854775807) :
    Calls Try.prog 7 #[.slice A n c] w (Gives (.bool true) w) := by
  by_cases hbig : 1048576 < n
  · go_enter Try.func7, Try.ntmps7
    go_wp2
    go_ret
    exact ⟨rfl, Below.refl _ _⟩
  go_enter Try.func7, Try.ntmps7
  go_wp2_with fail
  refine (drawDifferencesOf_any A n c _ hb hn hc).mono ?_
  rintro e w1 ⟨vp, ps, rfl, D⟩
  have bb := D.below
  have rp := D.own.reads
  have hlp := D.len
  obtain ⟨Ap, cp, rfl, hcp, hmp⟩ := rp.slice
  unfold maxLen at hmp
  clear D
  rcases hk : diffOk ps with _ | _
  · have hS := diff_not hk
    go_wp2_with fail
    refine (impl_is hk rp).mono ?_
    rintro e w2 ⟨vs, rfl, os, b2⟩
    rw [hS] at os
    have bb2 := below_step bb b2
    go_wp2_with fail
    refine (spec_is hk (rp.kept b2) (by omega)).mono ?_
    rintro e w3 ⟨vx, rfl, ox, b3⟩
    rw [hS] at ox
    have bb3 := below_step bb2 b3
    have os3 := os.below b3
    obtain ⟨As, cs, rfl, _, _⟩ := os3.reads.slice
    clear hk hS
    go_wp2_with fail
    refine (gives_is (show decide (([] : List Sp) = []) = true by simp) (sameSpots_any _ _ _ _ _ os3.reads ox.reads)).mono ?_
    rintro e w4 ⟨rfl, b4⟩
    have bb4 := below_step bb3 b4
    go_wp2_with fail
    refine (alive_any _).mono ?_
    rintro e w5 ⟨rfl, b5⟩
    go_wp2
    go_ret
    exact ⟨rfl, below_step bb4 b5⟩
  · have HK := Lib.hid hk
    have HZ := Lib.hid (zero hk)
    have HT := Lib.hid (turn hk)
    have hodd := odd hk
    go_wp2_with fail
    refine (impl_is hk rp).mono ?_
    rintro e w2 ⟨vs, rfl, os, b2⟩
    have bb2 := below_step bb b2
    have rp2 := rp.kept b2
    go_wp2_with fail
    refine (spec_is hk rp2 (by omega)).mono ?_
    rintro e w3 ⟨vx, rfl, ox, b3⟩
    have bb3 := below_step bb2 b3
    have rs3 := (os.below b3).reads
    have rp3 := rp2.kept b3
    obtain ⟨As, cs, rfl, hcs, hms⟩ := rs3.slice
    unfold maxLen at hms
    clear hk rp rp2
    go_wp2_with fail
    refine (gives_is (show decide (diffR ps = diffR ps) = true by simp) (sameSpots_any _ _ _ _ _ rs3 ox.reads)).mono ?_
    rintro e w4 ⟨rfl, b4⟩
    have bb4 := below_step bb3 b4
    have rs4 := rs3.kept b4
    have rp4 := rp3.kept b4
    clear rs3 rp3 b4 os ox b2 b3
    rcases hm : moveOk ps (1, 2) with _ | _
    all_goals rcases ho : diffOk (moveL ps (1, 2)) with _ | _
    all_goals
      first
        | have HE := Lib.hid (same HK.out hm ho)
        | have HE := trivial
      go_wp2_with fail
      refine (move_is hm rp4).mono ?_
      rintro e w5 ⟨vm, rfl, om, b5⟩
      have bb5 := below_step bb4 b5
      have rs5 := rs4.kept b5
      go_wp2_with fail
      refine (impl_is ho om.reads).mono ?_
      rintro e w6 ⟨vo, rfl, oo, b6⟩
      have bb6 := below_step bb5 b6
      have rs6 := rs5.kept b6
      clear hm ho om b5 b6 rs5
      go_wp2_with fail
      refine (implTurned_any _ _ _ rs6).mono ?_
      rintro e w7 ⟨vt, rfl, ot, b7⟩
      rw [HT.out] at ot
      have bb7 := below_step bb6 b7
      have rs7 := rs6.kept b7
      have ro7 := oo.reads.kept b7
      clear b7 rs6 oo
      go_wp2_with fail
      refine (gives_is (show decide (diffR ps = diffR ps) = true by simp) (sameSpots_any _ _ _ _ _ ot.reads rs7)).mono ?_
      rintro e w8 ⟨rfl, b8⟩
      have bb8 := below_step bb7 b8
      have rs8 := rs7.kept b8
      have ro8 := ro7.kept b8
      clear b8 rs7 ro7 ot
      by_cases hp0 : ps.length = 0
      · have hz := HZ.out.trans (show (!decide (ps.length = 0)) = false by simp [hp0])
        have hpd : ((ps.length : Int) == 0) = true := by simp [hp0]
        have hmin : min (ps.length : Int) 1 = 0 := by omega
        have hmin2 : (if (1 : Int) < (ps.length : Int) then (1 : Int) else (ps.length : Int)) = 0 := by rw [if_neg (by omega)]; omega
        have hro : (diffR ps).length % 2 = 0 := by rw [hodd]; omega
        have hroI : ((diffR ps).length : Int) % 2 = 0 := by omega
        clear hp0 hodd
        go_wp2_with fail
        refine (gives_is hz (implHas_any _ _ 0 0 _ rs8)).mono ?_
        rintro e w9 ⟨rfl, b9⟩
        have bb9 := below_step bb8 b9
        have rs9 := rs8.kept b9
        have ro9 := ro8.kept b9
        clear hz b9 rs8 ro8
        first
          | (have hE := HE.out
             rw [hE] at ro9
             clear hE
             go_wp2_with fail
             refine (gives_is (show decide (diffR ps = diffR ps) = true by simp) (sameSpots_any _ _ _ _ _ ro9 rs9)).mono ?_
             rintro e w10 ⟨rfl, b10⟩
             have bb9 := below_step bb9 b10)
          | skip
        go_wp2_with fail
        refine (alive_any _).mono ?_
        rintro e w12 ⟨rfl, b12⟩
        go_wp2
        go_ret
        exact ⟨rfl, below_step bb9 b12⟩
      · have hz := HZ.out.trans (show (!decide (ps.length = 0)) = true by simp [hp0])
        have hpd : ((ps.length : Int) == 0) = false := by simp [hp0]
        have hmin : min (ps.length : Int) 1 = 1 := by omega
        have hmin2 : (if (1 : Int) < (ps.length : Int) then (1 : Int) else (ps.length : Int)) = 1 := by split <;> omega
        have hro : (diffR ps).length % 2 = 1 := by rw [hodd]; omega
        have hroI : ((diffR ps).length : Int) % 2 = 1 := by omega
        clear hp0 hodd
        go_wp2_with fail
        refine (gives_is hz (implHas_any _ _ 0 0 _ rs8)).mono ?_
        rintro e w9 ⟨rfl, b9⟩
        have bb9 := below_step bb8 b9
        have rs9 := rs8.kept b9
        have ro9 := ro8.kept b9
        clear hz b9 rs8 ro8
        first
          | (have hE := HE.out
             rw [hE] at ro9
             clear hE
             go_wp2_with fail
             refine (gives_is (show decide (diffR ps = diffR ps) = true by simp) (sameSpots_any _ _ _ _ _ ro9 rs9)).mono ?_
             rintro e w10 ⟨rfl, b10⟩
             have bb9 := below_step bb9 b10)
          | skip
        go_wp2_with fail
        refine (alive_any _).mono ?_
        rintro e w12 ⟨rfl, b12⟩
        go_wp2
        go_ret
        exact ⟨rfl, below_step bb9 b12⟩
set_option maxRecDepth 100000 in
theorem lifted (os : Os) (started : os.Started) (H : Type) (enc : TypeId × Value → H) :
    ReturnsInHanded {} Try.checked os 7 .any (Rows.fnDifferencesOfSpec.pre6 enc Try.prog Try.f7 Rows.fnDifferencesOfRow.domain false) (Rows.fnDifferencesOfSpec.post enc Try.prog Try.f7 false true false false) := by
  refine returnsInHanded_of_change (C := Try.checked) own started (by kernel_rfl) Try.func7
    (ChangeSpec.witness6 (enc := enc) (C := Try.checked) false ⟨#[], #[.slice none 0 0], []⟩ 8 (by kernel_rfl) (by kernel_rfl) (by kernel_rfl) (by kernel_rfl)) ?_
  intro W base args ds gs before hval0 hW _ _
  have hval : ∀ (j : Nat) t v, Try.f7.params[j]? = some t → args[j]? = some v → Value.okWide Try.prog W .any base t v := hval0
  have hW' := hW
  obtain ⟨p, q, hA0, hV, rfl, _, _⟩ := hW
  have hA : DataW.TrodAll enc Try.prog W 0 (fun _ => true) true Try.f7.params.toList args.toList ds p := hA0
  rw [Try.params7] at hA hval
  obtain ⟨v0, d0, rfl, rfl, h0⟩ := trodAll_one hA
  obtain ⟨rfl, rfl⟩ := trodVars_none hV
  clear hA0 hval0
  simp only [List.append_nil] at hW'
  have hlt : ∀ x ∈ p, x.block < W.heap.size := fun x hx => by simpa using hW'.lt x hx
  have r0 := open_bytes (hval 0 22 v0 rfl rfl) h0 hlt
  obtain ⟨⟨bA, bn, bc⟩, rfl, rb, rn, rc⟩ := r0
  simp only at rb rn rc
  refine (walk bA bn bc W rb rn rc).mono fun e W' hg => ?_
  obtain ⟨he, hb⟩ := hg
  subst he
  exact ⟨_, rfl, _, _, _, [], p, [], hW', trodAll_mk1 (shut_bool Try.underlying4 _), trodAll_mk1 (kept_arg (by kernel_rfl) (of_decide_eq_true (by kernel_rfl)) h0 hb hlt), rfl, hb.frame _, fun h => by cases h⟩

theorem holds : Rows.FnDifferencesOfSaid :=
  OpenClaim.holds_of_wide 7 Try.f7 rfl rfl rfl rfl rfl rfl rfl ⟨rfl, rfl, rfl, rfl, rfl⟩ rfl rfl rfl rfl rfl (by kernel_rfl) Try.func7 (by kernel_rfl)
    (of_decide_eq_true (by kernel_rfl)) (by unfold Func.isWrapper; first | (rw [if_pos (by decide +kernel)]; kernel_rfl) | (rw [if_neg (by decide +kernel)]; exact ⟨rfl, rfl⟩))
    (fun os started H enc _ => lifted os started H enc)
end Go.Proofs.Ytfofmfkdkihhbaa.fnDifferencesOf
