/-
  Proved: the law of DoubledOf (FnDoubledOf) returns true for every code, and the code reads afterwards as it read before. No conditions.
-/
import Derived.Test.YtfofmfkdkihhbaaDraws2
import Derived.Test.YtfofmfkdkihhbaaDiff
import Derived.Test.YtfofmfkdkihhbaaHas2
import Derived.Test.YtfofmfkdkihhbaaOpen
namespace Go.Proofs.Ytfofmfkdkihhbaa.fnDoubledOf
open Go.ChangeShapes Go.WideShapes Go.ChangeAt Go.RowKit

theorem sumR_yes {p q : List Sp} (h : sumOk p q = true) : sumR p q = sumL p q := by unfold sumR; rw [h]; rfl
theorem sumR_not {p q : List Sp} (h : sumOk p q = false) : sumR p q = [] := by unfold sumR; rw [h]; rfl
theorem pics {p q : List Sp} (h : sumOk p q = true) : Pic p ∧ picB (sumR p q) = true := by
  rw [sumR_yes h]
  unfold sumOk at h; simp only [Bool.and_eq_true] at h; exact ⟨picB_pic h.1.1, h.2⟩
theorem impl_is {b : Bool} {p : List Sp} {v : Value} {w : World} (hk : sumOk p p = b) (h : Reads w w.heap.size v p) : Calls Try.prog 25 #[v] w (Gives2' (sumR p p) b w) := by
  subst hk; exact implDoubled_any p v w h
theorem spec_is {b : Bool} {p : List Sp} {v : Value} {w : World} (hk : sumOk p p = b) (h : Reads w w.heap.size v p) : Calls Try.prog 26 #[v] w (Gives2' (sumR p p) b w) := by
  subst hk; exact specDoubled_any p v w h
theorem has_twice {p : List Sp} {k : Nat} {x y : Int} (h : sumOk p p = true) (hk : p[k]? = some (x, y)) : hasB (sumR p p) (2 * x, 2 * y) = true := by
  rw [hasB_yes (pics h).2, sumR_yes h]
  exact decide_eq_true (mem_doubled (List.mem_of_getElem? hk))
theorem one {p : List Sp} (h : sumOk p p = true) (h1 : p.length = 1) : (sumR p p).length = 1 := by rw [sumR_yes h]; exact length_doubled_one h1
theorem half {p : List Sp} (h : sumOk p p = true) : (sumR p p).length ≤ p.length * (p.length + 1) / 2 := by rw [sumR_yes h]; exact length_doubled_le p

set_option maxHeartbeats 1600000 in
theorem walk (A : Option Addr) (n c : Nat) (w : World) (hb : Bytes w w.heap.size A n) (hn : n ≤ c) (hc : c ≤ 9223372036854775807) :
    Calls Try.prog 6 #[.slice A n c] w (Gives (.bool true) w) := by
  by_cases hbig : 1048576 < n
  · go_enter Try.func6, Try.ntmps6
    go_wp2
    go_ret
    exact ⟨rfl, Below.refl _ _⟩
  go_enter Try.func6, Try.ntmps6
  go_wp2_with fail
  refine (drawDoubledOf_any A n c _ hb hn hc).mono ?_
  rintro e w1 ⟨vp, ps, rfl, D⟩
  have bb := D.below
  have rp := D.own.reads
  have hlp := D.len
  obtain ⟨Ap, cp, rfl, hcp, hmp, hAp, hrp⟩ := rp.is
  unfold maxLen at hmp
  clear D
  rcases hk : sumOk ps ps with _ | _
  · have hS := sumR_not hk
    go_wp2_with fail
    refine (impl_is hk rp).mono ?_
    rintro e w2 ⟨vs, rfl, os, b2⟩
    rw [hS] at os
    have bb2 := below_step bb b2
    go_wp2_with fail
    refine (spec_is hk (rp.kept b2)).mono ?_
    rintro e w3 ⟨vx, rfl, ox, b3⟩
    rw [hS] at ox
    have bb3 := below_step bb2 b3
    have os3 := os.below b3
    obtain ⟨As, cs, rfl, _, _⟩ := os3.reads.slice
    clear hk hS
    go_wp2_with fail
    refine (gives_is (show decide (([] : List Sp) = []) = true by simp) (sameSpots_any _ _ _ _ _ os3.reads ox.reads)).mono ?_
    rintro e w4 ⟨rfl, b4⟩
    have bb4 := below_step bb3 b4
    go_wp2_with fail
    refine (alive_any _).mono ?_
    rintro e w5 ⟨rfl, b5⟩
    go_wp2
    go_ret
    exact ⟨rfl, below_step bb4 b5⟩
  · have HK := Lib.hid hk
    have hpin := (pics hk).1.2.1
    have hhalf := half hk
    go_wp2_with fail
    refine (impl_is hk rp).mono ?_
    rintro e w2 ⟨vs, rfl, os, b2⟩
    have bb2 := below_step bb b2
    have rp2 := rp.kept b2
    go_wp2_with fail
    refine (spec_is hk rp2).mono ?_
    rintro e w3 ⟨vx, rfl, ox, b3⟩
    have bb3 := below_step bb2 b3
    have rs3 := (os.below b3).reads
    have rp3 := rp2.kept b3
    obtain ⟨As, cs, rfl, hcs, hms⟩ := rs3.slice
    unfold maxLen at hms
    clear hk rp rp2
    go_wp2_with fail
    refine (gives_is (show decide (sumR ps ps = sumR ps ps) = true by simp) (sameSpots_any _ _ _ _ _ rs3 ox.reads)).mono ?_
    rintro e w4 ⟨rfl, b4⟩
    have bb4 := below_step bb3 b4
    have rs4 := rs3.kept b4
    have bp4 := ((below_step (below_step b2 b3) b4))
    clear rs3 rp3 b4 os ox b2 b3
    by_cases h0 : ps.length = 0
    · obtain rfl := List.eq_nil_of_length_eq_zero h0
      go_wp2
      refine wp_loop_rounds 1 ?_
      rw [rounds_succ]
      go_wp2_with fail
      refine (alive_any _).mono ?_
      rintro e w12 ⟨rfl, b12⟩
      go_wp2
      go_ret
      exact ⟨rfl, below_step bb4 b12⟩
    · obtain ⟨b, off, rfl, hbk, hcell⟩ := hrp (by omega)
      go_wp2
      go_loopw [8] (fun i wr => ∃ k : Nat, k ≤ ps.length ∧ i = .int .i64 k ∧ Below w4.heap.size w4 wr) (fun i _ => ps.length - (intOf i).toNat)
      case atStart => exact ⟨0, Nat.zero_le _, rfl, Below.refl _ _⟩
      case round =>
        obtain ⟨k, hk, rfl, hbw⟩ := hrel
        have hbs := hbw.size
        by_cases hlt : k < ps.length
        · obtain ⟨⟨x, y⟩, hxy⟩ : ∃ a, ps[k]? = some a := ⟨_, List.getElem?_eq_getElem hlt⟩
          obtain ⟨e0, e1⟩ := hcell k x y hxy
          obtain ⟨i1, i2, i3, i4⟩ := hpin _ (List.mem_of_getElem? hxy)
          simp only at i1 i2 i3 i4
          have bp := bp4.trans (hbw.mono bp4.size)
          have f0 := cell_regrown ((bp.cell (p := ⟨b, off + k * 2, none⟩) hbk).trans e0)
          have f1 := cell_regrown ((bp.cell (p := ⟨b, off + k * 2 + 1, none⟩) hbk).trans e1)
          have HM := Lib.hid (has_twice HK.out hxy)
          have hwx : IntKind.i64.wrap (2 * x) = 2 * x := IntWalk.i64_in _ (by omega)
          have hwy : IntKind.i64.wrap (2 * y) = 2 * y := IntWalk.i64_in _ (by omega)
          have rsr := rs4.kept hbw
          clear e0 e1 hxy
          go_wp2
          refine wp_region_quiet_below (by kernel_rfl) (by kernel_rfl) ?_
          repeat (go_big_quiet_step (first | (go_at_call 12; exact gives_regrown (fun w1 hw1 => gives_is HM.out (implHas_any _ _ _ _ w1 (rsr.kept hw1))) _ _)))
          refine wpQuiet_nil ?_
          intro wn hw'
          obtain ⟨⟨dq, osq⟩, hw''⟩ := hw'
          have hN : Below wr.heap.size wr wn := by rw [hw'']; exact below_regrown _ _ _
          clear hw'' dq osq
          go_wp2
          go_roundw
          case rel => exact ⟨k + 1, by omega, by go_num, hbw.trans (hN.mono hbs)⟩
          case measure => simp [intOf]; omega
        · have bbr := below_step bb4 hbw
          obtain rfl : k = ps.length := by omega
          clear hlt hk
          have hcases : ps.length = 1 ∨ ps.length = 2 ∨ ps.length = 3 ∨ ps.length = 4 ∨ ps.length = 5 ∨ ps.length = 6 ∨ ps.length = 7 := by omega
          rcases hcases with hq | hq | hq | hq | hq | hq | hq
          · have h1 := one HK.out hq
            rw [hq] at hhalf
            go_wp2_with fail
            refine (alive_any _).mono ?_
            rintro e w12 ⟨rfl, b12⟩
            go_wp2
            go_ret
            exact ⟨rfl, below_step bbr b12⟩
          all_goals
            rw [hq] at hhalf
            simp only [Nat.reduceAdd, Nat.reduceMul, Nat.reduceDiv] at hhalf
            have hI := Int.ofNat_le.2 hhalf
            rw [Int.cast_ofNat_Int] at hI
            have hId := decide_eq_true hI
            go_wp2_with fail
            refine (alive_any _).mono ?_
            rintro e w12 ⟨rfl, b12⟩
            go_wp2
            go_ret
            exact ⟨rfl, below_step bbr b12⟩
set_option maxRecDepth 100000 in
theorem lifted (os : Os) (started : os.Started) (H : Type) (enc : TypeId × Value → H) :
    ReturnsInHanded {} Try.checked os 6 .any (Rows.fnDoubledOfSpec.pre6 enc Try.prog Try.f6 Rows.fnDoubledOfRow.domain false) (Rows.fnDoubledOfSpec.post enc Try.prog Try.f6 false true false false) := by
  refine returnsInHanded_of_change (C := Try.checked) own started (by kernel_rfl) Try.func6
    (ChangeSpec.witness6 (enc := enc) (C := Try.checked) false ⟨#[], #[.slice none 0 0], []⟩ 8 (by kernel_rfl) (by kernel_rfl) (by kernel_rfl) (by kernel_rfl)) ?_
  intro W base args ds gs before hval0 hW _ _
  have hval : ∀ (j : Nat) t v, Try.f6.params[j]? = some t → args[j]? = some v → Value.okWide Try.prog W .any base t v := hval0
  have hW' := hW
  obtain ⟨p, q, hA0, hV, rfl, _, _⟩ := hW
  have hA : DataW.TrodAll enc Try.prog W 0 (fun _ => true) true Try.f6.params.toList args.toList ds p := hA0
  rw [Try.params6] at hA hval
  obtain ⟨v0, d0, rfl, rfl, h0⟩ := trodAll_one hA
  obtain ⟨rfl, rfl⟩ := trodVars_none hV
  clear hA0 hval0
  simp only [List.append_nil] at hW'
  have hlt : ∀ x ∈ p, x.block < W.heap.size := fun x hx => by simpa using hW'.lt x hx
  have r0 := open_bytes (hval 0 22 v0 rfl rfl) h0 hlt
  obtain ⟨⟨bA, bn, bc⟩, rfl, rb, rn, rc⟩ := r0
  simp only at rb rn rc
  refine (walk bA bn bc W rb rn rc).mono fun e W' hg => ?_
  obtain ⟨he, hb⟩ := hg
  subst he
  exact ⟨_, rfl, _, _, _, [], p, [], hW', trodAll_mk1 (shut_bool Try.underlying4 _), trodAll_mk1 (kept_arg (by kernel_rfl) (of_decide_eq_true (by kernel_rfl)) h0 hb hlt), rfl, hb.frame _, fun h => by cases h⟩

theorem holds : Rows.FnDoubledOfSaid :=
  OpenClaim.holds_of_wide 6 Try.f6 rfl rfl rfl rfl rfl rfl rfl ⟨rfl, rfl, rfl, rfl, rfl⟩ rfl rfl rfl rfl rfl (by kernel_rfl) Try.func6 (by kernel_rfl)
    (of_decide_eq_true (by kernel_rfl)) (by unfold Func.isWrapper; first | (rw [if_pos (by decide +kernel)]; kernel_rfl) | (rw [if_neg (by decide +kernel)]; exact ⟨rfl, rfl⟩))
    (fun os started H enc _ => lifted os started H enc)
end Go.Proofs.Ytfofmfkdkihhbaa.fnDoubledOf
