/-
  Proved: the law of BallOf (FnBallOf) returns true for every code, and the code reads afterwards as it read before. No conditions.
-/
import Derived.Test.YtfofmfkdkihhbaaDraws4
import Derived.Test.YtfofmfkdkihhbaaBallT
import Derived.Test.YtfofmfkdkihhbaaBallI
import Derived.Test.YtfofmfkdkihhbaaHas2
import Derived.Test.YtfofmfkdkihhbaaPics3
import Derived.Test.YtfofmfkdkihhbaaUnion
import Derived.Test.YtfofmfkdkihhbaaSumI
import Derived.Test.YtfofmfkdkihhbaaOpen
namespace Go.Proofs.Ytfofmfkdkihhbaa.fnBallOf
open Go.ChangeShapes Go.WideShapes Go.ChangeAt Go.RowKit

theorem sum_lit {b : Bool} {p q : List Sp} {v u : Value} {w : World} (hk : sumOk p q = b) (h : Reads w w.heap.size v p) (k : Reads w w.heap.size u q) : Calls Try.prog 34 #[v, u] w (Gives2' (sumR p q) b w) := by
  subst hk; exact implSum_any p q v u w h k
theorem has_lit {b : Bool} {p : List Sp} {v : Value} {x y : Int} {w : World} (hk : hasB p (x, y) = b) (h : Reads w w.heap.size v p) : Calls Try.prog 12 #[v, .agg #[.int .i64 x, .int .i64 y]] w (Gives (.bool b) w) := by
  subst hk; exact implHas_any p v x y w h
structure BallFacts (r way : Int) : Prop where
  pic : picB (ballL r way) = true
  turn : turnedP (ballL r way) = ballL r way
  mem : hasB (ballL r way) (0, 0) = true
  next : ballL (r + 1) way = [] ∨ (withinB (ballL r way) (ballL (r + 1) way) = true ∧ (way = 2 ∨ (sumOk (ballL r way) (ballL 1 way) = true ∧ sumR (ballL r way) (ballL 1 way) = ballL (r + 1) way)))
theorem facts {r way : Int} (h : ballOk r way = true) : BallFacts r way := by
  have k := ballAll_yes h
  unfold ballAll at k
  simp only [Bool.and_eq_true, Bool.or_eq_true, decide_eq_true_eq] at k
  obtain ⟨⟨⟨k1, k2⟩, k3⟩, k4⟩ := k
  exact ⟨k1, by rw [turnedP_yes k1, k2], by rw [hasB_yes k1]; exact decide_eq_true k3, k4⟩
set_option maxHeartbeats 1600000 in
theorem walk (A : Option Addr) (n c : Nat) (w : World) (hb : Bytes w w.heap.size A n) (hn : n ≤ c) (hc : c ≤ 9223372036854775807) :
    Calls Try.prog 8 #[.slice A n c] w (Gives (.bool true) w) := by
  by_cases hbig : 1048576 < n
  · go_enter Try.func8, Try.ntmps8
    go_wp2
    go_ret
    exact ⟨rfl, Below.refl _ _⟩
  · go_enter Try.func8, Try.ntmps8
    go_wp2_with fail
    refine (drawBallOf_any A n c _ hb hn hc).mono ?_
    rintro e w1 ⟨r, way, rfl, ⟨hr1, hr2⟩, hw, bb⟩
    go_wp2_with fail
    refine (implBall_any r way _).mono ?_
    rintro e w2 ⟨v1, rfl, o1, bn⟩
    have bb := below_step bb bn
    go_wp2_with fail
    refine (specBall_any r way _).mono ?_
    rintro e w3 ⟨v2, rfl, o2, bn⟩
    have bb := below_step bb bn
    have o1 := o1.below bn
    go_wp2_with fail
    refine (gives_is (show decide (ballL r way = ballL r way) = true by simp) (sameSpots_any _ _ _ _ _ o1.reads o2.reads)).mono ?_
    rintro e w4 ⟨rfl, bn⟩
    have bb := below_step bb bn
    have o1 := o1.below bn
    clear o2 bn
    rcases hk : ballOk r way with _ | _
    · rw [ball_no hk] at o1
      obtain ⟨A4, c4, rfl, _, _⟩ := o1.reads.slice
      clear hk
      go_wp2_with fail
      refine (alive_any _).mono ?_
      rintro e w5 ⟨rfl, bn⟩
      go_wp2
      go_ret
      exact ⟨rfl, below_step bb bn⟩
    · have HF := Lib.hid (facts hk)
      have hpos := ball_pos hk
      have hpb : (((ballL r way).length : Int) == 0) = false := by rw [beq_eq_false_iff_ne]; omega
      clear hk hb hn hc
      obtain ⟨A1, c1, rfl, _, _⟩ := o1.reads.slice
      by_cases he : ballL (r + 1) way = []
      · rcases hs : sumOk (ballL r way) (ballL 1 way) with _ | _
        all_goals
          have HS := Lib.hid hs
          have HX := Lib.hid he
          clear hs he
          go_wp2_with fail
          refine (implBall_any (r + 1) way _).mono ?_
          rintro e w5 ⟨v3, rfl, o3, bn⟩
          have bb := below_step bb bn
          have o1 := o1.below bn
          clear bn
          try rw [HX.out] at o3
          obtain ⟨A3, c3, rfl, _, _⟩ := o3.reads.slice
          go_wp2_with fail
          refine (implBall_any 1 way _).mono ?_
          rintro e w6 ⟨v4, rfl, o4, bn⟩
          have bb := below_step bb bn
          have o1 := o1.below bn
          have o3 := o3.below bn
          clear bn
          go_wp2_with fail
          refine (sum_lit HS.out o1.reads o4.reads).mono ?_
          rintro e w7 ⟨v5, rfl, os, bn⟩
          have bb := below_step bb bn
          have o1 := o1.below bn
          have o3 := o3.below bn
          clear bn
          go_wp2_with fail
          refine (gives_is HF.out.pic (implPicture_any _ _ _ o1.reads)).mono ?_
          rintro e w8 ⟨rfl, bn⟩
          have os := os.below bn
          have bb := below_step bb bn
          have o1 := o1.below bn
          have o3 := o3.below bn
          clear bn
          go_wp2_with fail
          refine (implTurned_any _ _ _ o1.reads).mono ?_
          rintro e w9 ⟨vt, rfl, ot, bn⟩
          have os := os.below bn
          have bb := below_step bb bn
          have o1 := o1.below bn
          have o3 := o3.below bn
          clear bn
          go_wp2_with fail
          refine (gives_is (show decide (turnedP (ballL r way) = ballL r way) = true from decide_eq_true HF.out.turn) (sameSpots_any _ _ _ _ _ ot.reads o1.reads)).mono ?_
          rintro e w10 ⟨rfl, bn⟩
          have os := os.below bn
          have bb := below_step bb bn
          have o1 := o1.below bn
          have o3 := o3.below bn
          clear bn
          clear ot
          go_wp2_with fail
          refine (has_lit HF.out.mem o1.reads).mono ?_
          rintro e w11 ⟨rfl, bn⟩
          have os := os.below bn
          have bb := below_step bb bn
          have o1 := o1.below bn
          have o3 := o3.below bn
          clear bn
          go_wp2
          go_ret
          exact ⟨rfl, bb⟩
      · obtain ⟨hwi, hx⟩ := HF.out.next.resolve_left he
        have hp3 : 0 < (ballL (r + 1) way).length := List.length_pos_iff.2 he
        have hpb3 : (((ballL (r + 1) way).length : Int) == 0) = false := by rw [beq_eq_false_iff_ne]; omega
        have HW := Lib.hid hwi
        clear he hwi
        by_cases h2 : way = 2
        · rcases hs : sumOk (ballL r way) (ballL 1 way) with _ | _
          all_goals
            have HS := Lib.hid hs
            have hw2 : (way == 2) = true := by simpa using h2
            clear hs h2 hx
            go_wp2_with fail
            refine (implBall_any (r + 1) way _).mono ?_
            rintro e w5 ⟨v3, rfl, o3, bn⟩
            have bb := below_step bb bn
            have o1 := o1.below bn
            clear bn
            try rw [HX.out] at o3
            obtain ⟨A3, c3, rfl, _, _⟩ := o3.reads.slice
            go_wp2_with fail
            refine (implBall_any 1 way _).mono ?_
            rintro e w6 ⟨v4, rfl, o4, bn⟩
            have bb := below_step bb bn
            have o1 := o1.below bn
            have o3 := o3.below bn
            clear bn
            go_wp2_with fail
            refine (sum_lit HS.out o1.reads o4.reads).mono ?_
            rintro e w7 ⟨v5, rfl, os, bn⟩
            have bb := below_step bb bn
            have o1 := o1.below bn
            have o3 := o3.below bn
            clear bn
            go_wp2_with fail
            refine (gives_is HF.out.pic (implPicture_any _ _ _ o1.reads)).mono ?_
            rintro e w8 ⟨rfl, bn⟩
            have os := os.below bn
            have bb := below_step bb bn
            have o1 := o1.below bn
            have o3 := o3.below bn
            clear bn
            go_wp2_with fail
            refine (implTurned_any _ _ _ o1.reads).mono ?_
            rintro e w9 ⟨vt, rfl, ot, bn⟩
            have os := os.below bn
            have bb := below_step bb bn
            have o1 := o1.below bn
            have o3 := o3.below bn
            clear bn
            go_wp2_with fail
            refine (gives_is (show decide (turnedP (ballL r way) = ballL r way) = true from decide_eq_true HF.out.turn) (sameSpots_any _ _ _ _ _ ot.reads o1.reads)).mono ?_
            rintro e w10 ⟨rfl, bn⟩
            have os := os.below bn
            have bb := below_step bb bn
            have o1 := o1.below bn
            have o3 := o3.below bn
            clear bn
            clear ot
            go_wp2_with fail
            refine (has_lit HF.out.mem o1.reads).mono ?_
            rintro e w11 ⟨rfl, bn⟩
            have os := os.below bn
            have bb := below_step bb bn
            have o1 := o1.below bn
            have o3 := o3.below bn
            clear bn
            go_wp2_with fail
            refine (gives_is HW.out (implWithin_any _ _ _ _ _ o1.reads o3.reads)).mono ?_
            rintro e w12 ⟨rfl, bn⟩
            have bb := below_step bb bn
            go_wp2
            go_ret
            exact ⟨rfl, bb⟩
        · have hx' := hx.resolve_left h2
          have HS := Lib.hid hx'.1
          have HE := Lib.hid hx'.2
          have hw2 : (way == 2) = false := by simpa using h2
          clear hx hx' h2
          go_wp2_with fail
          refine (implBall_any (r + 1) way _).mono ?_
          rintro e w5 ⟨v3, rfl, o3, bn⟩
          have bb := below_step bb bn
          have o1 := o1.below bn
          clear bn
          try rw [HX.out] at o3
          obtain ⟨A3, c3, rfl, _, _⟩ := o3.reads.slice
          go_wp2_with fail
          refine (implBall_any 1 way _).mono ?_
          rintro e w6 ⟨v4, rfl, o4, bn⟩
          have bb := below_step bb bn
          have o1 := o1.below bn
          have o3 := o3.below bn
          clear bn
          go_wp2_with fail
          refine (sum_lit HS.out o1.reads o4.reads).mono ?_
          rintro e w7 ⟨v5, rfl, os, bn⟩
          have bb := below_step bb bn
          have o1 := o1.below bn
          have o3 := o3.below bn
          clear bn
          go_wp2_with fail
          refine (gives_is HF.out.pic (implPicture_any _ _ _ o1.reads)).mono ?_
          rintro e w8 ⟨rfl, bn⟩
          have os := os.below bn
          have bb := below_step bb bn
          have o1 := o1.below bn
          have o3 := o3.below bn
          clear bn
          go_wp2_with fail
          refine (implTurned_any _ _ _ o1.reads).mono ?_
          rintro e w9 ⟨vt, rfl, ot, bn⟩
          have os := os.below bn
          have bb := below_step bb bn
          have o1 := o1.below bn
          have o3 := o3.below bn
          clear bn
          go_wp2_with fail
          refine (gives_is (show decide (turnedP (ballL r way) = ballL r way) = true from decide_eq_true HF.out.turn) (sameSpots_any _ _ _ _ _ ot.reads o1.reads)).mono ?_
          rintro e w10 ⟨rfl, bn⟩
          have os := os.below bn
          have bb := below_step bb bn
          have o1 := o1.below bn
          have o3 := o3.below bn
          clear bn
          clear ot
          go_wp2_with fail
          refine (has_lit HF.out.mem o1.reads).mono ?_
          rintro e w11 ⟨rfl, bn⟩
          have os := os.below bn
          have bb := below_step bb bn
          have o1 := o1.below bn
          have o3 := o3.below bn
          clear bn
          rw [HE.out] at os
          go_wp2_with fail
          refine (gives_is HW.out (implWithin_any _ _ _ _ _ o1.reads o3.reads)).mono ?_
          rintro e w12 ⟨rfl, bn⟩
          have os := os.below bn
          have bb := below_step bb bn
          have o1 := o1.below bn
          have o3 := o3.below bn
          clear bn
          go_wp2_with fail
          refine (gives_is (show decide (ballL (r + 1) way = ballL (r + 1) way) = true by simp) (sameSpots_any _ _ _ _ _ os.reads o3.reads)).mono ?_
          rintro e w13 ⟨rfl, bn⟩
          have bb := below_step bb bn
          go_wp2
          go_ret
          exact ⟨rfl, bb⟩
set_option maxRecDepth 100000 in
theorem lifted (os : Os) (started : os.Started) (H : Type) (enc : TypeId × Value → H) :
    ReturnsInHanded {} Try.checked os 8 .any (Rows.fnBallOfSpec.pre6 enc Try.prog Try.f8 Rows.fnBallOfRow.domain false) (Rows.fnBallOfSpec.post enc Try.prog Try.f8 false true false false) := by
  refine returnsInHanded_of_change (C := Try.checked) own started (by kernel_rfl) Try.func8
    (ChangeSpec.witness6 (enc := enc) (C := Try.checked) false ⟨#[], #[.slice none 0 0], []⟩ 8 (by kernel_rfl) (by kernel_rfl) (by kernel_rfl) (by kernel_rfl)) ?_
  intro W base args ds gs before hval0 hW _ _
  have hval : ∀ (j : Nat) t v, Try.f8.params[j]? = some t → args[j]? = some v → Value.okWide Try.prog W .any base t v := hval0
  have hW' := hW
  obtain ⟨p, q, hA0, hV, rfl, _, _⟩ := hW
  have hA : DataW.TrodAll enc Try.prog W 0 (fun _ => true) true Try.f8.params.toList args.toList ds p := hA0
  rw [Try.params8] at hA hval
  obtain ⟨v0, d0, rfl, rfl, h0⟩ := trodAll_one hA
  obtain ⟨rfl, rfl⟩ := trodVars_none hV
  clear hA0 hval0
  simp only [List.append_nil] at hW'
  have hlt : ∀ x ∈ p, x.block < W.heap.size := fun x hx => by simpa using hW'.lt x hx
  have r0 := open_bytes (hval 0 22 v0 rfl rfl) h0 hlt
  obtain ⟨⟨bA, bn, bc⟩, rfl, rb, rn, rc⟩ := r0
  simp only at rb rn rc
  refine (walk bA bn bc W rb rn rc).mono fun e W' hg => ?_
  obtain ⟨he, hb⟩ := hg
  subst he
  exact ⟨_, rfl, _, _, _, [], p, [], hW', trodAll_mk1 (shut_bool Try.underlying4 _), trodAll_mk1 (kept_arg (by kernel_rfl) (of_decide_eq_true (by kernel_rfl)) h0 hb hlt), rfl, hb.frame _, fun h => by cases h⟩

theorem holds : Rows.FnBallOfSaid :=
  OpenClaim.holds_of_wide 8 Try.f8 rfl rfl rfl rfl rfl rfl rfl ⟨rfl, rfl, rfl, rfl, rfl⟩ rfl rfl rfl rfl rfl (by kernel_rfl) Try.func8 (by kernel_rfl)
    (of_decide_eq_true (by kernel_rfl)) (by unfold Func.isWrapper; first | (rw [if_pos (by decide +kernel)]; kernel_rfl) | (rw [if_neg (by decide +kernel)]; exact ⟨rfl, rfl⟩))
    (fun os started H enc _ => lifted os started H enc)
end Go.Proofs.Ytfofmfkdkihhbaa.fnBallOf
