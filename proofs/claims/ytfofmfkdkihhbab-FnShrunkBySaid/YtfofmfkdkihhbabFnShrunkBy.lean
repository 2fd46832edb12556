/-
  Proved: the law of ShrunkBy (FnShrunkBy) returns true for every code and further code, and both read afterwards as they read before. No conditions.
-/
import Derived.Test.YtfofmfkdkihhbabDraws3
import Derived.Test.YtfofmfkdkihhbabShrinkQ
import Derived.Test.YtfofmfkdkihhbabShrinkI
import Derived.Test.YtfofmfkdkihhbabOpen
namespace Go.Proofs.Ytfofmfkdkihhbab.fnShrunkBy
open Go.ChangeShapes Go.WideShapes Go.ChangeAt Go.RowKit

theorem impl_is {b : Bool} {p q : List Sp} {v u : Value} {w : World} (hk : shrinkOk p q = b) (h : Reads w w.heap.size v p) (k : Reads w w.heap.size u q) : Calls Try.prog 12 #[v, u] w (Gives2' (shrinkR p q) b w) := by
  subst hk; exact implShrunk_any p q v u w h k
theorem sum_is' {b : Bool} {p q : List Sp} {v u : Value} {w : World} (hk : sumOk p q = b) (h : Reads w w.heap.size v p) (k : Reads w w.heap.size u q) : Calls Try.prog 17 #[v, u] w (Gives2' (sumR p q) b w) := by
  subst hk; exact implSum_any p q v u w h k
theorem union_is' {b : Bool} {p q : List Sp} {v u : Value} {w : World} (hk : unionOk p q = b) (h : Reads w w.heap.size v p) (k : Reads w w.heap.size u q) : Calls Try.prog 19 #[v, u] w (Gives2' (unionL p q) b w) := by
  subst hk; exact (implUnion_any p q v u w h k).mono fun _ _ hh => hh

set_option maxHeartbeats 1600000 in
theorem walk (A A' : Option Addr) (n c n' c' : Nat) (w : World) (hb : Bytes w w.heap.size A n) (hn : n ≤ c) (hc : c ≤ 9223372036854775807) (hb' : Bytes w w.heap.size A' n') (hn' : n' ≤ c') (hc' : c' ≤ 9223372036854775807) :
    Calls Try.prog 3 #[.slice A n c, .slice A' n' c'] w (Gives (.bool true) w) := by
  by_cases hbig : 1048576 < n
  · have hd : decide ((1048576 : Int) < (n : Int)) = true := decide_eq_true (by omega)
    have hd2 : decide (1048576 < n) = true := decide_eq_true hbig
    go_enter Try.func3, Try.ntmps3
    go_wp2
    all_goals
      go_ret
      exact ⟨rfl, Below.refl _ _⟩
  have hd : decide ((1048576 : Int) < (n : Int)) = false := decide_eq_false (by omega)
  have hd2 : decide (1048576 < n) = false := decide_eq_false hbig
  by_cases hbig' : 1048576 < n'
  · have hd3 : decide ((1048576 : Int) < (n' : Int)) = true := decide_eq_true (by omega)
    have hd4 : decide (1048576 < n') = true := decide_eq_true hbig'
    go_enter Try.func3, Try.ntmps3
    go_wp2
    all_goals
      go_ret
      exact ⟨rfl, Below.refl _ _⟩
  have hd3 : decide ((1048576 : Int) < (n' : Int)) = false := decide_eq_false (by omega)
  have hd4 : decide (1048576 < n') = false := decide_eq_false hbig'
  go_enter Try.func3, Try.ntmps3
  go_wp2_with fail
  refine (drawShrunkBy_any A n c _ hb hn hc).mono ?_
  rintro e w1 ⟨vp, ps, vq, qs, rfl, Dp, Dq⟩
  have bb := Dp.below
  have rp := Dp.own.reads
  have rq := Dq.own.reads
  obtain ⟨Ap, cp, rfl, hcp, hmp⟩ := rp.slice
  obtain ⟨Aq, cq, rfl, hcq, hmq⟩ := rq.slice
  unfold maxLen at hmp hmq
  clear Dp Dq
  rcases hk : shrinkOk ps qs with _ | _
  all_goals
    go_wp2_with fail
    refine (impl_is hk rp rq).mono ?_
    rintro e w2 ⟨vs, rfl, os, b2⟩
    have bb2 := below_step bb b2
    go_wp2_with fail
    refine (specShrunk_is hk (rp.kept b2) (rq.kept b2)).mono ?_
    rintro e w3 ⟨vx, rfl, ox, b3⟩
    have bb3 := below_step bb2 b3
    have os3 := os.below b3
    have rp3 := (rp.kept b2).kept b3
    have rq3 := (rq.kept b2).kept b3
    clear os rp rq b2 b3
  · rw [shrinkR_no hk] at os3 ox
    obtain ⟨As, cs, rfl, _, _⟩ := os3.reads.slice
    clear hk
    go_wp2_with fail
    refine (gives_is (show decide (([] : List Sp) = []) = true by simp) (sameSpots_any _ _ _ _ _ os3.reads ox.reads)).mono ?_
    rintro e w4 ⟨rfl, b4⟩
    have bb4 := below_step bb3 b4
    go_wp2_with fail
    refine (alive_any _).mono ?_
    rintro e wz ⟨rfl, bz⟩
    go_wp2
    go_ret
    exact ⟨rfl, below_step bb4 bz⟩
  · have HK := Lib.hid hk
    clear hk
    go_wp2_with fail
    refine (gives_is (show decide (shrinkR ps qs = shrinkR ps qs) = true by simp) (sameSpots_any _ _ _ _ _ os3.reads ox.reads)).mono ?_
    rintro e w4 ⟨rfl, b4⟩
    have bb4 := below_step bb3 b4
    have rs4 := (os3.below b4).reads
    have rp4 := rp3.kept b4
    have rq4 := rq3.kept b4
    clear os3 rp3 rq3 b4 ox
    go_wp2_with fail
    refine (drawDoubledOf_any A' n' c' _ ((hb'.below bb4).more bb4.size) hn' hc').mono ?_
    rintro e w5 ⟨va, ts, rfl, D⟩
    have ra5 := D.own.reads
    have b5 := D.below
    have bb5 := below_step bb4 b5
    have rs5 := rs4.kept b5
    have rp5 := rp4.kept b5
    have rq5 := rq4.kept b5
    clear D rs4 rp4 rq4 b5
    rcases hc2 : sumOk ts qs with _ | _
    all_goals
      go_wp2_with fail
      refine (sum_is' hc2 ra5 rq5).mono ?_
      rintro e w6 ⟨vg, rfl, og, b6⟩
      have bb6 := below_step bb5 b6
      have ra6 := ra5.kept b6
      have rs6 := rs5.kept b6
      have rp6 := rp5.kept b6
      have rq6 := rq5.kept b6
      clear ra5 rs5 rp5 rq5 b6
    · clear hc2 og
      rcases hu : unionOk ps [(2, 2)] with _ | _
      all_goals rcases hv : shrinkOk (unionL ps [(2, 2)]) qs with _ | _
      all_goals
        go_wp2_with fail
        refine (union_is' hu (rp6.kept (box_below _ #[.int .i64 2, .int .i64 2] 32)) (litB _ [(2, 2)] #[.int .i64 2, .int .i64 2] rfl (by simp)).reads).mono ?_
        rintro e w17 ⟨vu, rfl, ou, b17⟩
        have bb17 := below_step (below_step bb6 (box_below _ #[.int .i64 2, .int .i64 2] 32)) b17
        have rs17 := (rs6.kept (box_below _ #[.int .i64 2, .int .i64 2] 32)).kept b17
        have rq17 := (rq6.kept (box_below _ #[.int .i64 2, .int .i64 2] 32)).kept b17
        go_wp2_with fail
        refine (impl_is hv ou.reads rq17).mono ?_
        rintro e w18 ⟨vw, rfl, ow, b18⟩
        have bb18 := below_step bb17 b18
        have rs18 := rs17.kept b18
        have rw18 := ow.reads
        clear b17 rs17 rq17 b18 ou ow
        first
          | (have HI := wider_in HK.out hu hv
             clear hu hv
             go_wp2_with fail
             refine (gives_is HI (implWithin_any _ _ _ _ _ rs18 rw18)).mono ?_
             rintro e w19 ⟨rfl, b19⟩
             have bb19 := below_step bb18 b19
             go_wp2_with fail
             refine (alive_any _).mono ?_
             rintro e w20 ⟨rfl, b20⟩
             go_wp2
             go_ret
             exact ⟨rfl, below_step bb19 b20⟩)
          | (clear hu hv
             go_wp2_with fail
             refine (alive_any _).mono ?_
             rintro e w20 ⟨rfl, b20⟩
             go_wp2
             go_ret
             exact ⟨rfl, below_step bb18 b20⟩)
    · have had := adjoint_in HK.out hc2
      rcases hw : withinB ts (shrinkR ps qs) with _ | _
      all_goals
        rw [hw] at had
        have HA := Lib.hid had
        have HW := Lib.hid hw
        clear had hw hc2
        go_wp2_with fail
        refine (gives_is HA.out (implWithin_any _ _ _ _ _ og.reads rp6)).mono ?_
        rintro e w7 ⟨rfl, b7⟩
        have bb7 := below_step bb6 b7
        have ra7 := ra6.kept b7
        have rs7 := rs6.kept b7
        have rp7 := rp6.kept b7
        have rq7 := rq6.kept b7
        clear ra6 rs6 rp6 rq6 b7 og
        go_wp2_with fail
        refine (gives_is HW.out (implWithin_any _ _ _ _ _ ra7 rs7)).mono ?_
        rintro e w8 ⟨rfl, b8⟩
        have bb8 := below_step bb7 b8
        have rs8 := rs7.kept b8
        have rp8 := rp7.kept b8
        have rq8 := rq7.kept b8
        clear ra7 rs7 rp7 rq7 b8 HA HW
        rcases hu : unionOk ps [(2, 2)] with _ | _
        all_goals rcases hv : shrinkOk (unionL ps [(2, 2)]) qs with _ | _
        all_goals
          go_wp2_with fail
          refine (union_is' hu (rp8.kept (box_below _ #[.int .i64 2, .int .i64 2] 32)) (litB _ [(2, 2)] #[.int .i64 2, .int .i64 2] rfl (by simp)).reads).mono ?_
          rintro e w17 ⟨vu, rfl, ou, b17⟩
          have bb17 := below_step (below_step bb8 (box_below _ #[.int .i64 2, .int .i64 2] 32)) b17
          have rs17 := (rs8.kept (box_below _ #[.int .i64 2, .int .i64 2] 32)).kept b17
          have rq17 := (rq8.kept (box_below _ #[.int .i64 2, .int .i64 2] 32)).kept b17
          go_wp2_with fail
          refine (impl_is hv ou.reads rq17).mono ?_
          rintro e w18 ⟨vw, rfl, ow, b18⟩
          have bb18 := below_step bb17 b18
          have rs18 := rs17.kept b18
          have rw18 := ow.reads
          clear b17 rs17 rq17 b18 ou ow
          first
            | (have HI := wider_in HK.out hu hv
               clear hu hv
               go_wp2_with fail
               refine (gives_is HI (implWithin_any _ _ _ _ _ rs18 rw18)).mono ?_
               rintro e w19 ⟨rfl, b19⟩
               have bb19 := below_step bb18 b19
               go_wp2_with fail
               refine (alive_any _).mono ?_
               rintro e w20 ⟨rfl, b20⟩
               go_wp2
               go_ret
               exact ⟨rfl, below_step bb19 b20⟩)
            | (clear hu hv
               go_wp2_with fail
               refine (alive_any _).mono ?_
               rintro e w20 ⟨rfl, b20⟩
               go_wp2
               go_ret
               exact ⟨rfl, below_step bb18 b20⟩)
set_option maxRecDepth 100000 in
theorem lifted (os : Os) (started : os.Started) (H : Type) (enc : TypeId × Value → H) :
    ReturnsInHanded {} Try.checked os 3 .any (Rows.fnShrunkBySpec.pre6 enc Try.prog Try.f3 Rows.fnShrunkByRow.domain false) (Rows.fnShrunkBySpec.post enc Try.prog Try.f3 false true false false) := by
  refine returnsInHanded_of_change (C := Try.checked) own started (by kernel_rfl) Try.func3
    (ChangeSpec.witness6 (enc := enc) (C := Try.checked) false ⟨#[], #[.slice none 0 0, .slice none 0 0], []⟩ 8 (by kernel_rfl) (by kernel_rfl) (by kernel_rfl) (by kernel_rfl)) ?_
  intro W base args ds gs before hval0 hW _ _
  have hval : ∀ (j : Nat) t v, Try.f3.params[j]? = some t → args[j]? = some v → Value.okWide Try.prog W .any base t v := hval0
  have hW' := hW
  obtain ⟨p, q, hA0, hV, rfl, _, _⟩ := hW
  have hA : DataW.TrodAll enc Try.prog W 0 (fun _ => true) true Try.f3.params.toList args.toList ds p := hA0
  rw [Try.params3] at hA hval
  obtain ⟨v0, v1, d0, d1, p0, p1, rfl, rfl, rfl, h0, h1⟩ := trodAll_two hA
  obtain ⟨rfl, rfl⟩ := trodVars_none hV
  clear hA0 hval0
  simp only [List.append_nil] at hW'
  have hlt : ∀ x ∈ p0 ++ p1, x.block < W.heap.size := fun x hx => by simpa using hW'.lt x hx
  have hlt0 : ∀ x ∈ p0, x.block < W.heap.size := fun x hx => hlt x (List.mem_append_left _ hx)
  have hlt1 : ∀ x ∈ p1, x.block < W.heap.size := fun x hx => hlt x (List.mem_append_right _ hx)
  have r0 := open_bytes (hval 0 22 v0 rfl rfl) h0 hlt0
  obtain ⟨⟨bA, bn, bc⟩, rfl, rb, rn, rc⟩ := r0
  simp only at rb rn rc
  have r1 := open_bytes (hval 1 22 v1 rfl rfl) h1 hlt1
  obtain ⟨⟨bA1, bn1, bc1⟩, rfl, rb1, rn1, rc1⟩ := r1
  simp only at rb1 rn1 rc1
  refine (walk bA bA1 bn bc bn1 bc1 W rb rn rc rb1 rn1 rc1).mono fun e W' hg => ?_
  obtain ⟨he, hb⟩ := hg
  subst he
  exact ⟨_, rfl, _, _, _, [], p0 ++ p1, [], hW', trodAll_mk1 (shut_bool Try.underlying4 _), trodAll_mk2 (kept_arg (by kernel_rfl) (of_decide_eq_true (by kernel_rfl)) h0 hb hlt0) (kept_arg (by kernel_rfl) (of_decide_eq_true (by kernel_rfl)) h1 hb hlt1), rfl, hb.frame _, fun h => by cases h⟩

theorem holds : Rows.FnShrunkBySaid :=
  OpenClaim.holds_of_wide 3 Try.f3 rfl rfl rfl rfl rfl rfl rfl ⟨rfl, rfl, rfl, rfl, rfl⟩ rfl rfl rfl rfl rfl (by kernel_rfl) Try.func3 (by kernel_rfl)
    (of_decide_eq_true (by kernel_rfl)) (by unfold Func.isWrapper; first | (rw [if_pos (by decide +kernel)]; kernel_rfl) | (rw [if_neg (by decide +kernel)]; exact ⟨rfl, rfl⟩))
    (fun os started H enc _ => lifted os started H enc)
end Go.Proofs.Ytfofmfkdkihhbab.fnShrunkBy
