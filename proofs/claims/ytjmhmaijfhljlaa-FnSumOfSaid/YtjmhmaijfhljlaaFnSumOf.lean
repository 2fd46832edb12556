/-
  Proved: the law of SumOf (FnSumOf) returns true for every code and further code, and both read afterwards as they read before. No conditions.
-/
import Derived.Test.YtjmhmaijfhljlaaDraws2
import Derived.Test.YtjmhmaijfhljlaaSumS
import Derived.Test.YtjmhmaijfhljlaaOpen
namespace Go.Proofs.Ytjmhmaijfhljlaa.fnSumOf
open Go.ChangeShapes Go.WideShapes Go.ChangeAt Go.RowKit

theorem sumOk_comm (p q : List Sp) : sumOk q p = sumOk p q := by
  unfold sumOk; rw [sumL_comm q p, Bool.and_comm (picB q) (picB p)]
theorem sumR_comm (p q : List Sp) : sumR q p = sumR p q := by
  unfold sumR; rw [sumOk_comm, sumL_comm q p]
theorem sumR_yes {p q : List Sp} (h : sumOk p q = true) : sumR p q = sumL p q := by unfold sumR; rw [h]; rfl
theorem sumR_not {p q : List Sp} (h : sumOk p q = false) : sumR p q = [] := by unfold sumR; rw [h]; rfl
theorem assoc {p q t : List Sp} (h : sumOk p q = true) (ha : sumOk (sumR p q) t = true) (hb : sumOk q t = true) (hc : sumOk p (sumR q t) = true) : sumR (sumR p q) t = sumR p (sumR q t) := by
  rw [sumR_yes ha, sumR_yes hc, sumR_yes h, sumR_yes hb, sumL_assoc]
theorem pics {p q : List Sp} (h : sumOk p q = true) : Pic p ∧ Pic q := by
  unfold sumOk at h; simp only [Bool.and_eq_true] at h; exact ⟨picB_pic h.1.1, picB_pic h.1.2⟩
theorem many {p q : List Sp} (h : sumOk p q = true) : (sumR p q).length ≤ p.length * q.length := by rw [sumR_yes h]; exact length_sumL_le p q
theorem few {p q : List Sp} (h : sumOk p q = true) (hp : ¬ p.length = 0) (hq : ¬ q.length = 0) : p.length + q.length ≤ (sumR p q).length + 1 := by
  rw [sumR_yes h]
  exact length_sumL_ge (pics h).1.2.2 (pics h).2.2.2 (fun e => hp (by rw [e]; rfl)) (fun e => hq (by rw [e]; rfl))
theorem impl_is {b : Bool} {p q : List Sp} {v u : Value} {w : World} (hk : sumOk p q = b) (h : Reads w w.heap.size v p) (k : Reads w w.heap.size u q) : Calls Try.prog 28 #[v, u] w (Gives2' (sumR p q) b w) := by
  subst hk; exact implSum_any p q v u w h k
theorem spec_is {b : Bool} {p q : List Sp} {v u : Value} {w : World} (hk : sumOk p q = b) (h : Reads w w.heap.size v p) (k : Reads w w.heap.size u q) : Calls Try.prog 29 #[v, u] w (Gives2' (sumR p q) b w) := by
  subst hk; exact specSum_any p q v u w h k

set_option maxHeartbeats 1600000 in
theorem walk (A A' : Option Addr) (n c n' c' : Nat) (w : World) (hb : Bytes w w.heap.size A n) (hn : n ≤ c) (hc : c ≤ 9223372036854775807) (hb' : Bytes w w.heap.size A' n') (hn' : n' ≤ c') (hc' : c' ≤ 9223372036854775807) :
    Calls Try.prog 7 #[.slice A n c, .slice A' n' c'] w (Gives (.bool true) w) := by
  by_cases hbig : 1048576 < n
  · have hd : decide ((1048576 : Int) < (n : Int)) = true := decide_eq_true (by omega)
    have hd2 : decide (1048576 < n) = true := decide_eq_true hbig
    go_enter Try.func7, Try.ntmps7
    go_wp2
    all_goals
      go_ret
      exact ⟨rfl, Below.refl _ _⟩
  have hd : decide ((1048576 : Int) < (n : Int)) = false := decide_eq_false (by omega)
  have hd2 : decide (1048576 < n) = false := decide_eq_false hbig
  by_cases hbig' : 1048576 < n'
  · have hd3 : decide ((1048576 : Int) < (n' : Int)) = true := decide_eq_true (by omega)
    have hd4 : decide (1048576 < n') = true := decide_eq_true hbig'
    go_enter Try.func7, Try.ntmps7
    go_wp2
    all_goals
      go_ret
      exact ⟨rfl, Below.refl _ _⟩
  have hd3 : decide ((1048576 : Int) < (n' : Int)) = false := decide_eq_false (by omega)
  have hd4 : decide (1048576 < n') = false := decide_eq_false hbig'
  go_enter Try.func7, Try.ntmps7
  go_wp2_with fail
  refine (drawSumOf_any A n c _ hb hn hc).mono ?_
  rintro e w1 ⟨vp, ps, vq, qs, rfl, Dp, Dq⟩
  have bb := Dp.below
  have rp := Dp.own.reads
  have rq := Dq.own.reads
  have hlp := Dp.len
  have hlq := Dq.len
  obtain ⟨Ap, cp, rfl, hcp, hmp⟩ := rp.slice
  obtain ⟨Aq, cq, rfl, hcq, hmq⟩ := rq.slice
  unfold maxLen at hmp hmq
  clear Dp Dq
  rcases hk : sumOk ps qs with _ | _
  · have hS := sumR_not hk
    go_wp2_with fail
    refine (impl_is hk rp rq).mono ?_
    rintro e w2 ⟨vs, rfl, os, b2⟩
    rw [hS] at os
    have bb2 := below_step bb b2
    go_wp2_with fail
    refine (spec_is hk (rp.kept b2) (rq.kept b2)).mono ?_
    rintro e w3 ⟨vx, rfl, ox, b3⟩
    rw [hS] at ox
    have bb3 := below_step bb2 b3
    have os3 := os.below b3
    obtain ⟨As, cs, rfl, _, _⟩ := os3.reads.slice
    clear hk hS
    go_wp2_with fail
    refine (gives_is (show decide (([] : List Sp) = []) = true by simp) (sameSpots_any _ _ _ _ _ os3.reads ox.reads)).mono ?_
    rintro e w4 ⟨rfl, b4⟩
    have bb4 := below_step bb3 b4
    go_wp2_with fail
    refine (alive_any _).mono ?_
    rintro e w5 ⟨rfl, b5⟩
    go_wp2
    go_ret
    exact ⟨rfl, below_step bb4 b5⟩
  · have hk' := (sumOk_comm ps qs).trans hk
    have HK := Lib.hid hk
    have HC := Lib.hid hk'
    have hmany := many hk
    have h40 := Nat.mul_le_mul hlp hlq
    have hP1 : ((sumR ps qs).length : Int) ≤ (ps.length : Int) * (qs.length : Int) := by rw [← Int.natCast_mul]; exact Int.ofNat_le.2 hmany
    have hP3 : (ps.length : Int) * (qs.length : Int) ≤ 40 := by rw [← Int.natCast_mul]; exact Int.ofNat_le.2 h40
    have hP4 : (0 : Int) ≤ (ps.length : Int) * (qs.length : Int) := by rw [← Int.natCast_mul]; exact Int.natCast_nonneg _
    have hwP : IntKind.i64.wrap ((ps.length : Int) * (qs.length : Int)) = (ps.length : Int) * (qs.length : Int) := IntWalk.i64_in _ ⟨by omega, by omega⟩
    have hw1 : IntKind.i64.wrap ((ps.length : Int) + (qs.length : Int)) = (ps.length : Int) + (qs.length : Int) := IntWalk.i64_in _ (by omega)
    have hw2 : IntKind.i64.wrap ((ps.length : Int) + (qs.length : Int) - 1) = (ps.length : Int) + (qs.length : Int) - 1 := IntWalk.i64_in _ (by omega)
    have hPd : decide (((sumR ps qs).length : Int) ≤ (ps.length : Int) * (qs.length : Int)) = true := decide_eq_true hP1
    clear h40 hP3 hP4
    go_wp2_with fail
    refine (impl_is hk rp rq).mono ?_
    rintro e w2 ⟨vs, rfl, os, b2⟩
    have bb2 := below_step bb b2
    have rp2 := rp.kept b2
    have rq2 := rq.kept b2
    go_wp2_with fail
    refine (spec_is hk rp2 rq2).mono ?_
    rintro e w3 ⟨vx, rfl, ox, b3⟩
    have bb3 := below_step bb2 b3
    have rs3 := (os.below b3).reads
    have rp3 := rp2.kept b3
    have rq3 := rq2.kept b3
    obtain ⟨As, cs, rfl, hcs, hms⟩ := rs3.slice
    unfold maxLen at hms
    clear hk hk' rp rq rp2 rq2 b2 b3
    go_wp2_with fail
    refine (gives_is (show decide (sumR ps qs = sumR ps qs) = true by simp) (sameSpots_any _ _ _ _ _ rs3 ox.reads)).mono ?_
    rintro e w4 ⟨rfl, b4⟩
    have bb4 := below_step bb3 b4
    have rs4 := rs3.kept b4
    have rp4 := rp3.kept b4
    have rq4 := rq3.kept b4
    clear rs3 rp3 rq3 b4 os ox
    go_wp2_with fail
    refine (impl_is HC.out rq4 rp4).mono ?_
    rintro e w5 ⟨vb, rfl, ob, b5⟩
    rw [sumR_comm] at ob
    have bb5 := below_step bb4 b5
    have rs5 := rs4.kept b5
    have rp5 := rp4.kept b5
    have rq5 := rq4.kept b5
    have rb5 := ob.reads
    clear rs4 rp4 rq4 b5 ob
    go_wp2_with fail
    refine (drawDoubledOf_any A' n' c' _ ((hb'.below bb5).more bb5.size) hn' hc').mono ?_
    rintro e w6 ⟨vt, ts, rfl, D⟩
    have b6 := D.below
    have rt6 := D.own.reads
    have bb6 := below_step bb5 b6
    have rs6 := rs5.kept b6
    have rp6 := rp5.kept b6
    have rq6 := rq5.kept b6
    have rb6 := rb5.kept b6
    clear D rs5 rp5 rq5 rb5 b6
    rcases ha : sumOk (sumR ps qs) ts with _ | _
    all_goals rcases hb2 : sumOk qs ts with _ | _
    all_goals rcases hc2 : sumOk ps (sumR qs ts) with _ | _
    all_goals
      first
        | have HE := Lib.hid (assoc HK.out ha hb2 hc2)
        | have HE := trivial
      go_wp2_with fail
      refine (impl_is ha rs6 rt6).mono ?_
      rintro e w7 ⟨vl, rfl, ol, b7⟩
      have bb7 := below_step bb6 b7
      have rs7 := rs6.kept b7
      have rp7 := rp6.kept b7
      have rq7 := rq6.kept b7
      have rb7 := rb6.kept b7
      have rt7 := rt6.kept b7
      go_wp2_with fail
      refine (impl_is hb2 rq7 rt7).mono ?_
      rintro e w8 ⟨vm, rfl, om, b8⟩
      have bb8 := below_step bb7 b8
      have rs8 := rs7.kept b8
      have rp8 := rp7.kept b8
      have rb8 := rb7.kept b8
      have ol8 := ol.below b8
      clear rs7 rp7 rq7 rb7 rt7 b7 b8
      go_wp2_with fail
      refine (impl_is hc2 rp8 om.reads).mono ?_
      rintro e w9 ⟨vr, rfl, or, b9⟩
      have bb9 := below_step bb8 b9
      have rs9 := rs8.kept b9
      have rb9 := rb8.kept b9
      have ol9 := ol8.below b9
      clear rs8 rp8 rb8 ol ol8 om b9 ha hb2 hc2
      go_wp2_with fail
      refine (gives_is (show decide (sumR ps qs = sumR ps qs) = true by simp) (sameSpots_any _ _ _ _ _ rb9 rs9)).mono ?_
      rintro e w10 ⟨rfl, b10⟩
      have bb10 := below_step bb9 b10
      have rb10 := rb9.kept b10
      clear rb9 rs9
      first
        | (have hE := HE.out
           have ol10 := ol9.below b10
           have or10 := or.below b10
           rw [hE] at ol10
           clear ol9 or b10
           go_wp2_with fail
           refine (gives_is (show decide (sumR ps (sumR qs ts) = sumR ps (sumR qs ts)) = true by simp) (sameSpots_any _ _ _ _ _ ol10.reads or10.reads)).mono ?_
           rintro e w11 ⟨rfl, b11⟩
           have bb10 := below_step bb10 b11)
        | skip
      by_cases hp0 : ps.length = 0
      · have hpd : ((ps.length : Int) == 0) = true := by simp [hp0]
        clear hp0
        go_wp2_with fail
        refine (alive_any _).mono ?_
        rintro e w12 ⟨rfl, b12⟩
        go_wp2
        go_ret
        exact ⟨rfl, below_step bb10 b12⟩
      · have hpd : ((ps.length : Int) == 0) = false := by simp [hp0]
        by_cases hq0 : qs.length = 0
        · have hqd : ((qs.length : Int) == 0) = true := by simp [hq0]
          clear hq0
          go_wp2_with fail
          refine (alive_any _).mono ?_
          rintro e w12 ⟨rfl, b12⟩
          go_wp2
          go_ret
          exact ⟨rfl, below_step bb10 b12⟩
        · have hqd : ((qs.length : Int) == 0) = false := by simp [hq0]
          have hfew := few HK.out hp0 hq0
          have hF : (ps.length : Int) + (qs.length : Int) - 1 ≤ ((sumR ps qs).length : Int) := by omega
          have hFd : decide ((ps.length : Int) + (qs.length : Int) - 1 ≤ ((sumR ps qs).length : Int)) = true := decide_eq_true hF
          go_wp2_with fail
          refine (alive_any _).mono ?_
          rintro e w12 ⟨rfl, b12⟩
          go_wp2
          go_ret
          exact ⟨rfl, below_step bb10 b12⟩
set_option maxRecDepth 100000 in
theorem lifted (os : Os) (started : os.Started) (H : Type) (enc : TypeId × Value → H) :
    ReturnsInHanded {} Try.checked os 7 .any (Rows.fnSumOfSpec.pre6 enc Try.prog Try.f7 Rows.fnSumOfRow.domain false) (Rows.fnSumOfSpec.post enc Try.prog Try.f7 false true false false) := by
  refine returnsInHanded_of_change (C := Try.checked) own started (by kernel_rfl) Try.func7
    (ChangeSpec.witness6 (enc := enc) (C := Try.checked) false ⟨#[], #[.slice none 0 0, .slice none 0 0], []⟩ 8 (by kernel_rfl) (by kernel_rfl) (by kernel_rfl) (by kernel_rfl)) ?_
  intro W base args ds gs before hval0 hW _ _
  have hval : ∀ (j : Nat) t v, Try.f7.params[j]? = some t → args[j]? = some v → Value.okWide Try.prog W .any base t v := hval0
  have hW' := hW
  obtain ⟨p, q, hA0, hV, rfl, _, _⟩ := hW
  have hA : DataW.TrodAll enc Try.prog W 0 (fun _ => true) true Try.f7.params.toList args.toList ds p := hA0
  rw [Try.params7] at hA hval
  obtain ⟨v0, v1, d0, d1, p0, p1, rfl, rfl, rfl, h0, h1⟩ := trodAll_two hA
  obtain ⟨rfl, rfl⟩ := trodVars_none hV
  clear hA0 hval0
  simp only [List.append_nil] at hW'
  have hlt : ∀ x ∈ p0 ++ p1, x.block < W.heap.size := fun x hx => by simpa using hW'.lt x hx
  have hlt0 : ∀ x ∈ p0, x.block < W.heap.size := fun x hx => hlt x (List.mem_append_left _ hx)
  have hlt1 : ∀ x ∈ p1, x.block < W.heap.size := fun x hx => hlt x (List.mem_append_right _ hx)
  have r0 := open_bytes (hval 0 22 v0 rfl rfl) h0 hlt0
  obtain ⟨⟨bA, bn, bc⟩, rfl, rb, rn, rc⟩ := r0
  simp only at rb rn rc
  have r1 := open_bytes (hval 1 22 v1 rfl rfl) h1 hlt1
  obtain ⟨⟨bA1, bn1, bc1⟩, rfl, rb1, rn1, rc1⟩ := r1
  simp only at rb1 rn1 rc1
  refine (walk bA bA1 bn bc bn1 bc1 W rb rn rc rb1 rn1 rc1).mono fun e W' hg => ?_
  obtain ⟨he, hb⟩ := hg
  subst he
  exact ⟨_, rfl, _, _, _, [], p0 ++ p1, [], hW', trodAll_mk1 (shut_bool Try.underlying4 _), trodAll_mk2 (kept_arg (by kernel_rfl) (of_decide_eq_true (by kernel_rfl)) h0 hb hlt0) (kept_arg (by kernel_rfl) (of_decide_eq_true (by kernel_rfl)) h1 hb hlt1), rfl, hb.frame _, fun h => by cases h⟩

theorem holds : Rows.FnSumOfSaid :=
  OpenClaim.holds_of_wide 7 Try.f7 rfl rfl rfl rfl rfl rfl rfl ⟨rfl, rfl, rfl, rfl, rfl⟩ rfl rfl rfl rfl rfl (by kernel_rfl) Try.func7 (by kernel_rfl)
    (of_decide_eq_true (by kernel_rfl)) (by unfold Func.isWrapper; first | (rw [if_pos (by decide +kernel)]; kernel_rfl) | (rw [if_neg (by decide +kernel)]; exact ⟨rfl, rfl⟩))
    (fun os started H enc _ => lifted os started H enc)
end Go.Proofs.Ytjmhmaijfhljlaa.fnSumOf
