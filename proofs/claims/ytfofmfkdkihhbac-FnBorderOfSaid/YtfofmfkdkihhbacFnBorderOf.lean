/-
  Proved: the law of BorderOf (FnBorderOf) returns true for every code, and the code reads afterwards as it read before. No conditions.
-/
import Derived.Test.YtfofmfkdkihhbacDraws5
import Derived.Test.YtfofmfkdkihhbacBordS
import Derived.Test.YtfofmfkdkihhbacPattL
import Derived.Test.YtfofmfkdkihhbacBallI
import Derived.Test.YtfofmfkdkihhbacShrunkI
import Derived.Test.YtfofmfkdkihhbacUnion
import Derived.Test.YtfofmfkdkihhbacOpen
namespace Go.Proofs.Ytfofmfkdkihhbac.fnBorderOf
open Go.ChangeShapes Go.WideShapes Go.ChangeAt Go.RowKit

theorem shrunk_lit {b : Bool} {r p q : List Sp} {v u : Value} {w : World} (hk : shrinkOk p q = b) (hr : shrinkR p q = r) (h : Reads w w.heap.size v p) (k : Reads w w.heap.size u q) : Calls Try.prog 16 #[v, u] w (Gives2' r b w) := by
  subst hk hr; exact implShrunk_any p q v u w h k
theorem within_sub {a b : List Sp} (ha : picB a = true) (hb : picB b = true) (h : Sub a b) : withinB a b = true := by
  rw [within_yes (bothB_y ha hb)]
  have : common a b = a := by unfold common; exact List.filter_eq_self.2 fun x hx => decide_eq_true (h x hx)
  rw [this]; exact decide_eq_true rfl
structure Facts (p : List Sp) (s t : List Sp) : Prop where
  hs : borderP p = s
  ok : shrinkOk p (ballL 1 0) = true
  ht : shrinkR p (ballL 1 0) = t
  ps : picB s = true
  pt : picB t = true
  ws : withinB s p = true
  wt : withinB t p = true
  ap : commonL s t = []
  cnt : s.length + t.length = p.length
  some' : p ≠ [] → s ≠ []
theorem facts {p : List Sp} (h : picB p = true) : Facts p (borderL p) (shrinkL p (ballL 1 0)) := by
  have hs := (picB_pic h).2.2
  have hb : picB (ballL 1 0) = true := picB_ball
  have e := inside_is hs
  have hpt : picB (shrinkL p (ballL 1 0)) = true := by rw [e]; exact pic_filter h _
  have hps : picB (borderL p) = true := pic_filter h _
  have hok := shrink_yes h hb (by rw [ball_1_0]; simp) hpt
  refine ⟨borderP_yes h, hok.1, hok.2, hps, hpt, within_sub hps h (borderL_sub p), within_sub hpt h ?_, ?_, inside_count hs, border_some hs⟩
  · rw [e]; exact fun x hx => (List.mem_filter.1 hx).1
  · rw [common_yes (bothB_y hps hpt)]; exact inside_apart hs
set_option maxHeartbeats 1600000 in
theorem walk (A : Option Addr) (n c : Nat) (w : World) (hb : Bytes w w.heap.size A n) (hn : n ≤ c) (hc : c ≤ 9223372036854775807) :
    Calls Try.prog 9 #[.slice A n c] w (Gives (.bool true) w) := by
  by_cases hbig : 1048576 < n
  · go_enter Try.func9, Try.ntmps9
    go_wp2
    go_ret
    exact ⟨rfl, Below.refl _ _⟩
  · go_enter Try.func9, Try.ntmps9
    go_wp2_with fail
    refine (drawBorderOf_any A n c _ hb hn hc).mono ?_
    rintro e w1 ⟨v, ps, rfl, D⟩
    have bb := D.below
    have op := D.own
    have hl := D.len
    clear D hb hn hc
    go_wp2_with fail
    refine (implBorder_any ps _ _ op.reads).mono ?_
    rintro e w2 ⟨vl, rfl, os, bn⟩
    have bb := below_step bb bn
    have op := op.below bn
    go_wp2_with fail
    refine (specBorder_any ps _ _ op.reads).mono ?_
    rintro e w3 ⟨vs, rfl, ox, bn⟩
    have bb := below_step bb bn
    have op := op.below bn
    have os := os.below bn
    clear bn
    go_wp2_with fail
    refine (gives_is (show decide (borderP ps = borderP ps) = true by simp) (sameSpots_any _ _ _ _ _ os.reads ox.reads)).mono ?_
    rintro e w4 ⟨rfl, bn⟩
    have bb := below_step bb bn
    have op := op.below bn
    have os := os.below bn
    clear bn
    clear ox
    rcases hp : picB ps with _ | _
    · rw [borderP_no hp] at os
      obtain ⟨A4, c4, rfl, _, _⟩ := os.reads.slice
      go_wp2_with fail
      refine (gives_is hp (specPicture_any ps _ _ op.reads)).mono ?_
      rintro e w5 ⟨rfl, bn⟩
      have bb := below_step bb bn
      clear hp
      go_wp2_with fail
      refine (alive_any _).mono ?_
      rintro e w6 ⟨rfl, bn⟩
      go_wp2
      go_ret
      exact ⟨rfl, below_step bb bn⟩
    · obtain ⟨s, t, F⟩ : ∃ s t, Facts ps s t := ⟨_, _, facts hp⟩
      have HF := Lib.hid F
      rw [F.hs] at os
      have hcnt := F.cnt
      have hpl := (picB_pic hp).1
      have hsome := F.some'
      clear F
      go_wp2_with fail
      refine (gives_is hp (specPicture_any ps _ _ op.reads)).mono ?_
      rintro e w5 ⟨rfl, bn⟩
      have bb := below_step bb bn
      have op := op.below bn
      have os := os.below bn
      clear bn
      clear hp
      obtain ⟨Ap, cp, rfl, _, _⟩ := op.reads.slice
      obtain ⟨As, cs, rfl, _, _⟩ := os.reads.slice
      go_wp2_with fail
      refine (implBall_any 1 0 _).mono ?_
      rintro e w6 ⟨vb, rfl, ob, bn⟩
      have bb := below_step bb bn
      have op := op.below bn
      have os := os.below bn
      clear bn
      go_wp2_with fail
      refine (shrunk_lit HF.out.ok HF.out.ht op.reads ob.reads).mono ?_
      rintro e w7 ⟨vt, rfl, ot, bn⟩
      have bb := below_step bb bn
      have op := op.below bn
      have os := os.below bn
      clear bn
      clear ob
      obtain ⟨At, ct, rfl, _, _⟩ := ot.reads.slice
      have e1 : ((s.length : Int) + (t.length : Int) == (ps.length : Int)) = true := by rw [beq_iff_eq]; omega
      have e1n : (s.length + t.length == ps.length) = true := by rw [beq_iff_eq]; omega
      have e1d : decide (s.length + t.length = ps.length) = true := decide_eq_true (by omega)
      have e1i : decide ((s.length : Int) + (t.length : Int) = (ps.length : Int)) = true := decide_eq_true (by omega)
      have hls : s.length ≤ 60 := (picB_pic HF.out.ps).1
      have hlt : t.length ≤ 60 := (picB_pic HF.out.pt).1
      by_cases h0 : ps.length = 0
      · have e2 : ((ps.length : Int) == 0) = true := by rw [beq_iff_eq]; omega
        clear hsome hcnt h0
        go_wp2_with fail
        refine (gives_is HF.out.ws (implWithin_any _ _ _ _ _ os.reads op.reads)).mono ?_
        rintro e w8 ⟨rfl, bn⟩
        have ot := ot.below bn
        have bb := below_step bb bn
        have op := op.below bn
        have os := os.below bn
        clear bn
        go_wp2_with fail
        refine (implCommon_any s t _ _ _ os.reads ot.reads).mono ?_
        rintro e w9 ⟨vc, rfl, oc, bn⟩
        rw [HF.out.ap] at oc
        have ot := ot.below bn
        have bb := below_step bb bn
        have op := op.below bn
        have os := os.below bn
        clear bn
        obtain ⟨Ac, cc, rfl, _, _⟩ := oc.reads.slice
        go_wp2_with fail
        refine (gives_is HF.out.wt (implWithin_any _ _ _ _ _ ot.reads op.reads)).mono ?_
        rintro e w10 ⟨rfl, bn⟩
        have bb := below_step bb bn
        clear bn
        go_wp2_with fail
        refine (alive_any _).mono ?_
        rintro e w11 ⟨rfl, bn⟩
        have bb := below_step bb bn
        go_wp2
        go_ret
        exact ⟨rfl, bb⟩
      · have e2 : ((ps.length : Int) == 0) = false := by rw [beq_eq_false_iff_ne]; omega
        have e3 : 0 < s.length := List.length_pos_iff.2 (hsome (fun e => h0 (by rw [e]; rfl)))
        have e4 : decide ((0 : Int) < (s.length : Int)) = true := decide_eq_true (by omega)
        have e5 : decide (0 < s.length) = true := decide_eq_true e3
        clear hsome hcnt h0
        go_wp2_with fail
        refine (gives_is HF.out.ws (implWithin_any _ _ _ _ _ os.reads op.reads)).mono ?_
        rintro e w8 ⟨rfl, bn⟩
        have ot := ot.below bn
        have bb := below_step bb bn
        have op := op.below bn
        have os := os.below bn
        clear bn
        go_wp2_with fail
        refine (implCommon_any s t _ _ _ os.reads ot.reads).mono ?_
        rintro e w9 ⟨vc, rfl, oc, bn⟩
        rw [HF.out.ap] at oc
        have ot := ot.below bn
        have bb := below_step bb bn
        have op := op.below bn
        have os := os.below bn
        clear bn
        obtain ⟨Ac, cc, rfl, _, _⟩ := oc.reads.slice
        go_wp2_with fail
        refine (gives_is HF.out.wt (implWithin_any _ _ _ _ _ ot.reads op.reads)).mono ?_
        rintro e w10 ⟨rfl, bn⟩
        have bb := below_step bb bn
        clear bn
        go_wp2_with fail
        refine (alive_any _).mono ?_
        rintro e w11 ⟨rfl, bn⟩
        have bb := below_step bb bn
        go_wp2
        go_ret
        exact ⟨rfl, bb⟩
set_option maxRecDepth 100000 in
theorem lifted (os : Os) (started : os.Started) (H : Type) (enc : TypeId × Value → H) :
    ReturnsInHanded {} Try.checked os 9 .any (Rows.fnBorderOfSpec.pre6 enc Try.prog Try.f9 Rows.fnBorderOfRow.domain false) (Rows.fnBorderOfSpec.post enc Try.prog Try.f9 false true false false) := by
  refine returnsInHanded_of_change (C := Try.checked) own started (by kernel_rfl) Try.func9
    (ChangeSpec.witness6 (enc := enc) (C := Try.checked) false ⟨#[], #[.slice none 0 0], []⟩ 8 (by kernel_rfl) (by kernel_rfl) (by kernel_rfl) (by kernel_rfl)) ?_
  intro W base args ds gs before hval0 hW _ _
  have hval : ∀ (j : Nat) t v, Try.f9.params[j]? = some t → args[j]? = some v → Value.okWide Try.prog W .any base t v := hval0
  have hW' := hW
  obtain ⟨p, q, hA0, hV, rfl, _, _⟩ := hW
  have hA : DataW.TrodAll enc Try.prog W 0 (fun _ => true) true Try.f9.params.toList args.toList ds p := hA0
  rw [Try.params9] at hA hval
  obtain ⟨v0, d0, rfl, rfl, h0⟩ := trodAll_one hA
  obtain ⟨rfl, rfl⟩ := trodVars_none hV
  clear hA0 hval0
  simp only [List.append_nil] at hW'
  have hlt : ∀ x ∈ p, x.block < W.heap.size := fun x hx => by simpa using hW'.lt x hx
  have r0 := open_bytes (hval 0 22 v0 rfl rfl) h0 hlt
  obtain ⟨⟨bA, bn, bc⟩, rfl, rb, rn, rc⟩ := r0
  simp only at rb rn rc
  refine (walk bA bn bc W rb rn rc).mono fun e W' hg => ?_
  obtain ⟨he, hb⟩ := hg
  subst he
  exact ⟨_, rfl, _, _, _, [], p, [], hW', trodAll_mk1 (shut_bool Try.underlying4 _), trodAll_mk1 (kept_arg (by kernel_rfl) (of_decide_eq_true (by kernel_rfl)) h0 hb hlt), rfl, hb.frame _, fun h => by cases h⟩

theorem holds : Rows.FnBorderOfSaid :=
  OpenClaim.holds_of_wide 9 Try.f9 rfl rfl rfl rfl rfl rfl rfl ⟨rfl, rfl, rfl, rfl, rfl⟩ rfl rfl rfl rfl rfl (by kernel_rfl) Try.func9 (by kernel_rfl)
    (of_decide_eq_true (by kernel_rfl)) (by unfold Func.isWrapper; first | (rw [if_pos (by decide +kernel)]; kernel_rfl) | (rw [if_neg (by decide +kernel)]; exact ⟨rfl, rfl⟩))
    (fun os started H enc _ => lifted os started H enc)
end Go.Proofs.Ytfofmfkdkihhbac.fnBorderOf
