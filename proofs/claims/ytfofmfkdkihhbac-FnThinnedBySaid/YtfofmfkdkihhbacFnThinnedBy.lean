/-
  Proved: the law of ThinnedBy (FnThinnedBy) returns true for every code, and the code reads afterwards as it read before. No conditions.
-/
import Derived.Test.YtfofmfkdkihhbacDrawsP
import Derived.Test.YtfofmfkdkihhbacPattT
import Derived.Test.YtfofmfkdkihhbacPattI
import Derived.Test.YtfofmfkdkihhbacUnion
import Derived.Test.YtfofmfkdkihhbacOpen
namespace Go.Proofs.Ytfofmfkdkihhbac.fnThinnedBy
open Go.ChangeShapes Go.WideShapes Go.ChangeAt Go.RowKit

theorem impl_lit {b : Bool} {r ps t u : List Sp} {v vt vu : Value} {w : World} (hk : thinOk ps t u = b) (hr : thinR ps t u = r) (hp : Reads w w.heap.size v ps) (h : Reads w w.heap.size vt t) (k : Reads w w.heap.size vu u) : Calls Try.prog 29 #[v, .agg #[vt, vu]] w (Gives2' r b w) := by
  subst hk hr; exact implThin_any ps t u v vt vu w hp h k
theorem spec_lit {b : Bool} {r ps t u : List Sp} {v vt vu : Value} {w : World} (hk : thinOk ps t u = b) (hr : thinR ps t u = r) (hp : Reads w w.heap.size v ps) (h : Reads w w.heap.size vt t) (k : Reads w w.heap.size vu u) (hlt : t.length ≤ 1100000) (hlu : u.length ≤ 1100000) : Calls Try.prog 30 #[v, .agg #[vt, vu]] w (Gives2' r b w) := by
  subst hk hr; exact specThin_any ps t u v vt vu w hp h k hlt hlu
theorem found_lit {b : Bool} {r ps t u : List Sp} {v vt vu : Value} {w : World} (hk : foundOk ps t u = b) (hr : foundR ps t u = r) (hp : Reads w w.heap.size v ps) (h : Reads w w.heap.size vt t) (k : Reads w w.heap.size vu u) : Calls Try.prog 12 #[v, .agg #[vt, vu]] w (Gives2' r b w) := by
  subst hk hr; exact implFound_any ps t u v vt vu w hp h k
theorem within_sub {a b : List Sp} (ha : picB a = true) (hb : picB b = true) (h : Sub a b) : withinB a b = true := by
  rw [within_yes (bothB_y ha hb)]
  have : common a b = a := by unfold common; exact List.filter_eq_self.2 fun x hx => decide_eq_true (h x hx)
  rw [this]; exact decide_eq_true rfl
structure Facts (p s : List Sp) : Prop where
  ws : withinB s p = true
  ps : picB s = true
structure Facts2 (p s f : List Sp) : Prop where
  ap : commonL s f = []
  cm : (commonL p f).length + s.length = p.length
theorem facts {p t u : List Sp} (h : thinOk p t u = true) : ∃ s, thinR p t u = s ∧ Facts p s ∧ (foundOk p t u = true → ∃ f, foundR p t u = f ∧ Facts2 p s f) := by
  have k := h
  unfold thinOk at k
  rw [Bool.and_eq_true] at k
  have hs : picB (thinL p t u) = true := pic_filter k.1 _
  refine ⟨thinL p t u, thin_yes h, ⟨within_sub hs k.1 (thinL_sub p t u), hs⟩, fun hf => ?_⟩
  have F := found_is hf
  have ht := (patB_iff.1 k.2).t0
  refine ⟨foundL p t u, F.eq, ?_, ?_⟩
  · rw [common_yes (bothB_y hs F.pf), thin_apart ht]
  · rw [common_yes (bothB_y k.1 F.pf)]; exact thin_count ht
set_option maxHeartbeats 1600000 in
theorem walk (A : Option Addr) (n c : Nat) (w : World) (hb : Bytes w w.heap.size A n) (hn : n ≤ c) (hc : c ≤ 9223372036854775807) :
    Calls Try.prog 5 #[.slice A n c] w (Gives (.bool true) w) := by
  by_cases hbig : 1048576 < n
  · go_enter Try.func5, Try.ntmps5
    go_wp2
    go_ret
    exact ⟨rfl, Below.refl _ _⟩
  · go_enter Try.func5, Try.ntmps5
    go_wp2_with fail
    refine (drawThinnedBy_any A n c _ hb hn hc).mono ?_
    rintro e w1 ⟨v, p, vt, vu, t, u, rfl, op, _, hlp, D⟩
    have bb := D.below
    have ot := D.ot
    have ou := D.ou
    have hlt := D.lt
    have hlu := D.lu
    obtain ⟨Ap, cp, rfl, _, _⟩ := op.reads.slice
    obtain ⟨At, ct, rfl, _, _⟩ := ot.reads.slice
    obtain ⟨Au, cu, rfl, _, _⟩ := ou.reads.slice
    clear D hb hn hc
    obtain ⟨W, hW⟩ : ∃ W, W = w1.alloc (.cells #[.slice At t.length ct, .slice Au u.length cu] 25) := ⟨_, rfl⟩
    have q0 : W.cell? ⟨w1.heap.size, 0, none⟩ = some (.slice At t.length ct) := by rw [hW]; simp [go_sem]
    have q1 : W.cell? ⟨w1.heap.size, 1, none⟩ = some (.slice Au u.length cu) := by rw [hW]; simp [go_sem]
    have s0 : w1.heap.size < W.heap.size := by rw [hW]; simp
    have bn : Below w1.heap.size w1 W := by rw [hW]; exact box_below _ _ _
    have bb := below_step bb bn
    have op := op.below bn
    have ot := ot.below bn
    have ou := ou.below bn
    clear bn
    rcases hk : thinOk p t u with _ | _
    · have HR := Lib.hid (thin_no hk)
      go_wp2_with (first | (rw [← hW]; clear hW) | fail)
      refine (impl_lit hk HR.out op.reads ot.reads ou.reads).mono ?_
      rintro e w2 ⟨vs, rfl, os, bn⟩
      have bb := below_step bb bn
      have op := op.below bn
      have ot := ot.below bn
      have ou := ou.below bn
      have q0 := (bn.cell (p := ⟨w1.heap.size, 0, none⟩) s0).trans q0
      have q1 := (bn.cell (p := ⟨w1.heap.size, 1, none⟩) s0).trans q1
      have s0 := Nat.lt_of_lt_of_le s0 bn.size
      go_wp2_with fail
      refine (spec_lit hk HR.out op.reads ot.reads ou.reads (by omega) (by omega)).mono ?_
      rintro e w3 ⟨vx, rfl, ox, bn⟩
      have bb := below_step bb bn
      have op := op.below bn
      have ot := ot.below bn
      have ou := ou.below bn
      have q0 := (bn.cell (p := ⟨w1.heap.size, 0, none⟩) s0).trans q0
      have q1 := (bn.cell (p := ⟨w1.heap.size, 1, none⟩) s0).trans q1
      have s0 := Nat.lt_of_lt_of_le s0 bn.size
      have os := os.below bn
      clear hk
      go_wp2_with fail
      refine (gives_is (show decide (([] : List Sp) = []) = true by simp) (sameSpots_any _ _ _ _ _ os.reads ox.reads)).mono ?_
      rintro e w4 ⟨rfl, bn⟩
      have bb := below_step bb bn
      have os := os.below bn
      obtain ⟨As, cs, rfl, _, _⟩ := os.reads.slice
      go_wp2_with fail
      refine (alive_any _).mono ?_
      rintro e w5 ⟨rfl, bn⟩
      go_wp2
      go_ret
      exact ⟨rfl, below_step bb bn⟩
    · obtain ⟨s, hr, F, F2⟩ := facts hk
      have HF := Lib.hid F
      have HF2 := Lib.hid F2
      have HR := Lib.hid hr
      have hls := (picB_pic F.ps).1
      clear F F2 hr
      go_wp2_with (first | (rw [← hW]; clear hW) | fail)
      refine (impl_lit hk HR.out op.reads ot.reads ou.reads).mono ?_
      rintro e w2 ⟨vs, rfl, os, bn⟩
      have bb := below_step bb bn
      have op := op.below bn
      have ot := ot.below bn
      have ou := ou.below bn
      have q0 := (bn.cell (p := ⟨w1.heap.size, 0, none⟩) s0).trans q0
      have q1 := (bn.cell (p := ⟨w1.heap.size, 1, none⟩) s0).trans q1
      have s0 := Nat.lt_of_lt_of_le s0 bn.size
      go_wp2_with fail
      refine (spec_lit hk HR.out op.reads ot.reads ou.reads (by omega) (by omega)).mono ?_
      rintro e w3 ⟨vx, rfl, ox, bn⟩
      have bb := below_step bb bn
      have op := op.below bn
      have ot := ot.below bn
      have ou := ou.below bn
      have q0 := (bn.cell (p := ⟨w1.heap.size, 0, none⟩) s0).trans q0
      have q1 := (bn.cell (p := ⟨w1.heap.size, 1, none⟩) s0).trans q1
      have s0 := Nat.lt_of_lt_of_le s0 bn.size
      have os := os.below bn
      clear hk
      go_wp2_with fail
      refine (gives_is (show decide (s = s) = true by simp) (sameSpots_any _ _ _ _ _ os.reads ox.reads)).mono ?_
      rintro e w4 ⟨rfl, bn⟩
      have bb := below_step bb bn
      have op := op.below bn
      have ot := ot.below bn
      have ou := ou.below bn
      have q0 := (bn.cell (p := ⟨w1.heap.size, 0, none⟩) s0).trans q0
      have q1 := (bn.cell (p := ⟨w1.heap.size, 1, none⟩) s0).trans q1
      have s0 := Nat.lt_of_lt_of_le s0 bn.size
      have os := os.below bn
      clear ox
      obtain ⟨As, cs, rfl, _, _⟩ := os.reads.slice
      rcases hf : foundOk p t u with _ | _
      · have HN := Lib.hid (found_no hf)
        have HFO := Lib.hid hf
        clear hf
        go_wp2_with fail
        refine (found_lit HFO.out HN.out op.reads ot.reads ou.reads).mono ?_
        rintro e w5 ⟨vf, rfl, of, bn⟩
        have bb := below_step bb bn
        have op := op.below bn
        have ot := ot.below bn
        have ou := ou.below bn
        have q0 := (bn.cell (p := ⟨w1.heap.size, 0, none⟩) s0).trans q0
        have q1 := (bn.cell (p := ⟨w1.heap.size, 1, none⟩) s0).trans q1
        have s0 := Nat.lt_of_lt_of_le s0 bn.size
        have os := os.below bn
        clear of
        go_wp2_with fail
        refine (gives_is HF.out.ws (implWithin_any _ _ _ _ _ os.reads op.reads)).mono ?_
        rintro e w6 ⟨rfl, bn⟩
        have bb := below_step bb bn
        go_wp2_with fail
        refine (alive_any _).mono ?_
        rintro e w7 ⟨rfl, bn⟩
        go_wp2
        go_ret
        exact ⟨rfl, below_step bb bn⟩
      · obtain ⟨f, hfr, G⟩ := HF2.out hf
        have HN := Lib.hid hfr
        have HFO := Lib.hid hf
        have HG := Lib.hid G
        have hcm := G.cm
        have hcl : (commonL p f).length ≤ p.length := by omega
        have e1 : (((commonL p f).length : Int) + (s.length : Int) == (p.length : Int)) = true := by rw [beq_iff_eq]; omega
        have e1n : ((commonL p f).length + s.length == p.length) = true := by rw [beq_iff_eq]; omega
        have e1d : decide ((commonL p f).length + s.length = p.length) = true := decide_eq_true (by omega)
        have e1i : decide (((commonL p f).length : Int) + (s.length : Int) = (p.length : Int)) = true := decide_eq_true (by omega)
        clear hf hfr G hcm
        go_wp2_with fail
        refine (found_lit HFO.out HN.out op.reads ot.reads ou.reads).mono ?_
        rintro e w5 ⟨vf, rfl, of, bn⟩
        have bb := below_step bb bn
        have op := op.below bn
        have ot := ot.below bn
        have ou := ou.below bn
        have q0 := (bn.cell (p := ⟨w1.heap.size, 0, none⟩) s0).trans q0
        have q1 := (bn.cell (p := ⟨w1.heap.size, 1, none⟩) s0).trans q1
        have s0 := Nat.lt_of_lt_of_le s0 bn.size
        have os := os.below bn
        go_wp2_with fail
        refine (gives_is HF.out.ws (implWithin_any _ _ _ _ _ os.reads op.reads)).mono ?_
        rintro e w6 ⟨rfl, bn⟩
        have bb := below_step bb bn
        have op := op.below bn
        have ot := ot.below bn
        have ou := ou.below bn
        have q0 := (bn.cell (p := ⟨w1.heap.size, 0, none⟩) s0).trans q0
        have q1 := (bn.cell (p := ⟨w1.heap.size, 1, none⟩) s0).trans q1
        have s0 := Nat.lt_of_lt_of_le s0 bn.size
        have os := os.below bn
        have of := of.below bn
        go_wp2_with fail
        refine (implCommon_any s f _ _ _ os.reads of.reads).mono ?_
        rintro e w7 ⟨vc, rfl, oc, bn⟩
        rw [HG.out.ap] at oc
        have bb := below_step bb bn
        have op := op.below bn
        have ot := ot.below bn
        have ou := ou.below bn
        have q0 := (bn.cell (p := ⟨w1.heap.size, 0, none⟩) s0).trans q0
        have q1 := (bn.cell (p := ⟨w1.heap.size, 1, none⟩) s0).trans q1
        have s0 := Nat.lt_of_lt_of_le s0 bn.size
        have os := os.below bn
        have of := of.below bn
        obtain ⟨Ac, cc, rfl, _, _⟩ := oc.reads.slice
        go_wp2_with fail
        refine (implCommon_any p f _ _ _ op.reads of.reads).mono ?_
        rintro e w8 ⟨vd, rfl, od, bn⟩
        have bb := below_step bb bn
        obtain ⟨Ad, cd, rfl, _, _⟩ := od.reads.slice
        go_wp2_with fail
        refine (alive_any _).mono ?_
        rintro e w9 ⟨rfl, bn⟩
        go_wp2
        go_ret
        exact ⟨rfl, below_step bb bn⟩
set_option maxRecDepth 100000 in
theorem lifted (os : Os) (started : os.Started) (H : Type) (enc : TypeId × Value → H) :
    ReturnsInHanded {} Try.checked os 5 .any (Rows.fnThinnedBySpec.pre6 enc Try.prog Try.f5 Rows.fnThinnedByRow.domain false) (Rows.fnThinnedBySpec.post enc Try.prog Try.f5 false true false false) := by
  refine returnsInHanded_of_change (C := Try.checked) own started (by kernel_rfl) Try.func5
    (ChangeSpec.witness6 (enc := enc) (C := Try.checked) false ⟨#[], #[.slice none 0 0], []⟩ 8 (by kernel_rfl) (by kernel_rfl) (by kernel_rfl) (by kernel_rfl)) ?_
  intro W base args ds gs before hval0 hW _ _
  have hval : ∀ (j : Nat) t v, Try.f5.params[j]? = some t → args[j]? = some v → Value.okWide Try.prog W .any base t v := hval0
  have hW' := hW
  obtain ⟨p, q, hA0, hV, rfl, _, _⟩ := hW
  have hA : DataW.TrodAll enc Try.prog W 0 (fun _ => true) true Try.f5.params.toList args.toList ds p := hA0
  rw [Try.params5] at hA hval
  obtain ⟨v0, d0, rfl, rfl, h0⟩ := trodAll_one hA
  obtain ⟨rfl, rfl⟩ := trodVars_none hV
  clear hA0 hval0
  simp only [List.append_nil] at hW'
  have hlt : ∀ x ∈ p, x.block < W.heap.size := fun x hx => by simpa using hW'.lt x hx
  have r0 := open_bytes (hval 0 22 v0 rfl rfl) h0 hlt
  obtain ⟨⟨bA, bn, bc⟩, rfl, rb, rn, rc⟩ := r0
  simp only at rb rn rc
  refine (walk bA bn bc W rb rn rc).mono fun e W' hg => ?_
  obtain ⟨he, hb⟩ := hg
  subst he
  exact ⟨_, rfl, _, _, _, [], p, [], hW', trodAll_mk1 (shut_bool Try.underlying4 _), trodAll_mk1 (kept_arg (by kernel_rfl) (of_decide_eq_true (by kernel_rfl)) h0 hb hlt), rfl, hb.frame _, fun h => by cases h⟩

theorem holds : Rows.FnThinnedBySaid :=
  OpenClaim.holds_of_wide 5 Try.f5 rfl rfl rfl rfl rfl rfl rfl ⟨rfl, rfl, rfl, rfl, rfl⟩ rfl rfl rfl rfl rfl (by kernel_rfl) Try.func5 (by kernel_rfl)
    (of_decide_eq_true (by kernel_rfl)) (by unfold Func.isWrapper; first | (rw [if_pos (by decide +kernel)]; kernel_rfl) | (rw [if_neg (by decide +kernel)]; exact ⟨rfl, rfl⟩))
    (fun os started H enc _ => lifted os started H enc)
end Go.Proofs.Ytfofmfkdkihhbac.fnThinnedBy
