/-
  Proved: the law of FoundIn (FnFoundIn) returns true for every code, and the code reads afterwards as it read before. No conditions.
-/
import Derived.Test.YtfofmfkdkihhbacDrawsP
import Derived.Test.YtfofmfkdkihhbacFoundS
import Derived.Test.YtfofmfkdkihhbacPattI
import Derived.Test.YtfofmfkdkihhbacShrunkI
import Derived.Test.YtfofmfkdkihhbacUnion
import Derived.Test.YtfofmfkdkihhbacOpen
namespace Go.Proofs.Ytfofmfkdkihhbac.fnFoundIn
open Go.ChangeShapes Go.WideShapes Go.ChangeAt Go.RowKit

theorem impl_lit {b : Bool} {r ps t u : List Sp} {v vt vu : Value} {w : World} (hk : foundOk ps t u = b) (hr : foundR ps t u = r) (hp : Reads w w.heap.size v ps) (h : Reads w w.heap.size vt t) (k : Reads w w.heap.size vu u) : Calls Try.prog 12 #[v, .agg #[vt, vu]] w (Gives2' r b w) := by
  subst hk hr; exact implFound_any ps t u v vt vu w hp h k
theorem spec_lit {b : Bool} {r ps t u : List Sp} {v vt vu : Value} {w : World} (hk : foundOk ps t u = b) (hr : foundR ps t u = r) (hp : Reads w w.heap.size v ps) (h : Reads w w.heap.size vt t) (k : Reads w w.heap.size vu u) (hlt : t.length ≤ 1100000) (hlu : u.length ≤ 1100000) : Calls Try.prog 13 #[v, .agg #[vt, vu]] w (Gives2' r b w) := by
  subst hk hr; exact specFound_any ps t u v vt vu w hp h k hlt hlu
theorem shrunk_lit {b : Bool} {r p q : List Sp} {v u : Value} {w : World} (hk : shrinkOk p q = b) (hr : shrinkR p q = r) (h : Reads w w.heap.size v p) (k : Reads w w.heap.size u q) : Calls Try.prog 16 #[v, u] w (Gives2' r b w) := by
  subst hk hr; exact implShrunk_any p q v u w h k
theorem move_lit {b : Bool} {r p : List Sp} {x y : Int} {v : Value} {w : World} (hk : moveOk p (x, y) = b) (hr : moveL p (x, y) = r) (h : Reads w w.heap.size v p) : Calls Try.prog 17 #[v, .agg #[.int .i64 x, .int .i64 y]] w (Gives2' r b w) := by
  subst hk hr; exact implMoved_any p v x y w h
theorem within_sub {a b : List Sp} (ha : picB a = true) (hb : picB b = true) (h : Sub a b) : withinB a b = true := by
  rw [within_yes (bothB_y ha hb)]
  have : common a b = a := by unfold common; exact List.filter_eq_self.2 fun x hx => decide_eq_true (h x hx)
  rw [this]; exact decide_eq_true rfl
structure Can (p t s la : List Sp) : Prop where
  ws : withinB s la = true
  ok : shrinkOk p t = true
  eq : shrinkR p t = la
theorem facts {p t u : List Sp} (h : foundOk p t u = true) : picB (foundR p t u) = true ∧ (foundOk p t [] = true → Can p t (foundR p t u) (foundR p t [])) ∧
    (moveOk p (1, 0) = true → foundOk (moveL p (1, 0)) t u = true → moveOk (foundR p t u) (1, 0) = true → foundR (moveL p (1, 0)) t u = moveL (foundR p t u) (1, 0)) := by
  have F := found_is h
  have ht := (patB_iff.1 F.pm).t0
  have hs := (picB_pic F.pp).2.2
  refine ⟨by rw [F.eq]; exact F.pf, fun hc => ?_, fun h1 h2 h3 => ?_⟩
  · have G := found_is hc
    have e := foundL_there hs ht
    have hk := shrink_yes F.pp (patB_iff.1 F.pm).pt ht (by rw [← e]; exact G.pf)
    rw [F.eq, G.eq]
    exact ⟨within_sub F.pf G.pf (foundL_sub ht), hk.1, by rw [hk.2, e]⟩
  · rw [(found_is h2).eq, F.eq]
    rw [F.eq] at h3
    have e1 : moveL p (1, 0) = moved p (1, 0) := by unfold moveL; rw [h1, if_pos rfl]
    have e2 : moveL (foundL p t u) (1, 0) = moved (foundL p t u) (1, 0) := by unfold moveL; rw [h3, if_pos rfl]
    rw [e1, e2]
    exact foundL_moved hs ht (1, 0)
set_option maxRecDepth 100000 in
set_option maxHeartbeats 3200000 in
theorem walk (A : Option Addr) (n c : Nat) (w : World) (hb : Bytes w w.heap.size A n) (hn : n ≤ c) (hc : c ≤ 9223372036854775807) :
    Calls Try.prog 3 #[.slice A n c] w (Gives (.bool true) w) := by
  by_cases hbig : 1048576 < n
  · go_enter Try.func3, Try.ntmps3
    go_wp2
    go_ret
    exact ⟨rfl, Below.refl _ _⟩
  · go_enter Try.func3, Try.ntmps3
    go_wp2_with fail
    refine (drawFoundIn_any A n c _ hb hn hc).mono ?_
    rintro e w1 ⟨v, p, vt, vu, t, u, rfl, op, _, hlp, D⟩
    have bb := D.below
    have ot := D.ot
    have ou := D.ou
    have hlt := D.lt
    have hlu := D.lu
    obtain ⟨Ap, cp, rfl, _, _⟩ := op.reads.slice
    obtain ⟨At, ct, rfl, _, _⟩ := ot.reads.slice
    obtain ⟨Au, cu, rfl, _, _⟩ := ou.reads.slice
    clear D hb hn hc
    obtain ⟨W, hW⟩ : ∃ W, W = w1.alloc (.cells #[.slice At t.length ct, .slice Au u.length cu] 25) := ⟨_, rfl⟩
    have q0 : W.cell? ⟨w1.heap.size, 0, none⟩ = some (.slice At t.length ct) := by rw [hW]; simp [go_sem]
    have q1 : W.cell? ⟨w1.heap.size, 1, none⟩ = some (.slice Au u.length cu) := by rw [hW]; simp [go_sem]
    have s0 : w1.heap.size < W.heap.size := by rw [hW]; simp
    have bn : Below w1.heap.size w1 W := by rw [hW]; exact box_below _ _ _
    have bb := below_step bb bn
    have op := op.below bn
    have ot := ot.below bn
    have ou := ou.below bn
    clear bn
    rcases hk : foundOk p t u with _ | _
    · have HR := Lib.hid (found_no hk)
      go_wp2_with (first | (rw [← hW]; clear hW) | fail)
      refine (impl_lit hk HR.out op.reads ot.reads ou.reads).mono ?_
      rintro e w2 ⟨vs, rfl, os, bn⟩
      have bb := below_step bb bn
      have op := op.below bn
      have ot := ot.below bn
      have ou := ou.below bn
      have q0 := (bn.cell (p := ⟨w1.heap.size, 0, none⟩) s0).trans q0
      have q1 := (bn.cell (p := ⟨w1.heap.size, 1, none⟩) s0).trans q1
      have s0 := Nat.lt_of_lt_of_le s0 bn.size
      go_wp2_with fail
      refine (spec_lit hk HR.out op.reads ot.reads ou.reads (by omega) (by omega)).mono ?_
      rintro e w3 ⟨vx, rfl, ox, bn⟩
      have bb := below_step bb bn
      have op := op.below bn
      have ot := ot.below bn
      have ou := ou.below bn
      have q0 := (bn.cell (p := ⟨w1.heap.size, 0, none⟩) s0).trans q0
      have q1 := (bn.cell (p := ⟨w1.heap.size, 1, none⟩) s0).trans q1
      have s0 := Nat.lt_of_lt_of_le s0 bn.size
      have os := os.below bn
      clear hk
      go_wp2_with fail
      refine (gives_is (show decide (([] : List Sp) = []) = true by simp) (sameSpots_any _ _ _ _ _ os.reads ox.reads)).mono ?_
      rintro e w4 ⟨rfl, bn⟩
      have bb := below_step bb bn
      have os := os.below bn
      obtain ⟨As, cs, rfl, _, _⟩ := os.reads.slice
      go_wp2_with fail
      refine (alive_any _).mono ?_
      rintro e w5 ⟨rfl, bn⟩
      go_wp2
      go_ret
      exact ⟨rfl, below_step bb bn⟩
    · obtain ⟨hps, F1, F2⟩ := facts hk
      have hls := (picB_pic hps).1
      obtain ⟨s, hr⟩ : ∃ s, foundR p t u = s := ⟨_, rfl⟩
      rw [hr] at hps F1 F2 hls
      obtain ⟨ca, hca⟩ : ∃ b, foundOk p t [] = b := ⟨_, rfl⟩
      obtain ⟨la, hla⟩ : ∃ b, foundR p t [] = b := ⟨_, rfl⟩
      obtain ⟨sh, hsh⟩ : ∃ b, shrinkOk p t = b := ⟨_, rfl⟩
      obtain ⟨ls, hlsr⟩ : ∃ b, shrinkR p t = b := ⟨_, rfl⟩
      obtain ⟨al, hal⟩ : ∃ b, moveOk p (1, 0) = b := ⟨_, rfl⟩
      obtain ⟨q, hq⟩ : ∃ b, moveL p (1, 0) = b := ⟨_, rfl⟩
      obtain ⟨he, hhe⟩ : ∃ b, moveOk s (1, 0) = b := ⟨_, rfl⟩
      obtain ⟨mo, hmo⟩ : ∃ b, moveL s (1, 0) = b := ⟨_, rfl⟩
      rw [hq, hmo] at F2
      obtain ⟨fo, hfo⟩ : ∃ b, foundOk q t u = b := ⟨_, rfl⟩
      obtain ⟨r, hrr⟩ : ∃ b, foundR q t u = b := ⟨_, rfl⟩
      rw [hca, hla] at F1
      rw [hal, hfo, hhe, hrr] at F2
      have HF1 := Lib.hid F1
      have HF2 := Lib.hid F2
      have HR := Lib.hid hr
      have H1 := Lib.hid (And.intro hca hla)
      have H2 := Lib.hid (And.intro hsh hlsr)
      have H3 := Lib.hid (And.intro hal hq)
      have H4 := Lib.hid (And.intro hfo hrr)
      have H5 := Lib.hid (And.intro hhe hmo)
      clear F1 F2 hr hca hla hsh hlsr hal hq hfo hrr hhe hmo hps
      go_wp2_with (first | (rw [← hW]; clear hW) | fail)
      refine (impl_lit hk HR.out op.reads ot.reads ou.reads).mono ?_
      rintro e w2 ⟨vs, rfl, os, bn⟩
      have bb := below_step bb bn
      have op := op.below bn
      have ot := ot.below bn
      have ou := ou.below bn
      have q0 := (bn.cell (p := ⟨w1.heap.size, 0, none⟩) s0).trans q0
      have q1 := (bn.cell (p := ⟨w1.heap.size, 1, none⟩) s0).trans q1
      have s0 := Nat.lt_of_lt_of_le s0 bn.size
      go_wp2_with fail
      refine (spec_lit hk HR.out op.reads ot.reads ou.reads (by omega) (by omega)).mono ?_
      rintro e w3 ⟨vx, rfl, ox, bn⟩
      have bb := below_step bb bn
      have op := op.below bn
      have ot := ot.below bn
      have ou := ou.below bn
      have q0 := (bn.cell (p := ⟨w1.heap.size, 0, none⟩) s0).trans q0
      have q1 := (bn.cell (p := ⟨w1.heap.size, 1, none⟩) s0).trans q1
      have s0 := Nat.lt_of_lt_of_le s0 bn.size
      have os := os.below bn
      clear hk
      go_wp2_with fail
      refine (gives_is (show decide (s = s) = true by simp) (sameSpots_any _ _ _ _ _ os.reads ox.reads)).mono ?_
      rintro e w4 ⟨rfl, bn⟩
      have bb := below_step bb bn
      have op := op.below bn
      have ot := ot.below bn
      have ou := ou.below bn
      have q0 := (bn.cell (p := ⟨w1.heap.size, 0, none⟩) s0).trans q0
      have q1 := (bn.cell (p := ⟨w1.heap.size, 1, none⟩) s0).trans q1
      have s0 := Nat.lt_of_lt_of_le s0 bn.size
      have os := os.below bn
      clear ox
      obtain ⟨As, cs, rfl, _, _⟩ := os.reads.slice
      go_wp2_with fail
      refine (impl_lit H1.out.1 H1.out.2 op.reads ot.reads (Reads.nil _ _)).mono ?_
      rintro e w5 ⟨va, rfl, oa, bn⟩
      have bb := below_step bb bn
      have op := op.below bn
      have ot := ot.below bn
      have ou := ou.below bn
      have q0 := (bn.cell (p := ⟨w1.heap.size, 0, none⟩) s0).trans q0
      have q1 := (bn.cell (p := ⟨w1.heap.size, 1, none⟩) s0).trans q1
      have s0 := Nat.lt_of_lt_of_le s0 bn.size
      have os := os.below bn
      go_wp2_with fail
      refine (shrunk_lit H2.out.1 H2.out.2 op.reads ot.reads).mono ?_
      rintro e w6 ⟨vl, rfl, ol, bn⟩
      have bb := below_step bb bn
      have op := op.below bn
      have ot := ot.below bn
      have ou := ou.below bn
      have q0 := (bn.cell (p := ⟨w1.heap.size, 0, none⟩) s0).trans q0
      have q1 := (bn.cell (p := ⟨w1.heap.size, 1, none⟩) s0).trans q1
      have s0 := Nat.lt_of_lt_of_le s0 bn.size
      have os := os.below bn
      have oa := oa.below bn
      go_wp2_with fail
      refine (move_lit H3.out.1 H3.out.2 op.reads).mono ?_
      rintro e w7 ⟨vq, rfl, oq, bn⟩
      have bb := below_step bb bn
      have op := op.below bn
      have ot := ot.below bn
      have ou := ou.below bn
      have q0 := (bn.cell (p := ⟨w1.heap.size, 0, none⟩) s0).trans q0
      have q1 := (bn.cell (p := ⟨w1.heap.size, 1, none⟩) s0).trans q1
      have s0 := Nat.lt_of_lt_of_le s0 bn.size
      have os := os.below bn
      have oa := oa.below bn
      have ol := ol.below bn
      go_wp2_with fail
      refine (impl_lit H4.out.1 H4.out.2 oq.reads ot.reads ou.reads).mono ?_
      rintro e w8 ⟨vr, rfl, ore, bn⟩
      have bb := below_step bb bn
      have os := os.below bn
      have oa := oa.below bn
      have ol := ol.below bn
      clear q0 q1
      go_wp2_with fail
      refine (move_lit H5.out.1 H5.out.2 os.reads).mono ?_
      rintro e w9 ⟨vm, rfl, om, bn⟩
      have bb := below_step bb bn
      have os := os.below bn
      have oa := oa.below bn
      have ol := ol.below bn
      have ore := ore.below bn
      clear op ot ou oq
      rcases ca with _ | _
      · rcases al with _ | _
        · go_wp2_with fail
          refine (alive_any _).mono ?_
          rintro e w12 ⟨rfl, bn⟩
          go_wp2
          go_ret
          exact ⟨rfl, below_step bb bn⟩
        rcases fo with _ | _
        · go_wp2_with fail
          refine (alive_any _).mono ?_
          rintro e w12 ⟨rfl, bn⟩
          go_wp2
          go_ret
          exact ⟨rfl, below_step bb bn⟩
        rcases he with _ | _
        · go_wp2_with fail
          refine (alive_any _).mono ?_
          rintro e w12 ⟨rfl, bn⟩
          go_wp2
          go_ret
          exact ⟨rfl, below_step bb bn⟩
        · go_wp2_with fail
          refine (gives_is (show decide (r = mo) = true from decide_eq_true (by have h := HF2.out; simpa using h)) (sameSpots_any _ _ _ _ _ ore.reads om.reads)).mono ?_
          rintro e w12 ⟨rfl, bn⟩
          have bb := below_step bb bn
          go_wp2_with fail
          refine (alive_any _).mono ?_
          rintro e w13 ⟨rfl, bn⟩
          go_wp2
          go_ret
          exact ⟨rfl, below_step bb bn⟩
      · have C := HF1.out rfl
        have HC := Lib.hid C.ws
        have hshT : sh = true := H2.out.1.symm.trans C.ok
        have HE := Lib.hid (H2.out.2.symm.trans C.eq)
        clear C
        subst hshT
        go_wp2_with fail
        refine (gives_is HC.out (implWithin_any _ _ _ _ _ os.reads oa.reads)).mono ?_
        rintro e w10 ⟨rfl, bn⟩
        have bb := below_step bb bn
        have oa := oa.below bn
        have ol := ol.below bn
        have ore := ore.below bn
        have om := om.below bn
        go_wp2_with fail
        refine (gives_is (show decide (ls = la) = true from decide_eq_true HE.out) (sameSpots_any _ _ _ _ _ ol.reads oa.reads)).mono ?_
        rintro e w11 ⟨rfl, bn⟩
        have bb := below_step bb bn
        have ore := ore.below bn
        have om := om.below bn
        rcases al with _ | _
        · go_wp2_with fail
          refine (alive_any _).mono ?_
          rintro e w12 ⟨rfl, bn⟩
          go_wp2
          go_ret
          exact ⟨rfl, below_step bb bn⟩
        rcases fo with _ | _
        · go_wp2_with fail
          refine (alive_any _).mono ?_
          rintro e w12 ⟨rfl, bn⟩
          go_wp2
          go_ret
          exact ⟨rfl, below_step bb bn⟩
        rcases he with _ | _
        · go_wp2_with fail
          refine (alive_any _).mono ?_
          rintro e w12 ⟨rfl, bn⟩
          go_wp2
          go_ret
          exact ⟨rfl, below_step bb bn⟩
        · go_wp2_with fail
          refine (gives_is (show decide (r = mo) = true from decide_eq_true (by have h := HF2.out; simpa using h)) (sameSpots_any _ _ _ _ _ ore.reads om.reads)).mono ?_
          rintro e w12 ⟨rfl, bn⟩
          have bb := below_step bb bn
          go_wp2_with fail
          refine (alive_any _).mono ?_
          rintro e w13 ⟨rfl, bn⟩
          go_wp2
          go_ret
          exact ⟨rfl, below_step bb bn⟩
set_option maxRecDepth 100000 in
theorem lifted (os : Os) (started : os.Started) (H : Type) (enc : TypeId × Value → H) :
    ReturnsInHanded {} Try.checked os 3 .any (Rows.fnFoundInSpec.pre6 enc Try.prog Try.f3 Rows.fnFoundInRow.domain false) (Rows.fnFoundInSpec.post enc Try.prog Try.f3 false true false false) := by
  refine returnsInHanded_of_change (C := Try.checked) own started (by kernel_rfl) Try.func3
    (ChangeSpec.witness6 (enc := enc) (C := Try.checked) false ⟨#[], #[.slice none 0 0], []⟩ 8 (by kernel_rfl) (by kernel_rfl) (by kernel_rfl) (by kernel_rfl)) ?_
  intro W base args ds gs before hval0 hW _ _
  have hval : ∀ (j : Nat) t v, Try.f3.params[j]? = some t → args[j]? = some v → Value.okWide Try.prog W .any base t v := hval0
  have hW' := hW
  obtain ⟨p, q, hA0, hV, rfl, _, _⟩ := hW
  have hA : DataW.TrodAll enc Try.prog W 0 (fun _ => true) true Try.f3.params.toList args.toList ds p := hA0
  rw [Try.params3] at hA hval
  obtain ⟨v0, d0, rfl, rfl, h0⟩ := trodAll_one hA
  obtain ⟨rfl, rfl⟩ := trodVars_none hV
  clear hA0 hval0
  simp only [List.append_nil] at hW'
  have hlt : ∀ x ∈ p, x.block < W.heap.size := fun x hx => by simpa using hW'.lt x hx
  have r0 := open_bytes (hval 0 22 v0 rfl rfl) h0 hlt
  obtain ⟨⟨bA, bn, bc⟩, rfl, rb, rn, rc⟩ := r0
  simp only at rb rn rc
  refine (walk bA bn bc W rb rn rc).mono fun e W' hg => ?_
  obtain ⟨he, hb⟩ := hg
  subst he
  exact ⟨_, rfl, _, _, _, [], p, [], hW', trodAll_mk1 (shut_bool Try.underlying4 _), trodAll_mk1 (kept_arg (by kernel_rfl) (of_decide_eq_true (by kernel_rfl)) h0 hb hlt), rfl, hb.frame _, fun h => by cases h⟩

theorem holds : Rows.FnFoundInSaid :=
  OpenClaim.holds_of_wide 3 Try.f3 rfl rfl rfl rfl rfl rfl rfl ⟨rfl, rfl, rfl, rfl, rfl⟩ rfl rfl rfl rfl rfl (by kernel_rfl) Try.func3 (by kernel_rfl)
    (of_decide_eq_true (by kernel_rfl)) (by unfold Func.isWrapper; first | (rw [if_pos (by decide +kernel)]; kernel_rfl) | (rw [if_neg (by decide +kernel)]; exact ⟨rfl, rfl⟩))
    (fun os started H enc _ => lifted os started H enc)
end Go.Proofs.Ytfofmfkdkihhbac.fnFoundIn
