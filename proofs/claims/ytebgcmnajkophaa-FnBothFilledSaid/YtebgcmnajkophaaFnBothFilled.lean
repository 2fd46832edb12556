/-
  Proved: the law of BothFilled (FnBothFilled) returns true for every two codes, and both read afterwards as they read before. No conditions.
-/
import Derived.Test.YtebgcmnajkophaaDraws9
import Derived.Test.YtebgcmnajkophaaFilledQ
import Derived.Test.YtebgcmnajkophaaOpen
namespace Go.Proofs.Ytebgcmnajkophaa.fnBothFilled
open Go.ChangeShapes Go.WideShapes Go.ChangeAt Go.RowKit

theorem union_lit {b : Bool} {p q u : List Sp} {v v' : Value} {w : World} (hb : unionOk p q = b) (hu : unionL p q = u) (h : Reads w w.heap.size v p) (h' : Reads w w.heap.size v' q) : Calls Try.prog 31 #[v, v'] w (Gives2 u b w) := by
  subst hb hu; exact implUnion_any p q v v' w h h'
theorem common_lit {r p q : List Sp} {v u : Value} {w : World} (hk : commonL p q = r) (h : Reads w w.heap.size v p) (h' : Reads w w.heap.size u q) : Calls Try.prog 33 #[v, u] w (Gives1 r w) := by
  subst hk; exact implCommon_any p q v u w h h'
/-- what is asked of a picture with filled rows and columns -/
structure Both9 (p s : List Sp) : Prop where
  rows : rowsOk s = true
  rowsS : rowsR s = s
  cols : colsOk s = true
  colsS : colsR s = s
  win : withinB p s = true
  len : s.length ≤ 60
theorem both9 {p : List Sp} (h : bothOk p = true) : Both9 p (bothR p) := by
  have B := both_is h
  have hs := (picB_pic B.pics).2.2
  obtain ⟨h1, h2⟩ := step_of_full B.pics B.fx B.fy
  have e1 := (rows_full hs).2 B.fx
  have e2 := (cols_full hs).2 B.fy
  have k1 := (step_parts h1).1
  have k2 := (step_parts h1).2
  rw [e1] at k2
  exact ⟨k1, by rw [rowsR_yes k1, e1], k2, by rw [colsR_yes k2, e2], within9 B.pic B.pics B.has, (picB_pic B.pics).1⟩
theorem union_parts {p q : List Sp} (h : unionOk p q = true) : unionL p q = puts p q := by unfold unionL; rw [h]; rfl
/-- it is within that of a union -/
theorem whole9 {p q : List Sp} (h : bothOk p = true) (hu : unionOk p q = true) (hw : bothOk (unionL p q) = true) : withinB (bothR p) (bothR (unionL p q)) = true := by
  have B := both_is h
  have C := both_is hw
  refine within9 B.pics C.pics (B.least _ (fun x hx => C.has x ?_) C.fx C.fy)
  rw [union_parts hu]
  exact mem_puts.2 (.inl hx)
theorem common9 {p q : List Sp} (h : bothOk p = true) (k : bothOk q = true) : filledB (commonL (bothR p) (bothR q)) = true ∧ (commonL (bothR p) (bothR q)).length ≤ 60 := by
  have B := both_is h
  have C := both_is k
  rw [common_yes (bothB_y B.pics C.pics)]
  have hsub : Sub (common (bothR p) (bothR q)) (bothR p) := fun x hx => (mem_common.1 hx).1
  have hso : Sorted (common (bothR p) (bothR q)) := List.Pairwise.filter _ (picB_pic B.pics).2.2
  have hl := length_le_of_sub hso (picB_pic B.pics).2.2 hsub
  have hp : picB (common (bothR p) (bothR q)) = true := decide_eq_true ⟨Nat.le_trans hl (picB_pic B.pics).1, fun a ha => (picB_pic B.pics).2.1 a (hsub a ha), hso⟩
  exact ⟨(filled_iff hp).2 ⟨full_common B.fx C.fx, full_common' B.fy C.fy⟩, (picB_pic hp).1⟩
theorem both_empty : bothOk [] = true ∧ bothR [] = [] :=
  both_full (decide_eq_true pic_nil) ⟨fun _ h => by cases h⟩ ⟨fun _ h => by cases h⟩
theorem bothR_len (ps : List Sp) : (bothR ps).length ≤ 60 := by
  rcases h : bothOk ps with _ | _
  · have : bothR ps = [] := by
      unfold bothOk at h
      unfold bothR
      rcases e : bothV ps with _ | s
      · rfl
      · rw [e] at h; cases h
    rw [this]; simp
  · exact (picB_pic (both_is h).pics).1
theorem union_len (p q : List Sp) : (unionL p q).length ≤ 60 := by
  unfold unionL unionOk
  split
  · rename_i h
    rw [Bool.and_eq_true, decide_eq_true_eq] at h
    exact h.2
  · simp
set_option maxRecDepth 100000 in
set_option maxHeartbeats 3200000 in
theorem walk (A : Option Addr) (n c : Nat) (A' : Option Addr) (n' c' : Nat) (w : World) (hb : Bytes w w.heap.size A n) (hn : n ≤ c) (hc : c ≤ 9223372036854775807)
    (hb' : Bytes w w.heap.size A' n') (hn' : n' ≤ c') (hc' : c' ≤ 9223372036854775807) :
    Calls Try.prog 6 #[.slice A n c, .slice A' n' c'] w (Gives (.bool true) w) := by
  by_cases hbig : 1048576 < n
  · have hd : decide (1048576 < (n : Int)) = true := decide_eq_true (by omega)
    go_enter Try.func6, Try.ntmps6
    go_wp2
    all_goals
      go_ret
      exact ⟨rfl, Below.refl _ _⟩
  have hd : decide (1048576 < (n : Int)) = false := decide_eq_false (by omega)
  by_cases hbig' : 1048576 < n'
  · have hd' : decide (1048576 < (n' : Int)) = true := decide_eq_true (by omega)
    go_enter Try.func6, Try.ntmps6
    go_wp2
    all_goals
      go_ret
      exact ⟨rfl, Below.refl _ _⟩
  have hd' : decide (1048576 < (n' : Int)) = false := decide_eq_false (by omega)
  go_enter Try.func6, Try.ntmps6
  go_wp2_with fail
  refine (drawBothFilled_any A n c _ hb hn hc).mono ?_
  rintro e w1 ⟨v, ps, rfl, op, hpl, bb⟩
  obtain ⟨Ap, cp, rfl, _, _⟩ := op.reads.slice
  have hb' := (hb'.below bb).more bb.size
  clear hb hn hc
  obtain ⟨s, hs⟩ : ∃ s, bothR ps = s := ⟨_, rfl⟩
  rcases hk : bothOk ps with _ | _
  all_goals
    have HS := Lib.hid (And.intro hk hs)
    clear hk hs
    go_wp2_with fail
    refine (bothI_lit HS.out.1 HS.out.2 (by omega) op.reads).mono ?_
    rintro e w2 ⟨v2, rfl, os, bn⟩
    have bb := below_step bb bn
    have op := op.below bn
    have hb' := (hb'.below bn).more bn.size
    obtain ⟨A2, c2, rfl, hc2, hm2⟩ := os.reads.slice
    unfold maxLen at hm2
    go_wp2_with fail
    refine (bothS_lit HS.out.1 HS.out.2 (by omega) op.reads).mono ?_
    rintro e w3 ⟨v3, rfl, o3, bn⟩
    have bb := below_step bb bn
    have op := op.below bn
    have os := os.below bn
    have hb' := (hb'.below bn).more bn.size
    go_wp2_with fail
    refine (same_lit os.reads o3.reads).mono ?_
    rintro e w4 ⟨rfl, bn⟩
    have bb := below_step bb bn
    have op := op.below bn
    have os := os.below bn
    have hb' := (hb'.below bn).more bn.size
    clear o3 bn
  · have hnil : s = [] := by
      rw [← HS.out.2]
      have h := HS.out.1
      unfold bothOk at h
      unfold bothR
      rcases e : bothV ps with _ | s
      · rfl
      · rw [e] at h; cases h
    have h0 : ((s.length : Int) == 0) = true := by rw [hnil]; rfl
    clear hnil
    go_wp2_with fail
    refine (alive_any _).mono ?_
    rintro e y9 ⟨rfl, bn⟩
    go_wp2
    go_ret
    exact ⟨rfl, below_step bb bn⟩
  · have B9 := both9 HS.out.1
    rw [HS.out.2] at B9
    have HB := Lib.hid B9
    clear B9
    go_wp2_with fail
    refine (rowsI_lit HB.out.rows HB.out.rowsS os.reads).mono ?_
    rintro e w5 ⟨vr, rfl, orr, bn⟩
    have bb := below_step bb bn
    have op := op.below bn
    have os := os.below bn
    have hb' := (hb'.below bn).more bn.size
    obtain ⟨Ar, cr, rfl, _, _⟩ := orr.reads.slice
    go_wp2_with fail
    refine (colsI_lit HB.out.cols HB.out.colsS os.reads).mono ?_
    rintro e w6 ⟨vc, rfl, oc, bn⟩
    have bb := below_step bb bn
    have op := op.below bn
    have os := os.below bn
    have orr := orr.below bn
    have hb' := (hb'.below bn).more bn.size
    obtain ⟨Ac, cc, rfl, _, _⟩ := oc.reads.slice
    go_wp2_with fail
    refine (drawOverOf_any A' n' c' _ hb' hn' hc').mono ?_
    rintro e w7 ⟨vq, qs, rfl, oq, hql, bn⟩
    have bb := below_step bb bn
    have op := op.below bn
    have os := os.below bn
    have orr := orr.below bn
    have oc := oc.below bn
    clear hb' hn' hc'
    obtain ⟨Aq, cq, rfl, _, _⟩ := oq.reads.slice
    obtain ⟨three, h3⟩ : ∃ b, unionOk ps qs = b := ⟨_, rfl⟩
    obtain ⟨u, hu⟩ : ∃ b, unionL ps qs = b := ⟨_, rfl⟩
    obtain ⟨four, h4⟩ : ∃ b, bothOk u = b := ⟨_, rfl⟩
    obtain ⟨wh, hwh⟩ : ∃ b, bothR u = b := ⟨_, rfl⟩
    obtain ⟨five, h5⟩ : ∃ b, bothOk qs = b := ⟨_, rfl⟩
    obtain ⟨ot, hot⟩ : ∃ b, bothR qs = b := ⟨_, rfl⟩
    have hul : u.length ≤ 60 := by rw [← hu]; exact union_len ps qs
    have H3 := Lib.hid h3
    have HU := Lib.hid hu
    have H4 := Lib.hid h4
    have HWH := Lib.hid hwh
    have H5 := Lib.hid h5
    have HOT := Lib.hid hot
    clear h3 hu h4 hwh h5 hot
    go_wp2_with fail
    refine (union_lit H3.out HU.out op.reads oq.reads).mono ?_
    rintro e w8 ⟨vu, rfl, ou, bn⟩
    have bb := below_step bb bn
    have op := op.below bn
    have os := os.below bn
    have orr := orr.below bn
    have oc := oc.below bn
    have oq := oq.below bn
    obtain ⟨Au, cu, rfl, _, _⟩ := ou.reads.slice
    go_wp2_with fail
    refine (bothI_lit H4.out HWH.out (by omega) ou.reads).mono ?_
    rintro e w9 ⟨vw, rfl, ow, bn⟩
    have bb := below_step bb bn
    have op := op.below bn
    have os := os.below bn
    have orr := orr.below bn
    have oc := oc.below bn
    have oq := oq.below bn
    obtain ⟨Aw, cw, rfl, _, _⟩ := ow.reads.slice
    go_wp2_with fail
    refine (bothI_lit H5.out HOT.out (by omega) oq.reads).mono ?_
    rintro e w10 ⟨vo, rfl, oo, bn⟩
    have bb := below_step bb bn
    have op := op.below bn
    have os := os.below bn
    have orr := orr.below bn
    have oc := oc.below bn
    have ow := ow.below bn
    clear oq ou
    obtain ⟨Ao, co, rfl, _, _⟩ := oo.reads.slice
    go_wp2_with fail
    refine (within_lit9 HB.out.win op.reads os.reads).mono ?_
    rintro e w11 ⟨rfl, bn⟩
    have bb := below_step bb bn
    have op := op.below bn
    have os := os.below bn
    have orr := orr.below bn
    have oc := oc.below bn
    have ow := ow.below bn
    have oo := oo.below bn
    go_wp2_with fail
    refine (same_lit orr.reads os.reads).mono ?_
    rintro e w12 ⟨rfl, bn⟩
    have bb := below_step bb bn
    have op := op.below bn
    have os := os.below bn
    have oc := oc.below bn
    have ow := ow.below bn
    have oo := oo.below bn
    clear orr
    go_wp2_with fail
    refine (same_lit oc.reads os.reads).mono ?_
    rintro e w13 ⟨rfl, bn⟩
    have bb := below_step bb bn
    have op := op.below bn
    have os := os.below bn
    have ow := ow.below bn
    have oo := oo.below bn
    clear oc bn
    rcases three with _ | _
    · rcases five with _ | _
      · go_wp2_with fail
        refine (alive_any _).mono ?_
        rintro e y9 ⟨rfl, bn⟩
        go_wp2
        go_ret
        exact ⟨rfl, below_step bb bn⟩
      · have HC := common9 HS.out.1 H5.out
        rw [HS.out.2, HOT.out] at HC
        have HC := Lib.hid HC
        go_wp2_with fail
        refine (common_lit rfl os.reads oo.reads).mono ?_
        rintro e y1 ⟨z1, rfl, oz, bn⟩
        have bb := below_step bb bn
        go_wp2_with fail
        refine (fullI_lit HC.out.1 (by have := HC.out.2; omega) oz.reads).mono ?_
        rintro e y2 ⟨rfl, bn⟩
        have bb := below_step bb bn
        go_wp2_with fail
        refine (alive_any _).mono ?_
        rintro e y9 ⟨rfl, bn⟩
        go_wp2
        go_ret
        exact ⟨rfl, below_step bb bn⟩
    · rcases four with _ | _
      · rcases five with _ | _
        · go_wp2_with fail
          refine (alive_any _).mono ?_
          rintro e y9 ⟨rfl, bn⟩
          go_wp2
          go_ret
          exact ⟨rfl, below_step bb bn⟩
        · have HC := common9 HS.out.1 H5.out
          rw [HS.out.2, HOT.out] at HC
          have HC := Lib.hid HC
          go_wp2_with fail
          refine (common_lit rfl os.reads oo.reads).mono ?_
          rintro e y1 ⟨z1, rfl, oz, bn⟩
          have bb := below_step bb bn
          go_wp2_with fail
          refine (fullI_lit HC.out.1 (by have := HC.out.2; omega) oz.reads).mono ?_
          rintro e y2 ⟨rfl, bn⟩
          have bb := below_step bb bn
          go_wp2_with fail
          refine (alive_any _).mono ?_
          rintro e y9 ⟨rfl, bn⟩
          go_wp2
          go_ret
          exact ⟨rfl, below_step bb bn⟩
      · have HW := whole9 HS.out.1 H3.out (by rw [HU.out]; exact H4.out)
        rw [HS.out.2, HU.out, HWH.out] at HW
        have HW := Lib.hid HW
        go_wp2_with fail
        refine (within_lit9 HW.out os.reads ow.reads).mono ?_
        rintro e w14 ⟨rfl, bn⟩
        have bb := below_step bb bn
        have op := op.below bn
        have os := os.below bn
        have oo := oo.below bn
        clear ow
        rcases five with _ | _
        · go_wp2_with fail
          refine (alive_any _).mono ?_
          rintro e y9 ⟨rfl, bn⟩
          go_wp2
          go_ret
          exact ⟨rfl, below_step bb bn⟩
        · have HC := common9 HS.out.1 H5.out
          rw [HS.out.2, HOT.out] at HC
          have HC := Lib.hid HC
          go_wp2_with fail
          refine (common_lit rfl os.reads oo.reads).mono ?_
          rintro e y1 ⟨z1, rfl, oz, bn⟩
          have bb := below_step bb bn
          go_wp2_with fail
          refine (fullI_lit HC.out.1 (by have := HC.out.2; omega) oz.reads).mono ?_
          rintro e y2 ⟨rfl, bn⟩
          have bb := below_step bb bn
          go_wp2_with fail
          refine (alive_any _).mono ?_
          rintro e y9 ⟨rfl, bn⟩
          go_wp2
          go_ret
          exact ⟨rfl, below_step bb bn⟩

set_option maxRecDepth 100000 in
theorem lifted (os : Os) (started : os.Started) (H : Type) (enc : TypeId × Value → H) :
    ReturnsInHanded {} Try.checked os 6 .any (Rows.fnBothFilledSpec.pre6 enc Try.prog Try.f6 Rows.fnBothFilledRow.domain false) (Rows.fnBothFilledSpec.post enc Try.prog Try.f6 false true false false) := by
  refine returnsInHanded_of_change (C := Try.checked) own started (by kernel_rfl) Try.func6
    (ChangeSpec.witness6 (enc := enc) (C := Try.checked) false ⟨#[], #[.slice none 0 0, .slice none 0 0], []⟩ 8 (by kernel_rfl) (by kernel_rfl) (by kernel_rfl) (by kernel_rfl)) ?_
  intro W base args ds gs before hval0 hW _ _
  have hval : ∀ (j : Nat) t v, Try.f6.params[j]? = some t → args[j]? = some v → Value.okWide Try.prog W .any base t v := hval0
  have hW' := hW
  obtain ⟨p, q, hA0, hV, rfl, _, _⟩ := hW
  have hA : DataW.TrodAll enc Try.prog W 0 (fun _ => true) true Try.f6.params.toList args.toList ds p := hA0
  rw [Try.params6] at hA hval
  obtain ⟨v0, v1, d0, d1, p0, p1, rfl, rfl, rfl, h0, h1⟩ := trodAll_two hA
  obtain ⟨rfl, rfl⟩ := trodVars_none hV
  clear hA0 hval0
  simp only [List.append_nil] at hW'
  have hlt : ∀ x ∈ p0 ++ p1, x.block < W.heap.size := fun x hx => by simpa using hW'.lt x hx
  have hlt0 : ∀ x ∈ p0, x.block < W.heap.size := fun x hx => hlt x (List.mem_append_left _ hx)
  have hlt1 : ∀ x ∈ p1, x.block < W.heap.size := fun x hx => hlt x (List.mem_append_right _ hx)
  have r0 := open_bytes (hval 0 22 v0 rfl rfl) h0 hlt0
  obtain ⟨⟨bA, bn, bc⟩, rfl, rb, rn, rc⟩ := r0
  simp only at rb rn rc
  have r1 := open_bytes (hval 1 22 v1 rfl rfl) h1 hlt1
  obtain ⟨⟨bA1, bn1, bc1⟩, rfl, rb1, rn1, rc1⟩ := r1
  simp only at rb1 rn1 rc1
  refine (walk bA bn bc bA1 bn1 bc1 W rb rn rc rb1 rn1 rc1).mono fun e W' hg => ?_
  obtain ⟨he, hb⟩ := hg
  subst he
  exact ⟨_, rfl, _, _, _, [], p0 ++ p1, [], hW', trodAll_mk1 (shut_bool Try.underlying4 _), trodAll_mk2 (kept_arg (by kernel_rfl) (of_decide_eq_true (by kernel_rfl)) h0 hb hlt0) (kept_arg (by kernel_rfl) (of_decide_eq_true (by kernel_rfl)) h1 hb hlt1), rfl, hb.frame _, fun h => by cases h⟩

theorem holds : Rows.FnBothFilledSaid :=
  OpenClaim.holds_of_wide 6 Try.f6 rfl rfl rfl rfl rfl rfl rfl ⟨rfl, rfl, rfl, rfl, rfl⟩ rfl rfl rfl rfl rfl (by kernel_rfl) Try.func6 (by kernel_rfl)
    (of_decide_eq_true (by kernel_rfl)) (by unfold Func.isWrapper; first | (rw [if_pos (by decide +kernel)]; kernel_rfl) | (rw [if_neg (by decide +kernel)]; exact ⟨rfl, rfl⟩))
    (fun os started H enc _ => lifted os started H enc)
end Go.Proofs.Ytebgcmnajkophaa.fnBothFilled
