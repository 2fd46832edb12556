/- The model's RowsFilled, ColumnsFilled, BothFilled and FilledOk. No conditions but those typed. -/
import Derived.Test.YtebgcmnajkophaaRowsS
namespace Go.Proofs.Ytebgcmnajkophaa
open Go.RowKit Go.Sort

theorem rowsOk_pic {p : List Sp} (h : picB p = false) : rowsOk p = false := by unfold rowsOk; rw [h]; rfl
theorem rowsOk_rows {p : List Sp} (h : picB (rowsL p) = false) : rowsOk p = false := by unfold rowsOk; rw [h, Bool.and_false]
theorem rowsOk_yes {p : List Sp} (h : picB p = true) (k : picB (rowsL p) = true) : rowsOk p = true := by unfold rowsOk; rw [h, k]; rfl
set_option maxRecDepth 100000 in
theorem specRows_any (ps : List Sp) (v : Value) (w : World) (h : Reads w w.heap.size v ps) : Calls Try.prog 22 #[v] w (Gives2' (rowsR ps) (rowsOk ps) w) := by
  rcases hp : picB ps with _ | _
  · have e := rowsOk_pic hp
    rw [rowsR_no e, e]
    go_enter Try.func22, Try.ntmps22
    go_wp2_with fail
    refine (gives_is hp (specPicture_any ps _ _ h)).mono ?_
    rintro e w1 ⟨rfl, b1⟩
    have hle := (b1).size
    go_wp2
    go_ret2
    exact ⟨_, rfl, Owns.empty _ _ hle, (b1).alloc hle _⟩
  rcases hq : picB (rowsL ps) with _ | _
  · have e := rowsOk_rows hq
    rw [rowsR_no e, e]
    go_enter Try.func22, Try.ntmps22
    go_wp2_with fail
    refine (gives_is hp (specPicture_any ps _ _ h)).mono ?_
    rintro e w1 ⟨rfl, b1⟩
    go_wp2_with fail
    refine (l9Rows_any ps _ _ (h.kept b1) hp).mono ?_
    rintro e w2 ⟨v2, rfl, o2, b2⟩
    go_wp2_with fail
    refine (gives_is hq (specPicture_any (rowsL ps) _ _ o2.reads)).mono ?_
    rintro e w3 ⟨rfl, b3⟩
    have bw := below_step (below_step b1 b2) b3
    have hle := (bw).size
    go_wp2
    go_ret2
    exact ⟨_, rfl, Owns.empty _ _ hle, (bw).alloc hle _⟩
  · have e := rowsOk_yes hp hq
    rw [rowsR_yes e, e]
    go_enter Try.func22, Try.ntmps22
    go_wp2_with fail
    refine (gives_is hp (specPicture_any ps _ _ h)).mono ?_
    rintro e w1 ⟨rfl, b1⟩
    go_wp2_with fail
    refine (l9Rows_any ps _ _ (h.kept b1) hp).mono ?_
    rintro e w2 ⟨v2, rfl, o2, b2⟩
    go_wp2_with fail
    refine (gives_is hq (specPicture_any (rowsL ps) _ _ o2.reads)).mono ?_
    rintro e w3 ⟨rfl, b3⟩
    go_wp2
    go_ret2
    exact ⟨_, rfl, (o2.below b3).base b1.size, below_step (below_step b1 b2) b3⟩
theorem colsOk_pic {p : List Sp} (h : picB p = false) : colsOk p = false := by unfold colsOk; rw [h]; rfl
theorem colsOk_yes {p : List Sp} (h : picB p = true) : colsOk p = rowsOk (overL p) := by unfold colsOk; rw [h]; rfl
theorem rows_lit {S : FuncId} {P : Program} {p r : List Sp} {b : Bool} {v : Value} {w : World} (hb : rowsOk p = b) (hr : rowsR p = r) (h : Calls P S #[v] w (Gives2' (rowsR p) (rowsOk p) w)) : Calls P S #[v] w (Gives2' r b w) := by
  subst hb hr; exact h
set_option maxRecDepth 100000 in
theorem specCols_any (ps : List Sp) (v : Value) (w : World) (h : Reads w w.heap.size v ps) : Calls Try.prog 27 #[v] w (Gives2' (colsR ps) (colsOk ps) w) := by
  rcases hp : picB ps with _ | _
  · have e := colsOk_pic hp
    rw [colsR_no e, e]
    have HO := Lib.hid (overR_no hp)
    have n1 : rowsOk [] = true := rowsOk_yes (decide_eq_true pic_nil) (decide_eq_true pic_nil)
    have n2 : rowsR [] = [] := rowsR_yes n1
    go_enter Try.func27, Try.ntmps27
    go_wp2_with fail
    refine (specOver_any ps _ _ h).mono ?_
    rintro e w1 ⟨v1, rfl, o1, b1⟩
    rw [HO.out] at o1
    go_wp2_with fail
    refine (rows_lit n1 n2 (specRows_any [] _ _ o1.reads)).mono ?_
    rintro e w2 ⟨v2, rfl, o2, b2⟩
    have bb := below_step b1 b2
    clear n1 n2
    go_wp2_with fail
    refine (gives_is hp (specPicture_any ps _ _ (h.kept bb))).mono ?_
    rintro e w3 ⟨rfl, b3⟩
    have bw := below_step bb b3
    have hle := (bw).size
    go_wp2
    go_ret2
    exact ⟨_, rfl, Owns.empty _ _ hle, (bw).alloc hle _⟩
  · have HO := Lib.hid (overR_yes hp)
    rcases hq : rowsOk (overL ps) with _ | _
    · have e : colsOk ps = false := (colsOk_yes hp).trans hq
      rw [colsR_no e, e]
      clear e
      go_enter Try.func27, Try.ntmps27
      go_wp2_with fail
      refine (specOver_any ps _ _ h).mono ?_
      rintro e w1 ⟨v1, rfl, o1, b1⟩
      rw [HO.out] at o1
      go_wp2_with fail
      refine (rows_lit hq rfl (specRows_any _ _ _ o1.reads)).mono ?_
      rintro e w2 ⟨v2, rfl, o2, b2⟩
      have bw := below_step b1 b2
      have hle := (bw).size
      go_wp2
      go_ret2
      exact ⟨_, rfl, Owns.empty _ _ hle, (bw).alloc hle _⟩
    · have e : colsOk ps = true := (colsOk_yes hp).trans hq
      rw [colsR_yes e, e]
      clear e
      have hl : (rowsL (overL ps)).length ≤ 60 := (picB_pic (rows_parts hq).2).1
      go_enter Try.func27, Try.ntmps27
      go_wp2_with fail
      refine (specOver_any ps _ _ h).mono ?_
      rintro e w1 ⟨v1, rfl, o1, b1⟩
      rw [HO.out] at o1
      go_wp2_with fail
      refine (rows_lit hq (rowsR_yes hq) (specRows_any _ _ _ o1.reads)).mono ?_
      rintro e w2 ⟨v2, rfl, o2, b2⟩
      have bb := below_step b1 b2
      go_wp2_with fail
      refine (gives_is hp (specPicture_any ps _ _ (h.kept bb))).mono ?_
      rintro e w3 ⟨rfl, b3⟩
      have bw := below_step bb b3
      go_wp2_with fail
      refine (l9Over_any _ _ _ (o2.below b3).reads (by omega)).mono ?_
      rintro e w4 ⟨v4, rfl, o4, b4⟩
      go_wp2
      go_ret2
      exact ⟨_, rfl, o4.base bw.size, below_step bw b4⟩

def lenOfV : Value → Nat
  | .slice _ n _ => n
  | _ => 0
theorem both_none {p q : List Sp} (h : bothV q = bothV p) (k : stepOk q = false) : bothOk p = false ∧ bothR p = [] := by
  have := both_no k
  unfold bothOk bothR
  rw [← h, this]
  exact ⟨rfl, rfl⟩
theorem both_some {p q : List Sp} (h : bothV q = bothV p) (k : stepOk q = true) (hl : (stepL q).length = q.length) : bothOk p = true ∧ bothR p = stepL q := by
  have := both_end k hl
  unfold bothOk bothR
  rw [← h, this]
  exact ⟨rfl, rfl⟩
theorem stepOk_rows {p : List Sp} (h : rowsOk p = false) : stepOk p = false := by unfold stepOk; rw [h]; rfl
theorem stepOk_cols {p : List Sp} (h : rowsOk p = true) : stepOk p = colsOk (rowsL p) := by unfold stepOk; rw [h]; rfl
theorem cols_lit {S : FuncId} {P : Program} {p r : List Sp} {b : Bool} {v : Value} {w : World} (hb : colsOk p = b) (hr : colsR p = r) (h : Calls P S #[v] w (Gives2' (colsR p) (colsOk p) w)) : Calls P S #[v] w (Gives2' r b w) := by
  subst hb hr; exact h
set_option maxRecDepth 100000 in
set_option maxHeartbeats 1600000 in
theorem specBoth_any (ps : List Sp) (v : Value) (w : World) (h : Reads w w.heap.size v ps) (hsm : ps.length ≤ 1100000) : Calls Try.prog 30 #[v] w (Gives2' (bothR ps) (bothOk ps) w) := by
  obtain ⟨A, c, rfl, hc, hm⟩ := h.slice
  unfold maxLen at hm
  have b0 : Below w.heap.size w (w.alloc (.cells #[] 33)) := (Below.refl _ _).alloc (Nat.le_refl _) _
  have oE := Owns.empty w w.heap.size (Nat.le_refl _)
  have hr := h.kept b0
  go_enter Try.func30, Try.ntmps30
  go_wp2_with (at_builtin; refine wpList_append_spots (qs := ps) oE hr (by simp only [List.length_nil]; omega) b0.size rfl (.tmp 9) (.tmp 10) rfl rfl rfl ?_)
  intro v1 w1 o1 g1 hv1
  have b1 := oE.below_app b0 b0.size g1
  clear hr oE g1 hv1
  go_wp2
  go_loopw [4] (fun nv wr => ∃ qs : List Sp, Owns wr w.heap.size nv qs ∧ bothV qs = bothV ps ∧ Below w.heap.size w wr) (fun nv _ => 61 - lenOfV nv)
  case atStart => exact ⟨ps, o1, rfl, b1⟩
  case round =>
    obtain ⟨qs, hown, hV, hbw⟩ := hrel
    obtain ⟨Aq, cq, rfl, hcq, hmq⟩ := hown.reads.slice
    unfold maxLen at hmq
    have HV := Lib.hid hV
    clear hV
    rcases h1 : rowsOk qs with _ | _
    · obtain ⟨e1, e2⟩ := both_none HV.out (stepOk_rows h1)
      have HE := Lib.hid (And.intro e1 e2)
      clear e1 e2
      go_wp2_with fail
      refine (rows_lit h1 rfl (specRows_any qs _ wr hown.reads)).mono ?_
      rintro e w2 ⟨v2, rfl, o2, b2⟩
      have bw := below_step hbw b2
      have hle := bw.size
      go_wp2
      go_ret2
      exact ⟨_, by rw [HE.out.1]; rfl, by rw [HE.out.2]; exact Owns.empty _ _ hle, bw.alloc hle _⟩
    · rcases h2 : colsOk (rowsL qs) with _ | _
      · obtain ⟨e1, e2⟩ := both_none HV.out ((stepOk_cols h1).trans h2)
        have HE := Lib.hid (And.intro e1 e2)
        clear e1 e2
        go_wp2_with fail
        refine (rows_lit h1 (rowsR_yes h1) (specRows_any qs _ wr hown.reads)).mono ?_
        rintro e w2 ⟨v2, rfl, o2, b2⟩
        have bw := below_step hbw b2
        go_wp2_with fail
        refine (cols_lit h2 rfl (specCols_any _ _ w2 o2.reads)).mono ?_
        rintro e w3 ⟨v3, rfl, o3, b3⟩
        have bw := below_step bw b3
        have hle := bw.size
        go_wp2
        go_ret2
        exact ⟨_, by rw [HE.out.1]; rfl, by rw [HE.out.2]; exact Owns.empty _ _ hle, bw.alloc hle _⟩
      · have HS := Lib.hid ((stepOk_cols h1).trans h2)
        have hql : qs.length ≤ 60 := (picB_pic (rows_parts h1).1).1
        have hge := length_step (picB_pic (rows_parts h1).1).2.2
        have hnl : (stepL qs).length ≤ 60 := (picB_pic (pic_step HS.out)).1
        have HC : colsR (rowsL qs) = stepL qs := colsR_yes h2
        go_wp2_with fail
        refine (rows_lit h1 (rowsR_yes h1) (specRows_any qs _ wr hown.reads)).mono ?_
        rintro e w2 ⟨v2, rfl, o2, b2⟩
        have bw := below_step hbw b2
        have hs2 := bw.size
        go_wp2_with fail
        refine (cols_lit h2 HC (specCols_any _ _ w2 o2.reads)).mono ?_
        rintro e w3 ⟨v3, rfl, o3, b3⟩
        have bw := below_step bw b3
        obtain ⟨A3, c3, rfl, hc3, hm3⟩ := o3.reads.slice
        unfold maxLen at hm3
        clear h1 h2 HC
        by_cases he : (stepL qs).length = qs.length
        · obtain ⟨e1, e2⟩ := both_some HV.out HS.out he
          have HE := Lib.hid (And.intro e1 e2)
          have heb : (((stepL qs).length : Int) == (qs.length : Int)) = true := by rw [beq_iff_eq]; omega
          clear e1 e2 he
          go_wp2
          go_ret2
          exact ⟨_, by rw [HE.out.1]; rfl, by rw [HE.out.2]; exact o3.base hs2, bw⟩
        · have HN := Lib.hid ((both_step HS.out he).symm.trans HV.out)
          have heb : (((stepL qs).length : Int) == (qs.length : Int)) = false := by rw [beq_eq_false_iff_ne]; omega
          have hlt : qs.length < (stepL qs).length := by omega
          have HLT := Lib.hid hlt
          clear he hlt hge
          go_wp2
          go_roundw
          case rel => exact ⟨stepL qs, o3.base hs2, HN.out, bw⟩
          case measure =>
            have := HLT.out
            simp [lenOfV]; omega
set_option maxRecDepth 100000 in
theorem specFullOk_any (ps : List Sp) (v : Value) (w : World) (h : Reads w w.heap.size v ps) (hsm : ps.length ≤ 1100000) : Calls Try.prog 35 #[v] w (Gives (.bool (filledB ps)) w) := by
  obtain ⟨A, c, rfl, hc, hm⟩ := h.slice
  rcases hb : bothOk ps with _ | _
  · have HF := Lib.hid (show filledB ps = false by unfold filledB; rw [hb]; rfl)
    have hc' := specBoth_any ps _ w h hsm
    rw [hb] at hc'
    clear hb
    go_enter Try.func35, Try.ntmps35
    go_wp2_with fail
    refine hc'.mono ?_
    rintro e w1 ⟨v1, rfl, o1, b1⟩
    go_wp2
    go_ret
    exact ⟨by rw [HF.out]; rfl, b1⟩
  · have HF := Lib.hid (show filledB ps = (((bothR ps).length : Int) == (ps.length : Int)) by
      unfold filledB; rw [hb, Bool.true_and, Bool.eq_iff_iff, decide_eq_true_eq, beq_iff_eq]; omega)
    have hc' := specBoth_any ps _ w h hsm
    rw [hb] at hc'
    clear hb
    go_enter Try.func35, Try.ntmps35
    go_wp2_with fail
    refine hc'.mono ?_
    rintro e w1 ⟨v1, rfl, o1, b1⟩
    obtain ⟨A1, c1, rfl, hc1, hm1⟩ := o1.reads.slice
    go_wp2
    go_ret
    exact ⟨by rw [HF.out]; rfl, b1⟩
end Go.Proofs.Ytebgcmnajkophaa
