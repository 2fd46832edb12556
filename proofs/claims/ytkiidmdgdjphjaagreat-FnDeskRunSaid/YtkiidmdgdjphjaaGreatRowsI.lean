/- Texts of one kind, merged: OverI, RowsI. No conditions but those that stand in each theorem. -/
import Derived.Test.YtkiidmdgdjphjaaGreatSumW
import Derived.Test.YtkiidmdgdjphjaaGreatPlain
import Derived.Test.YtkiidmdgdjphjaaGreatParts
import Derived.Test.YtkiidmdgdjphjaaGreatBothS
import Derived.Test.YtkiidmdgdjphjaaGreatRunI
import Derived.Test.YtkiidmdgdjphjaaGreatMark
namespace Go.Proofs.YtkiidmdgdjphjaaGreat
/-! ### OverI -/
section
open Go.RowKit Go.Sort

theorem over_at {p : List Sp} {k : Nat} {x y : Int} (h : p[k]? = some (x, y)) : (p.map overS)[k]? = some (y, x) := by
  rw [List.getElem?_map, h]; rfl
theorem dd_over {p l : List Sp} (hw : WS l) (h : ∀ x, x ∈ l ↔ x ∈ p.map overS) : dd l l.length = overL p :=
  sorted_ext (sorted_dd hw (Nat.le_refl _)) (sorted_overL p) fun x => by
    rw [mem_dd, ← mem_getD, h, mem_overL, List.mem_map]
    constructor
    · rintro ⟨a, ha, rfl⟩; exact ha
    · exact fun hx => ⟨overS x, hx, rfl⟩
set_option maxRecDepth 100000 in
set_option maxHeartbeats 1600000 in
theorem implOver_any (ps : List Sp) (v : Value) (w : World) (h : Reads w w.heap.size v ps) : Calls Tryz.prog 109 #[v] w (GivesOwn (overR ps) w) := by
  obtain ⟨A, c, rfl, hc, hm, hA, hr⟩ := h.is
  unfold maxLen at hm
  rcases hp : picB ps with _ | _
  · rw [overR_no hp]
    go_enter Tryz.func109, Tryz.ntmps109
    go_wp2_with fail
    refine (gives_is hp (implPicture_any ps _ _ h)).mono ?_
    rintro e w1 ⟨rfl, b1⟩
    go_wp2
    go_ret
    exact ⟨_, rfl, Owns.nil _ _, b1⟩
  · rw [overR_yes hp]
    have hpl := (picB_pic hp).1
    have HD := Lib.hid (fun l hw k => dd_over (p := ps) (l := l) hw k)
    go_enter Tryz.func109, Tryz.ntmps109
    go_wp2_with fail
    refine (gives_is hp (implPicture_any ps _ _ h)).mono ?_
    rintro e w0 ⟨rfl, b0⟩
    have h' := h.kept b0
    clear hp
    have hbs0 : w.heap.size ≤ w0.heap.size := b0.size
    go_wp2_with (at_make; refine wpList_make_spots ps.length (by omega) rfl _ _ rfl _ _ rfl rfl rfl rfl ?_)
    intro w1 ho1 hg1
    have hb1 : Below w0.heap.size w0 w1 := (Below.refl _ _).grown hg1 (Nat.le_refl _) (by simp)
    clear hg1
    by_cases h0 : ps.length = 0
    · have e : ps = [] := List.eq_nil_of_length_eq_zero h0
      subst e
      go_wp2
      refine wp_loop_rounds 1 ?_
      rw [rounds_succ]
      go_wp2_with fail
      refine (putInOrder_any w0.heap.size [] _ w1 ho1 hb1.size (by simp)).mono ?_
      rintro e w2 ⟨v2, l', rfl, hws, hmem, o2, b2⟩
      rw [HD.out l' hws hmem] at o2
      go_wp2
      go_ret
      exact ⟨_, rfl, o2.base b0.size, below_step b0 (hb1.trans b2)⟩
    · obtain ⟨b, off, rfl, hb, hcell⟩ := hr (by omega)
      have hO := Lib.hid ho1
      clear ho1
      go_wp2
      go_loopw [14] (fun i wr => ∃ (k : Nat) (cur : List Sp), k ≤ ps.length ∧ i = .int .i64 k ∧ cur.length = ps.length ∧ Agree cur (ps.map overS) k ∧ Owns wr w0.heap.size (.slice (some ⟨w0.heap.size, 0, none⟩) ps.length ps.length) cur ∧ Below w0.heap.size w0 wr) (fun i _ => ps.length - (intOf i).toNat)
      case atStart => exact ⟨0, _, Nat.zero_le _, rfl, List.length_replicate, fun j hj => by omega, hO.out, hb1⟩
      case round =>
        obtain ⟨k, cur, hk, rfl, hcl, hag, hown, hbw⟩ := hrel
        have hbs : w0.heap.size ≤ wr.heap.size := hbw.size
        have hcl1 : cur.length ≤ ps.length := by omega
        have hcl2 : ps.length ≤ cur.length := by omega
        have hCL := Lib.hid hcl
        clear hcl
        by_cases hlt : k < ps.length
        · obtain ⟨⟨x, y⟩, hxy⟩ : ∃ a, ps[k]? = some a := ⟨_, List.getElem?_eq_getElem hlt⟩
          obtain ⟨c0, c1⟩ := hcell k x y hxy
          have d0 := (hbw.cell (p := ⟨b, off + k * 2, none⟩) (show b < w0.heap.size by omega)).trans ((b0.cell (p := ⟨b, off + k * 2, none⟩) hb).trans c0)
          have d1 := (hbw.cell (p := ⟨b, off + k * 2 + 1, none⟩) (show b < w0.heap.size by omega)).trans ((b0.cell (p := ⟨b, off + k * 2 + 1, none⟩) hb).trans c1)
          have hH := Lib.hid (over_at hxy)
          clear c0 c1 hxy
          have hal : Below wr.heap.size wr (wr.alloc (.cells #[.int .i64 x, .int .i64 y] 53)) := (Below.refl _ _).alloc (Nat.le_refl _) _
          have hown2 := hown.below hal
          have fz := hown2.free
          obtain ⟨px, py, _, q0, q1⟩ := hown2.there (k := k) (by omega)
          go_wp2
          go_roundw
          case rel => exact ⟨k + 1, cur.set k (y, x), by omega, by go_num, by rw [List.length_set]; exact hCL.out, agree_set hag (by omega) hH.out, hown2.set k y x (by omega), ((hbw.trans (hal.mono hbs)).setCell (by simp) _).setCell (by simp) _⟩
          case measure => simp [intOf]; omega
        · have hE := Lib.hid (agree_all (hCL.out.trans (List.length_map _).symm) (fun j hj => hag j (by omega)))
          have e := hE.out
          rw [e] at hown
          clear e
          have hml : (ps.map overS).length = ps.length := List.length_map _
          rw [← hml] at hown
          have hml' := Lib.hid hml
          go_wp2_with fail
          refine (putInOrder_any w0.heap.size (ps.map overS) _ wr (by rw [← hml]; exact hown) hbs (by omega)).mono ?_
          rintro e w2 ⟨v2, l', rfl, hws, hmem, o2, b2⟩
          rw [HD.out l' hws hmem] at o2
          go_wp2
          go_ret
          exact ⟨_, rfl, o2.base b0.size, below_step b0 (hbw.trans b2)⟩
end
/-! ### RowsI -/
section
open Go.RowKit Go.Sort

/-! ### columns -/
theorem rowsI_is {ps r : List Sp} {b : Bool} {v : Value} {w : World} (hr : rowsR ps = r) (hb : rowsOk ps = b) (h : Reads w w.heap.size v ps) : Calls Tryz.prog 89 #[v] w (Gives2' r b w) := by
  subst hr hb; exact implRows_any ps v w h
theorem overI_is {ps r : List Sp} {v : Value} {w : World} (hr : overR ps = r) (h : Reads w w.heap.size v ps) : Calls Tryz.prog 109 #[v] w (GivesOwn r w) := by
  subst hr; exact implOver_any ps v w h
set_option maxRecDepth 100000 in
theorem implCols_any (ps : List Sp) (v : Value) (w : World) (h : Reads w w.heap.size v ps) : Calls Tryz.prog 90 #[v] w (Gives2' (colsR ps) (colsOk ps) w) := by
  obtain ⟨A, c, rfl, hc, hm⟩ := h.slice
  rcases hp : picB ps with _ | _
  · have e := colsOk_pic hp
    rw [colsR_no e, e]
    clear e
    go_enter Tryz.func90, Tryz.ntmps90
    go_wp2_with fail
    refine (gives_is hp (implPicture_any ps _ _ h)).mono ?_
    rintro e w1 ⟨rfl, b1⟩
    go_wp2
    go_ret2
    exact ⟨_, rfl, Owns.nil _ _, b1⟩
  · have HO := Lib.hid (overR_yes hp)
    have HP := Lib.hid hp
    obtain ⟨b, r, q, hb, hr, hq, hcb, hcr⟩ : ∃ (b : Bool) (r q : List Sp), rowsOk (overL ps) = b ∧ rowsR (overL ps) = r ∧ overR r = q ∧ colsOk ps = b ∧ colsR ps = q := by
      refine ⟨_, _, _, rfl, rfl, rfl, colsOk_yes hp, ?_⟩
      rcases hb : rowsOk (overL ps) with _ | _
      · rw [rowsR_no hb, colsR_no ((colsOk_yes hp).trans hb)]
        exact (overR_yes (decide_eq_true pic_nil)).symm
      · rw [rowsR_yes hb, colsR_yes ((colsOk_yes hp).trans hb), overR_yes (rows_parts hb).2]; rfl
    rw [hcb, hcr]
    have HB := Lib.hid (And.intro hr (And.intro hb hq))
    clear hb hr hq hcb hcr hp
    go_enter Tryz.func90, Tryz.ntmps90
    go_wp2_with fail
    refine (gives_is HP.out (implPicture_any ps _ _ h)).mono ?_
    rintro e w1 ⟨rfl, b1⟩
    go_wp2_with fail
    refine (overI_is HO.out (h.kept b1)).mono ?_
    rintro e w2 ⟨v2, rfl, o2, b2⟩
    go_wp2_with fail
    refine (rowsI_is HB.out.1 HB.out.2.1 o2.reads).mono ?_
    rintro e w3 ⟨v3, rfl, o3, b3⟩
    go_wp2_with fail
    refine (overI_is HB.out.2.2 o3.reads).mono ?_
    rintro e w4 ⟨v4, rfl, o4, b4⟩
    have bb := below_step (below_step b1 b2) b3
    go_wp2
    go_ret2
    exact ⟨_, rfl, o4.base bb.size, below_step bb b4⟩

/-! ### both by turns -/
def stepR (p : List Sp) : List Sp := if stepOk p then stepL p else []
theorem stepR_no {p : List Sp} (h : stepOk p = false) : stepR p = [] := by unfold stepR; rw [h]; rfl
theorem stepR_yes {p : List Sp} (h : stepOk p = true) : stepR p = stepL p := by unfold stepR; rw [h]; rfl
theorem stepOk_no {p : List Sp} (h : rowsOk p = false) : stepOk p = false := by unfold stepOk; rw [h]; rfl
theorem stepOk_yes {p : List Sp} (h : rowsOk p = true) : colsOk (rowsL p) = stepOk p ∧ colsR (rowsL p) = stepR p := by
  have e : colsOk (rowsL p) = stepOk p := by unfold stepOk; rw [h, Bool.true_and]
  refine ⟨e, ?_⟩
  unfold colsR stepR
  rw [e]; rfl
theorem colsI_is {ps r : List Sp} {b : Bool} {v : Value} {w : World} (hr : colsR ps = r) (hb : colsOk ps = b) (h : Reads w w.heap.size v ps) : Calls Tryz.prog 90 #[v] w (Gives2' r b w) := by
  subst hr hb; exact implCols_any ps v w h
set_option maxRecDepth 100000 in
theorem turnRows_any (ps : List Sp) (v : Value) (w : World) (h : Reads w w.heap.size v ps) : Calls Tryz.prog 88 #[v, .func (.func 89) #[] #[], .func (.func 90) #[] #[]] w (Gives2' (stepR ps) (stepOk ps) w) := by
  obtain ⟨A, c, rfl, hc, hm⟩ := h.slice
  rcases hp : rowsOk ps with _ | _
  · have e := stepOk_no hp
    have hR := rowsR_no hp
    rw [stepR_no e, e]
    clear e
    go_enter Tryz.func88, Tryz.ntmps88
    go_wp2_with fail
    refine (rowsI_is hR hp h).mono ?_
    rintro e w1 ⟨v1, rfl, o1, b1⟩
    go_wp2
    go_ret2
    exact ⟨_, rfl, Owns.nil _ _, b1⟩
  · have HC := Lib.hid (stepOk_yes hp)
    have hR := rowsR_yes hp
    go_enter Tryz.func88, Tryz.ntmps88
    go_wp2_with fail
    refine (rowsI_is hR hp h).mono ?_
    rintro e w1 ⟨v1, rfl, o1, b1⟩
    clear hR hp
    go_wp2_with fail
    refine (colsI_is HC.out.2 HC.out.1 o1.reads).mono ?_
    rintro e w2 ⟨v2, rfl, o2, b2⟩
    go_wp2
    go_ret2
    exact ⟨_, rfl, o2.base b1.size, below_step b1 b2⟩
theorem turn_is {ps r : List Sp} {b : Bool} {v : Value} {w : World} (hr : stepR ps = r) (hb : stepOk ps = b) (h : Reads w w.heap.size v ps) : Calls Tryz.prog 88 #[v, .func (.func 89) #[] #[], .func (.func 90) #[] #[]] w (Gives2' r b w) := by
  subst hr hb; exact turnRows_any ps v w h
def lenOf : Value → Nat
  | .slice _ n _ => n
  | _ => 0
theorem both_end_is {p q : List Sp} (e : bothV q = bothV p) (h : stepOk q = true) (hl : (stepL q).length = q.length) : bothOk p = true ∧ bothR p = stepL q := by
  unfold bothOk bothR
  rw [← e, both_end h hl]; exact ⟨rfl, rfl⟩
theorem both_no_is {p q : List Sp} (e : bothV q = bothV p) (h : stepOk q = false) : bothOk p = false ∧ bothR p = [] := by
  unfold bothOk bothR
  rw [← e, both_no h]; exact ⟨rfl, rfl⟩
theorem step_more {q : List Sp} (h : stepOk q = true) (hl : ¬ (stepL q).length = q.length) : q.length < (stepL q).length ∧ (stepL q).length ≤ 60 := by
  have hs := (picB_pic (rows_parts (step_parts h).1).1).2.2
  have h1 := length_step hs
  have h2 := (picB_pic (pic_step h)).1
  omega
set_option maxRecDepth 100000 in
set_option maxHeartbeats 1600000 in
theorem implBoth_any (ps : List Sp) (v : Value) (w : World) (h : Reads w w.heap.size v ps) (_hsm : ps.length ≤ 1100000) : Calls Tryz.prog 66 #[v] w (Gives2' (bothR ps) (bothOk ps) w) := by
  go_enter Tryz.func66, Tryz.ntmps66
  go_wp2
  go_loopw [0] (fun s wr => ∃ q : List Sp, Reads wr wr.heap.size s q ∧ bothV q = bothV ps ∧ Below w.heap.size w wr) (fun s _ => 60 - lenOf s)
  case atStart => exact ⟨ps, h, rfl, Below.refl _ _⟩
  case round =>
    obtain ⟨q, hq, hV, hbw⟩ := hrel
    obtain ⟨A, c, rfl, hc, hm⟩ := hq.slice
    unfold maxLen at hm
    have HV := Lib.hid hV
    clear hV
    rcases hs : stepOk q with _ | _
    · have HE := Lib.hid (both_no_is HV.out hs)
      have hR := stepR_no hs
      go_wp2_with fail
      refine (turn_is hR hs hq).mono ?_
      rintro e w1 ⟨v1, rfl, o1, b1⟩
      have bb := below_step hbw b1
      clear hs hR
      go_wp2
      go_ret2
      exact ⟨_, by rw [HE.out.1]; rfl, by rw [HE.out.2]; exact o1.base hbw.size, bb⟩
    · have hR := stepR_yes hs
      by_cases hl : (stepL q).length = q.length
      · have HE := Lib.hid (both_end_is HV.out hs hl)
        go_wp2_with fail
        refine (turn_is hR hs hq).mono ?_
        rintro e w1 ⟨v1, rfl, o1, b1⟩
        have bb := below_step hbw b1
        obtain ⟨A1, c1, rfl, _, _⟩ := o1.reads.slice
        have hd : decide (((stepL q).length : Int) = (q.length : Int)) = true := decide_eq_true (by omega)
        clear hs hR
        go_wp2
        go_ret2
        exact ⟨_, by rw [HE.out.1]; rfl, by rw [HE.out.2]; have o2 := o1.base hbw.size; rw [hl] at o2; exact o2, bb⟩
      · have HE := Lib.hid (And.intro (both_step hs hl) (step_more hs hl))
        go_wp2_with fail
        refine (turn_is hR hs hq).mono ?_
        rintro e w1 ⟨v1, rfl, o1, b1⟩
        have bb := below_step hbw b1
        have r1 := o1.reads
        obtain ⟨A1, c1, rfl, _, _⟩ := r1.slice
        clear hs hR o1
        go_wp2
        go_roundw
        case rel => exact ⟨stepL q, r1, HE.out.1.symm.trans HV.out, bb⟩
        case measure => have := HE.out.2; simp [lenOf]; omega

/-! ### whether both are filled -/
set_option maxRecDepth 100000 in
set_option maxHeartbeats 800000 in
theorem equalS_any (ps qs : List Sp) (v v' : Value) (w : World) (h : Reads w w.heap.size v ps) (h' : Reads w w.heap.size v' qs) :
    Calls Tryz.prog 39 #[v, v'] w (Gives (.bool (decide (ps = qs))) w) := by
  obtain ⟨A, c, rfl, hc, hm, hA, hr⟩ := h.is
  obtain ⟨A', c', rfl, hc', hm', hA', hr'⟩ := h'.is
  unfold maxLen at hm hm'
  by_cases hl : ps.length = qs.length
  · by_cases h0 : ps.length = 0
    · have e : ps = [] := List.eq_nil_of_length_eq_zero h0
      have e' : qs = [] := List.eq_nil_of_length_eq_zero (by omega)
      subst e e'
      go_enter Tryz.func39, Tryz.ntmps39
      go_wp2
      go_rounds 2
      go_ret
      exact ⟨rfl, Below.refl _ _⟩
    · obtain ⟨b, off, rfl, hb, hcell⟩ := hr (by omega)
      obtain ⟨b', off', rfl, hb', hcell'⟩ := hr' (by omega)
      have hne : (((ps.length : Int) != (qs.length : Int))) = false := by simp [hl]
      have h1 : ps.length ≤ qs.length := by omega
      have h2 : qs.length ≤ ps.length := by omega
      have hL := Lib.hid hl
      clear hl
      go_enter Tryz.func39, Tryz.ntmps39
      go_wp2
      go_loopw [13] (fun i wr => ∃ k : Nat, k ≤ ps.length ∧ i = .int .i64 k ∧ Agree ps qs k ∧ Below w.heap.size w wr) (fun i _ => ps.length - (intOf i).toNat)
      case atStart => exact ⟨0, Nat.zero_le _, rfl, fun j hj => by omega, Below.refl _ _⟩
      case round =>
        obtain ⟨k, hk, rfl, hok, hbw⟩ := hrel
        have hbs : w.heap.size ≤ wr.heap.size := hbw.size
        by_cases hlt : k < ps.length
        · have hlt' : k < qs.length := by omega
          obtain ⟨⟨x, y⟩, hxy⟩ : ∃ a, ps[k]? = some a := ⟨_, List.getElem?_eq_getElem hlt⟩
          obtain ⟨⟨u, v⟩, huv⟩ : ∃ a, qs[k]? = some a := ⟨_, List.getElem?_eq_getElem hlt'⟩
          obtain ⟨c0, c1⟩ := hcell k x y hxy
          obtain ⟨c2, c3⟩ := hcell' k u v huv
          have d0 := cell_regrown ((hbw.cell (p := ⟨b, off + k * 2, none⟩) hb).trans c0)
          have d1 := cell_regrown ((hbw.cell (p := ⟨b, off + k * 2 + 1, none⟩) hb).trans c1)
          have d2 := cell_regrown ((hbw.cell (p := ⟨b', off' + k * 2, none⟩) hb').trans c2)
          have d3 := cell_regrown ((hbw.cell (p := ⟨b', off' + k * 2 + 1, none⟩) hb').trans c3)
          clear c0 c1 c2 c3
          by_cases hx : (x, y) = (u, v)
          · have hH := Lib.hid (agree_succ hok hxy huv hx)
            obtain ⟨rfl, rfl⟩ := Prod.mk.inj hx
            clear hok hxy huv hx
            go_wp2
            refine wp_region_quiet_below (by kernel_rfl) (by kernel_rfl) ?_
            repeat (go_big_quiet_step (first | fail))
            refine wpQuiet_nil ?_
            intro _ hw'
            obtain ⟨⟨dq, osq⟩, hw''⟩ := hw'
            subst hw''
            go_wp2
            go_roundw
            case rel => exact ⟨k + 1, by omega, by go_num, hH.out, hbw.trans ((below_regrown _ _ _).mono hbs)⟩
            case measure => simp [intOf]; omega
          · have hH := Lib.hid (show decide (ps = qs) = false from decide_eq_false (agree_not hxy huv hx))
            clear hok hxy huv
            by_cases hxu : x = u
            · subst hxu
              have hyv : ¬ y = v := fun e => hx (by rw [e])
              clear hx
              go_wp2
              refine wp_region_quiet_below (by kernel_rfl) (by kernel_rfl) ?_
              repeat (go_big_quiet_step (first | fail))
              refine wpQuiet_nil ?_
              intro _ hw'
              obtain ⟨⟨dq, osq⟩, hw''⟩ := hw'
              subst hw''
              go_wp2
              go_ret
              exact ⟨ret_bool hH.out.symm, hbw.trans ((below_regrown _ _ _).mono hbs)⟩
            · clear hx
              go_wp2
              refine wp_region_quiet_below (by kernel_rfl) (by kernel_rfl) ?_
              repeat (go_big_quiet_step (first | fail))
              refine wpQuiet_nil ?_
              intro _ hw'
              obtain ⟨⟨dq, osq⟩, hw''⟩ := hw'
              subst hw''
              go_wp2
              go_ret
              exact ⟨ret_bool hH.out.symm, hbw.trans ((below_regrown _ _ _).mono hbs)⟩
        · have hH := Lib.hid (show decide (ps = qs) = true from decide_eq_true (agree_all hL.out (fun j hj => hok j (by omega))))
          clear hok
          go_wp2
          go_ret
          exact ⟨ret_bool hH.out.symm, hbw⟩
  · have e : decide (ps = qs) = false := decide_eq_false (fun e => hl (by rw [e]))
    rw [e]
    have hne : (((ps.length : Int) != (qs.length : Int))) = true := by simp; omega
    clear hl e
    go_enter Tryz.func39, Tryz.ntmps39
    go_wp2
    go_ret
    exact ⟨rfl, Below.refl _ _⟩
theorem bothI_is {ps r : List Sp} {b : Bool} {v : Value} {w : World} (hr : bothR ps = r) (hb : bothOk ps = b) (h : Reads w w.heap.size v ps) (hsm : ps.length ≤ 1100000) : Calls Tryz.prog 66 #[v] w (Gives2' r b w) := by
  subst hr hb; exact implBoth_any ps v w h hsm
theorem equal_is {ps qs : List Sp} {b : Bool} {v v' : Value} {w : World} (hb : decide (ps = qs) = b) (h : Reads w w.heap.size v ps) (h' : Reads w w.heap.size v' qs) :
    Calls Tryz.prog 39 #[v, v'] w (Gives (.bool b) w) := by subst hb; exact equalS_any ps qs v v' w h h'
theorem filled_is {p : List Sp} (h : bothOk p = true) : decide (bothR p = p) = filledB p := by
  have B := both_is h
  unfold filledB
  rw [h, Bool.true_and, Bool.eq_iff_iff, decide_eq_true_eq, decide_eq_true_eq]
  constructor
  · intro e; rw [e]
  · intro e; exact (sub_length (picB_pic B.pic).2.2 (picB_pic B.pics).2.2 B.has (Nat.le_of_eq e)).symm
end
end Go.Proofs.YtkiidmdgdjphjaaGreat
