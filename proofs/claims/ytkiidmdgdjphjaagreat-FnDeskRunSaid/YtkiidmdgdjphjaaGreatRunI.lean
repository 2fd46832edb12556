/- The program's runs of rows, and RowsFilled: for each row the run from its first spot to its last one, and all spots of these. No conditions but those typed. -/
import Derived.Test.YtkiidmdgdjphjaaGreatBetwI
import Derived.Test.YtkiidmdgdjphjaaGreatRuns
import Derived.Test.YtkiidmdgdjphjaaGreatTold
namespace Go.Proofs.YtkiidmdgdjphjaaGreat
open Go.RowKit Go.Sort

theorem runRule_any (x y : Int) (w : World) : Calls Tryz.prog 127 #[.agg #[.int .i64 x, .int .i64 y]] w (Gives (.bool true) w) := by
  go_enter Tryz.func127, Tryz.ntmps127
  go_wp2
  go_ret
  exact ⟨rfl, box_below _ _ _⟩
def RunIn (r : Rn) : Prop := -30 ≤ r.1.1 ∧ r.1.1 ≤ 30 ∧ -30 ≤ r.1.2 ∧ r.1.2 ≤ 30 ∧ -30 ≤ r.2 ∧ r.2 ≤ 30
set_option maxRecDepth 100000 in
theorem runSpots_any (y f t : Int) (w : World) (h : RunIn ((y, f), t)) : Calls Tryz.prog 108 #[.agg #[.int .i64 y, .int .i64 f, .int .i64 t]] w fun e w' => ∃ v', e = .returned v' ∧ Owns w' w.heap.size v' (runCells ((y, f), t)) ∧ Below w.heap.size w w' := by
  obtain ⟨h1, h2, h3, h4, h5, h6⟩ := h
  simp only at h1 h2 h3 h4 h5 h6
  have HS := Lib.hid (runCells_at y f t)
  have b0 := box_below w #[.int .i64 y, .int .i64 f, .int .i64 t] 115
  go_enter Tryz.func108, Tryz.ntmps108
  go_wp2_with fail
  refine (betwRun_any (fun _ => true) f y t y _ (by omega) (by omega) (by omega) (by omega) (by omega) (by omega) (by omega) (by omega) (fun x y w1 _ _ _ _ _ => runRule_any x y w1)).mono ?_
  rintro e w1 ⟨v1, rfl, o1, b1⟩
  rw [← HS.out] at o1
  go_wp2
  go_ret
  exact ⟨_, rfl, o1.base b0.size, below_step b0 b1⟩

/-- behind a spot more -/
def StepRPost (base : Nat) (l : List Rn) (w : World) (e : Ending) (w' : World) : Prop := ∃ v', e = .returned v' ∧ ROwns w' base v' l ∧ Below base w w'
set_option maxRecDepth 100000 in
set_option maxHeartbeats 800000 in
theorem runStep_any (l : List Rn) (v : Value) (base : Nat) (x y : Int) (w : World) (h : ROwns w base v l) (hbase : base ≤ w.heap.size) (hl : l.length ≤ 1000) :
    Calls Tryz.prog 126 #[v, .agg #[.int .i64 x, .int .i64 y]] w (StepRPost base (runStep l (x, y)) w) := by
  have b0 := box_below w #[.int .i64 x, .int .i64 y] 53
  obtain ⟨W, hW⟩ : ∃ W, W = w.alloc (.cells #[.int .i64 x, .int .i64 y] 53) := ⟨_, rfl⟩
  have z0 : W.cell? ⟨w.heap.size, 0, none⟩ = some (.int .i64 x) := by rw [hW]; simp [go_sem]
  have z1 : W.cell? ⟨w.heap.size, 1, none⟩ = some (.int .i64 y) := by rw [hW]; simp [go_sem]
  have hWs : w.heap.size < W.heap.size := by rw [hW]; simp
  rw [← hW] at b0
  have ow := h.below b0
  have bw := b0
  clear b0
  by_cases h0 : l.length = 0
  · obtain rfl := List.eq_nil_of_length_eq_zero h0
    have HK := Lib.hid (show runStep [] (x, y) = [] ++ [((y, x), x)] from runStep_nil (x, y))
    obtain ⟨A, c, rfl, hc, hm⟩ := h.reads.slice
    clear h
    go_enter Tryz.func126, Tryz.ntmps126
    go_wp2_with (first | (rw [← hW]; clear hW) | fail)
    go_wp2
    refine wp_region_quiet_below (by kernel_rfl) (by kernel_rfl) ?_
    repeat (go_big_quiet_step (first | fail))
    refine wpQuiet_nil ?_
    intro w2 hw'
    obtain ⟨⟨dq, osq⟩, hw''⟩ := hw'
    have hq : Below W.heap.size W w2 := by rw [hw'']; exact below_regrown _ _ _
    clear hw'' dq osq
    skip
    have bw2 := below_step bw hq
    have s2 := bw2.size
    have hb2 : base ≤ w2.heap.size := Nat.le_trans hbase s2
    have oa := (ow.below hq).below (box_below w2 #[.int .i64 y, .int .i64 x, .int .i64 x] 115)
    have ba := bw2.alloc s2 (.cells #[.int .i64 y, .int .i64 x, .int .i64 x] 115)
    have z0 := (hq.cell (p := ⟨w.heap.size, 0, none⟩) hWs).trans z0
    have z1 := (hq.cell (p := ⟨w.heap.size, 1, none⟩) hWs).trans z1
    go_wp2_with (at_builtin; refine wpList_append_runs (m := [((y, x), x)]) oa (RReads.one (g := w2.heap.size) (by simp [go_sem]) (by simp [go_sem]) (by simp [go_sem])) (by simp only [List.length_cons, List.length_nil] at *; omega) (by simp only [World.size_alloc]; omega) rfl (.tmp 21) (.tmp 29) rfl rfl rfl ?_)
    intro v4 w4 o4 g4 hv4
    have bw4 := oa.below_app (ba.mono hbase) (by simp only [World.size_alloc]; omega) g4
    go_wp2
    go_ret
    exact ⟨_, rfl, by rw [HK.out]; first | exact o4 | (rw [List.append_assoc]; exact o4), bw4⟩
  · obtain ⟨init, y', f, t, rfl⟩ := snoc_last (l := l) (by omega)
    rcases h.2 with ⟨rfl, hz⟩ | ⟨g, cap, cur, rfl, hbg, hgh, _⟩
    · exact absurd hz h0
    have hgW : g < W.heap.size := Nat.lt_trans (Array.getElem?_eq_some_iff.1 hgh).1 hWs
    clear hgh
    have hla : (init ++ [((y', f), t)])[init.length]? = some ((y', f), t) := by rw [List.getElem?_append_right (Nat.le_refl _), Nat.sub_self]; rfl
    have hlen : (init ++ [((y', f), t)]).length = init.length + 1 := by rw [List.length_append]; rfl
    have hset : ∀ s, (init ++ [((y', f), t)]).set init.length s = init ++ [s] := fun s => by
      have := set_last init ((y', f), t) s
      rwa [hlen, Nat.add_sub_cancel] at this
    have fz := ow.free
    obtain ⟨A1, c1, h1, hc1, hm1, _⟩ := h.reads.is
    cases h1
    unfold maxLen at hm1
    rw [hlen] at ow hl hc1 ⊢
    obtain ⟨q0, q1, q2⟩ : W.cell? ⟨g, init.length * 3, none⟩ = some (.int .i64 y') ∧ W.cell? ⟨g, init.length * 3 + 1, none⟩ = some (.int .i64 f) ∧ W.cell? ⟨g, init.length * 3 + 2, none⟩ = some (.int .i64 t) := by
      obtain ⟨a, b, c, k1, k2, k3, k4⟩ := ow.there (k := init.length) (by rw [hlen]; omega)
      rw [hla] at k1
      cases k1
      exact ⟨k2, k3, k4⟩
    obtain ⟨m, hmm⟩ : ∃ m, init.length = m := ⟨_, rfl⟩
    have HS := Lib.hid hset
    have HLA := Lib.hid hla
    rw [hmm] at ow q0 q1 q2 hl hc1 ⊢
    have HM := Lib.hid hmm
    clear hla hlen hset hmm h0 h
    have d0 := cell_regrown q0
    have d1 := cell_regrown z1
    have hd : decide ((m : Int) < 0) = false := decide_eq_false (by omega)
    by_cases e : y' = y
    · subst e
      have HK := Lib.hid (runStep_same init y' f t x)
      go_enter Tryz.func126, Tryz.ntmps126
      go_wp2_with (first | (rw [← hW]; clear hW) | fail)
      go_wp2
      refine wp_region_quiet_below (by kernel_rfl) (by kernel_rfl) ?_
      repeat (go_big_quiet_step (first | fail))
      refine wpQuiet_nil ?_
      intro w2 hw'
      obtain ⟨⟨dq, osq⟩, hw''⟩ := hw'
      have hq : Below W.heap.size W w2 := by rw [hw'']; exact below_regrown _ _ _
      clear hw'' dq osq
      have ow2 := ow.below hq
      have bw2 := (below_step bw hq).mono hbase
      have z0 := (hq.cell (p := ⟨w.heap.size, 0, none⟩) hWs).trans z0
      have q2 := (hq.cell (p := ⟨g, m * 3 + 2, none⟩) hgW).trans q2
      have fz2 := ow2.free (m * 3 + 2)
      have o3 := ow2.setTo x (k := m) (y := y') (f := f) (u := t) (by rw [← HM.out]; exact HLA.out)
      rw [← HM.out, HS.out, HM.out] at o3
      go_wp2
      go_ret
      exact ⟨_, rfl, by rw [HK.out]; exact o3, bw2.setCell (p := ⟨g, m * 3 + 2, none⟩) hbg _⟩
    · have HK := Lib.hid (runStep_new (t := t) (f := f) (x := x) init e)
      go_enter Tryz.func126, Tryz.ntmps126
      go_wp2_with (first | (rw [← hW]; clear hW) | fail)
      go_wp2
      refine wp_region_quiet_below (by kernel_rfl) (by kernel_rfl) ?_
      repeat (go_big_quiet_step (first | fail))
      refine wpQuiet_nil ?_
      intro w2 hw'
      obtain ⟨⟨dq, osq⟩, hw''⟩ := hw'
      have hq : Below W.heap.size W w2 := by rw [hw'']; exact below_regrown _ _ _
      clear hw'' dq osq
      (generalize Value.slice (some ⟨g, 0, none⟩) (m + 1) cap = V at ow ⊢; have hml : (init ++ [((y', f), t)]).length = m + 1 := by rw [List.length_append, HM.out]; rfl)
      have bw2 := below_step bw hq
      have s2 := bw2.size
      have hb2 : base ≤ w2.heap.size := Nat.le_trans hbase s2
      have oa := (ow.below hq).below (box_below w2 #[.int .i64 y, .int .i64 x, .int .i64 x] 115)
      have ba := bw2.alloc s2 (.cells #[.int .i64 y, .int .i64 x, .int .i64 x] 115)
      have z0 := (hq.cell (p := ⟨w.heap.size, 0, none⟩) hWs).trans z0
      have z1 := (hq.cell (p := ⟨w.heap.size, 1, none⟩) hWs).trans z1
      go_wp2_with (at_builtin; refine wpList_append_runs (m := [((y, x), x)]) oa (RReads.one (g := w2.heap.size) (by simp [go_sem]) (by simp [go_sem]) (by simp [go_sem])) (by simp only [List.length_cons, List.length_nil] at *; omega) (by simp only [World.size_alloc]; omega) rfl (.tmp 21) (.tmp 29) rfl rfl rfl ?_)
      intro v4 w4 o4 g4 hv4
      have bw4 := oa.below_app (ba.mono hbase) (by simp only [World.size_alloc]; omega) g4
      go_wp2
      go_ret
      exact ⟨_, rfl, by rw [HK.out]; first | exact o4 | (rw [List.append_assoc]; exact o4), bw4⟩

set_option maxRecDepth 100000 in
set_option maxHeartbeats 800000 in
theorem runsOf_any (ps : List Sp) (v : Value) (w : World) (h : Reads w w.heap.size v ps) (hp : picB ps = true) :
    Calls Tryz.prog 106 #[v] w (GivesR (runsL ps) w) := by
  have hf : Calls Tryz.prog 125 #[v, .slice none 0 0, .func (.func 126) #[] #[]] w (GivesR (runsL ps) w) := by
    obtain ⟨A, c, rfl, hcl, hm, hA, hr⟩ := h.is
    unfold maxLen at hm
    by_cases h0 : ps.length = 0
    · obtain rfl := List.eq_nil_of_length_eq_zero h0
      go_enter Tryz.func125, Tryz.ntmps125
      go_wp2
      refine wp_loop_rounds 1 ?_
      rw [rounds_succ]
      go_wp2
      go_ret
      exact ⟨_, rfl, ROwns.nil _ _, Below.refl _ _⟩
    · obtain ⟨b, off, rfl, hb, hcell⟩ := hr (by omega)
      have hpl := (picB_pic hp).1
      have HP := Lib.hid hp
      clear hp
      go_enter Tryz.func125, Tryz.ntmps125
      go_wp2
      go_loopw [7, 13] (fun o i wr => ∃ j : Nat, j ≤ ps.length ∧ i = .int .i64 j ∧ ROwns wr w.heap.size o (runsUpto ps j) ∧ Below w.heap.size w wr) (fun _ i _ => ps.length - (intOf i).toNat)
      case atStart => exact ⟨0, Nat.zero_le _, rfl, ROwns.nil _ _, Below.refl _ _⟩
      case round =>
        obtain ⟨j, hj, rfl, hown, hbw⟩ := hrel
        have hbs := hbw.size
        by_cases hlt : j < ps.length
        · obtain ⟨⟨x, y⟩, hxy⟩ : ∃ a, ps[j]? = some a := ⟨_, List.getElem?_eq_getElem hlt⟩
          obtain ⟨a0, a1⟩ := hcell j x y hxy
          have d0 := (hbw.cell (p := ⟨b, off + j * 2, none⟩) hb).trans a0
          have d1 := (hbw.cell (p := ⟨b, off + j * 2 + 1, none⟩) hb).trans a1
          have HK := Lib.hid (runsUpto_succ hxy)
          have hlen := (run_ok HP.out j hj).len
          have bal := box_below wr #[.int .i64 x, .int .i64 y] 53
          have bx := hbw.trans (bal.mono hbs)
          have hs := runStep_any (runsUpto ps j) _ w.heap.size x y _ (hown.below bal) bx.size (by omega)
          rw [← HK.out] at hs
          clear hxy a0 a1
          go_wp2_with fail
          refine hs.mono ?_
          rintro e w2 ⟨v2, rfl, o2, b2⟩
          have bx2 := bx.trans b2
          go_wp2
          go_roundw
          case rel => exact ⟨j + 1, by omega, by go_num, o2, bx2⟩
          case measure => simp [intOf]; omega
        · obtain rfl : j = ps.length := by omega
          go_wp2
          go_ret
          exact ⟨_, rfl, hown, hbw⟩
  obtain ⟨A, c, rfl, hc, hm⟩ := h.slice
  go_enter Tryz.func106, Tryz.ntmps106
  go_wp2_with fail
  refine hf.mono ?_
  rintro e w1 ⟨v1, rfl, o1, b1⟩
  go_wp2
  go_ret
  exact ⟨_, rfl, o1, b1⟩

/-- a run's spots behind those before -/
def StepSPost (base : Nat) (l : List Sp) (w : World) (e : Ending) (w' : World) : Prop := ∃ v', e = .returned v' ∧ Owns w' base v' l ∧ Below base w w'
set_option maxRecDepth 100000 in
set_option maxHeartbeats 800000 in
theorem rowsStep_any (l : List Sp) (v : Value) (base : Nat) (y f t : Int) (w : World) (h : Owns w base v l) (hbase : base ≤ w.heap.size) (hl : l.length ≤ 100000) (hr : RunIn ((y, f), t)) :
    Calls Tryz.prog 107 #[v, .agg #[.int .i64 y, .int .i64 f, .int .i64 t]] w (StepSPost base (l ++ runCells ((y, f), t)) w) := by
  have b0 := box_below w #[.int .i64 y, .int .i64 f, .int .i64 t] 115
  have hlen := runCells_len hr
  obtain ⟨A, c, rfl, hc, hm⟩ := h.reads.slice
  unfold maxLen at hm
  have ow := h.below b0
  have hs := runSpots_any y f t (w.alloc (.cells #[.int .i64 y, .int .i64 f, .int .i64 t] 115)) hr
  obtain ⟨R, hR⟩ : ∃ R, runCells ((y, f), t) = R := ⟨_, rfl⟩
  rw [hR] at hs hlen ⊢
  clear h hR
  go_enter Tryz.func107, Tryz.ntmps107
  go_wp2_with fail
  refine hs.mono ?_
  rintro e w1 ⟨v1, rfl, o1, b1⟩
  have ow1 := ow.below b1
  have bb := (below_step b0 b1).mono hbase
  have hs1 := bb.size
  have hb1 := (below_step b0 b1).size
  obtain ⟨A1, c1, rfl, hc1, hm1⟩ := o1.reads.slice
  unfold maxLen at hm1
  go_wp2_with (at_builtin; refine wpList_append_spots (qs := R) ow1 o1.reads (by omega) (by omega) rfl (.tmp 5) (.tmp 7) rfl rfl rfl ?_)
  intro v4 w4 o4 g4 hv4
  have bw4 := ow1.below_app bb (by omega) g4
  go_wp2
  go_ret
  exact ⟨_, rfl, o4, bw4⟩
set_option maxRecDepth 100000 in
set_option maxHeartbeats 800000 in
theorem foldRows_any (L : List Rn) (v : Value) (w : World) (h : RReads w w.heap.size v L) (hl : L.length ≤ 60) (hall : ∀ r ∈ L, RunIn r) :
    Calls Tryz.prog 105 #[v, .slice none 0 0, .func (.func 107) #[] #[]] w fun e w' => ∃ v', e = .returned v' ∧ Owns w' w.heap.size v' (runsCells L) ∧ Below w.heap.size w w' := by
  obtain ⟨A, c, rfl, hcl, hm, hA, hr⟩ := h.is
  unfold maxLen at hm
  by_cases h0 : L.length = 0
  · obtain rfl := List.eq_nil_of_length_eq_zero h0
    go_enter Tryz.func105, Tryz.ntmps105
    go_wp2
    refine wp_loop_rounds 1 ?_
    rw [rounds_succ]
    go_wp2
    go_ret
    exact ⟨_, rfl, Owns.nil _ _, Below.refl _ _⟩
  · obtain ⟨b, off, rfl, hb, hcell⟩ := hr (by omega)
    have HL := Lib.hid (runsCells_len hall)
    go_enter Tryz.func105, Tryz.ntmps105
    go_wp2
    go_loopw [7, 13] (fun o i wr => ∃ j : Nat, j ≤ L.length ∧ i = .int .i64 j ∧ Owns wr w.heap.size o (runsCells (L.take j)) ∧ Below w.heap.size w wr) (fun _ i _ => L.length - (intOf i).toNat)
    case atStart => exact ⟨0, Nat.zero_le _, rfl, Owns.nil _ _, Below.refl _ _⟩
    case round =>
      obtain ⟨j, hj, rfl, hown, hbw⟩ := hrel
      have hbs := hbw.size
      by_cases hlt : j < L.length
      · obtain ⟨⟨⟨y, f⟩, t⟩, hxy⟩ : ∃ a, L[j]? = some a := ⟨_, List.getElem?_eq_getElem hlt⟩
        obtain ⟨a0, a1, a2⟩ := hcell j y f t hxy
        have d0 := (hbw.cell (p := ⟨b, off + j * 3, none⟩) hb).trans a0
        have d1 := (hbw.cell (p := ⟨b, off + j * 3 + 1, none⟩) hb).trans a1
        have d2 := (hbw.cell (p := ⟨b, off + j * 3 + 2, none⟩) hb).trans a2
        have hn := hall _ (List.mem_of_getElem? hxy)
        have HK := Lib.hid (runsCells_succ hxy)
        have hlen := HL.out j
        have bal := box_below wr #[.int .i64 y, .int .i64 f, .int .i64 t] 115
        have bx := hbw.trans (bal.mono hbs)
        have hs := rowsStep_any (runsCells (L.take j)) _ w.heap.size y f t _ (hown.below bal) bx.size (by omega) hn
        rw [← HK.out] at hs
        clear hxy a0 a1 a2 hn
        go_wp2_with fail
        refine hs.mono ?_
        rintro e w2 ⟨v2, rfl, o2, b2⟩
        have bx2 := bx.trans b2
        go_wp2
        go_roundw
        case rel => exact ⟨j + 1, by omega, by go_num, o2, bx2⟩
        case measure => simp [intOf]; omega
      · obtain rfl : j = L.length := by omega
        rw [List.take_length] at hown
        go_wp2
        go_ret
        exact ⟨_, rfl, hown, hbw⟩
theorem rowsOkI_pic {p : List Sp} (h : picB p = false) : rowsOk p = false := by unfold rowsOk; rw [h]; rfl
theorem rowsOkI_yes {p : List Sp} (h : picB p = true) : rowsOk p = picB (rowsL p) := by unfold rowsOk; rw [h, Bool.true_and]
set_option maxRecDepth 100000 in
theorem implRows_any (ps : List Sp) (v : Value) (w : World) (h : Reads w w.heap.size v ps) : Calls Tryz.prog 89 #[v] w (Gives2' (rowsR ps) (rowsOk ps) w) := by
  obtain ⟨A, c, rfl, hc, hm⟩ := h.slice
  rcases hp : picB ps with _ | _
  · have e := rowsOkI_pic hp
    rw [rowsR_no e, e]
    clear e
    go_enter Tryz.func89, Tryz.ntmps89
    go_wp2_with fail
    refine (gives_is hp (implPicture_any ps _ _ h)).mono ?_
    rintro e w1 ⟨rfl, b1⟩
    go_wp2
    go_ret2
    exact ⟨_, rfl, Owns.nil _ _, b1⟩
  have HP := Lib.hid hp
  have HC := Lib.hid (runs_cells hp)
  have HA := Lib.hid (And.intro (runs_len hp) (runs_all hp))
  rcases hq : picB (rowsL ps) with _ | _
  all_goals
    have HQ := Lib.hid hq
    have HE := Lib.hid ((rowsOkI_yes hp).trans hq)
    clear hq hp
    go_enter Tryz.func89, Tryz.ntmps89
    go_wp2_with fail
    refine (gives_is HP.out (implPicture_any ps _ _ h)).mono ?_
    rintro e w1 ⟨rfl, b1⟩
    go_wp2_with fail
    refine (runsOf_any ps _ _ (h.kept b1) HP.out).mono ?_
    rintro e w2 ⟨v2, rfl, o2, b2⟩
    have bb := below_step b1 b2
    go_wp2_with fail
    refine (foldRows_any (runsL ps) _ _ o2.reads HA.out.1 HA.out.2).mono ?_
    rintro e w3 ⟨v3, rfl, o3, b3⟩
    rw [HC.out] at o3
    have bb3 := below_step bb b3
    clear o2 b1 b2
  · go_wp2_with fail
    refine (told_no HQ.out o3).mono ?_
    rintro e w4 ⟨rfl, b4⟩
    go_wp2
    go_ret2
    exact ⟨_, by rw [HE.out]; rfl, by rw [rowsR_no HE.out]; exact Owns.nil _ _, below_step bb3 b4⟩
  · go_wp2_with fail
    refine (told_yes HQ.out o3).mono ?_
    rintro e w4 ⟨rfl, b4⟩
    go_wp2
    go_ret2
    exact ⟨_, by rw [HE.out]; rfl, by rw [rowsR_yes HE.out]; exact (o3.below b4).base bb.size, below_step bb3 b4⟩
end Go.Proofs.YtkiidmdgdjphjaaGreat
