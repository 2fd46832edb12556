/- l1Put: a list in order with a further spot, in new memory or as it was. No conditions but those typed. -/
import Derived.Test.YtpdnakiilhohdaaDoorHas
namespace Go.Proofs.YtpdnakiilhohdaaDoor
open Go.RowKit Go.Sort

theorem cell_base {w : World} {p : Addr} {v : Value} (h : ∀ d os, (grow (redrawn w d) os).cell? p = some v) : w.cell? p = some v := by
  have := h w.drawn #[]
  rwa [grow_empty] at this

theorem atOf_step {ps : List Sp} {a x : Sp} {k : Nat} (h0 : 0 < k) (hx : ps[k - 1]? = some x) (hl : Lt a x) : atOf ps a k = atOf ps a (k - 1) := by
  obtain ⟨j, rfl⟩ : ∃ j, k = j + 1 := ⟨k - 1, by omega⟩
  have : ps.getD j (0, 0) = x := by rw [List.getD_eq_getElem?_getD]; simp at hx; rw [hx]; rfl
  simp only [Nat.add_sub_cancel]
  conv => lhs; unfold atOf
  rw [this, if_pos hl]
theorem atOf_stop {ps : List Sp} {a x : Sp} {k : Nat} (h0 : 0 < k) (hx : ps[k - 1]? = some x) (hl : ¬ Lt a x) : atOf ps a k = k := by
  obtain ⟨j, rfl⟩ : ∃ j, k = j + 1 := ⟨k - 1, by omega⟩
  have : ps.getD j (0, 0) = x := by rw [List.getD_eq_getElem?_getD]; simp at hx; rw [hx]; rfl
  unfold atOf
  rw [this, if_neg hl]
theorem put_same {ps : List Sp} {a : Sp} {k : Nat} (hk : atOf ps a ps.length = k) (h0 : 0 < k) (hx : ps[k - 1]? = some a) : put ps a = ps := by
  unfold put
  simp only []
  rw [hk, if_pos ⟨h0, by rw [List.getD_eq_getElem?_getD, hx]; rfl⟩]
theorem put_new {ps : List Sp} {a : Sp} {k : Nat} (hk : atOf ps a ps.length = k) (h : ∀ x, 0 < k → ps[k - 1]? = some x → x ≠ a) (hl : k ≤ ps.length) : put ps a = ps.take k ++ a :: ps.drop k := by
  unfold put
  simp only []
  rw [hk, if_neg]
  rintro ⟨h0, e⟩
  exact h _ h0 (getD_some (by omega)) e

set_option maxHeartbeats 800000 in
theorem l1Put_any (ps : List Sp) (v : Value) (ax ay : Int) (base : Nat) (w : World) (ho : Owns w base v ps) (hbase : base ≤ w.heap.size) (hl : ps.length ≤ 100000) :
    Calls Tryd.prog 51 #[v, .agg #[.int .i64 ax, .int .i64 ay]] w fun e w' => ∃ v', e = .returned v' ∧ Owns w' base v' (put ps (ax, ay)) ∧ Below w.heap.size w w' := by
  rcases ho.parts with ⟨rfl, rfl⟩ | ⟨b, off, c, rfl, hc, hm, hb, hcell⟩
  · go_enter Tryd.func51, Tryd.ntmps51
    go_wp2
    have hb0 := box_below w #[.int .i64 ax, .int .i64 ay] 58
    have hz0 : w.heap.size ≤ (w.alloc (.cells #[.int .i64 ax, .int .i64 ay] 58)).heap.size := by simp
    have a0 : (w.alloc (.cells #[.int .i64 ax, .int .i64 ay] 58)).cell? ⟨w.heap.size, 0, none⟩ = some (.int .i64 ax) := by simp [go_sem]
    have a1 : (w.alloc (.cells #[.int .i64 ax, .int .i64 ay] 58)).cell? ⟨w.heap.size, 1, none⟩ = some (.int .i64 ay) := by simp [go_sem]
    obtain ⟨W, hW⟩ : ∃ W, W = w.alloc (.cells #[.int .i64 ax, .int .i64 ay] 58) := ⟨_, rfl⟩
    have hWs : w.heap.size + 1 ≤ W.heap.size := by rw [hW]; simp
    rw [← hW] at hb0 a0 a1 ⊢
    clear hW hz0
    refine wp_loop_rounds 1 ?_
    rw [rounds_succ]
    go_wp2
    refine wp_region_quiet_below (by kernel_rfl) (by kernel_rfl) ?_
    repeat (go_big_quiet_step (first | fail))
    refine wpQuiet_nil ?_
    intro w1 hw'
    obtain ⟨⟨dq, osq⟩, hw''⟩ := hw'
    have hq1 : Below W.heap.size W w1 := by rw [hw'']; exact below_regrown _ _ _
    clear hw'' dq osq
    have q2 := (hq1.cell (p := ⟨w.heap.size, 0, none⟩) (show w.heap.size < W.heap.size by omega)).trans a0
    have q3 := (hq1.cell (p := ⟨w.heap.size, 1, none⟩) (show w.heap.size < W.heap.size by omega)).trans a1
    go_wp2
    refine wp_region_quiet_below (by kernel_rfl) (by kernel_rfl) ?_
    repeat (go_big_quiet_step (first | fail))
    refine wpQuiet_nil ?_
    intro w2 hw'
    obtain ⟨⟨dq, osq⟩, hw''⟩ := hw'
    have hq2 : Below w1.heap.size w1 w2 := by rw [hw'']; exact below_regrown _ _ _
    clear hw'' dq osq
    have hs1 := hq1.size
    have hs2 := hq2.size
    have hB2 : Below w.heap.size w w2 := below_step hb0 (below_step hq1 hq2)
    have q0 := (hq2.cell (p := ⟨w.heap.size, 0, none⟩) (show w.heap.size < w1.heap.size by omega)).trans q2
    have q1 := (hq2.cell (p := ⟨w.heap.size, 1, none⟩) (show w.heap.size < w1.heap.size by omega)).trans q3
    clear q2 q3 a0 a1
    have hw2 : w.heap.size + 1 ≤ w2.heap.size := by omega
    have oE := Owns.empty w2 (w.heap.size + 1) hw2
    have bE : Below (w.heap.size + 1) w2 (w2.alloc (.cells #[] 58)) := (Below.refl _ _).alloc hw2 _
    go_wp2_with (at_builtin; go_loud (refine wpList_append_spots (qs := []) oE (Reads.nil _ 0) (by simp) (by simp; omega) rfl (.tmp 34) (.tmp 37) rfl rfl rfl ?_))
    intro v1 w3 o3 g3 _
    have z4 := g3.size
    simp only [World.size_alloc] at z4
    have bF : Below (w.heap.size + 1) w2 w3 := oE.below_app bE (by simp; omega) g3
    have y0 := (bF.cell (p := ⟨w.heap.size, 0, none⟩) (Nat.lt_succ_self _)).trans q0
    have y1 := (bF.cell (p := ⟨w.heap.size, 1, none⟩) (Nat.lt_succ_self _)).trans q1
    have bE3 : Below (w.heap.size + 1) w2 (w3.alloc (.cells #[.int .i64 ax, .int .i64 ay] 58)) := bF.alloc (by omega) _
    have o3' := o3.below ((Below.refl _ _).alloc (Nat.le_refl _) (.cells #[.int .i64 ax, .int .i64 ay] 58))
    go_wp2_with (at_builtin; refine wpList_append_spots (qs := [(ax, ay)]) o3' (Reads.one (g := w3.heap.size) (by simp [go_sem]) (by simp [go_sem])) (by simp) (by simp; omega) rfl (.tmp 39) (.tmp 41) rfl rfl rfl ?_)
    intro v2 w4 o4 g4 _
    have z5 := g4.size
    simp only [World.size_alloc] at z5
    have bG : Below (w.heap.size + 1) w2 w4 := o3'.below_app bE3 (by simp; omega) g4
    go_wp2_with (at_builtin; refine wpList_append_spots (qs := []) o4 (Reads.nil _ 0) (by simp) (by omega) rfl (.tmp 43) (.tmp 46) rfl rfl rfl ?_)
    intro v3 w5 o5 g5 _
    have bH : Below (w.heap.size + 1) w2 w5 := o4.below_app bG (by omega) g5
    go_wp2
    go_ret
    exact ⟨_, rfl, o5.base (show base ≤ w.heap.size + 1 by omega), hB2.trans (bH.mono (Nat.le_succ _))⟩
  · unfold maxLen at hm
    go_enter Tryd.func51, Tryd.ntmps51
    go_wp2
    have hb0 := box_below w #[.int .i64 ax, .int .i64 ay] 58
    obtain ⟨W, hW⟩ : ∃ W, W = w.alloc (.cells #[.int .i64 ax, .int .i64 ay] 58) := ⟨_, rfl⟩
    rw [← hW] at hb0 ⊢
    have hWs : W.heap.size = w.heap.size + 1 := by rw [hW]; simp
    have hWs2 : w.heap.size + 1 ≤ W.heap.size := by omega
    clear hWs
    have HW := Lib.hid hW
    clear hW
    go_loopw [5] (fun l wr => ∃ k : Nat, k ≤ ps.length ∧ l = .int .i64 k ∧ atOf ps (ax, ay) ps.length = atOf ps (ax, ay) k ∧ Below W.heap.size W wr) (fun l _ => (intOf l).toNat)
    case atStart => exact ⟨ps.length, Nat.le_refl _, rfl, rfl, Below.refl _ _⟩
    case round =>
      obtain ⟨k, hk, rfl, hat, hbw⟩ := hrel
      have hbs : W.heap.size ≤ wr.heap.size := hbw.size
      have HA := Lib.hid hat
      clear hat
      have hW := HW.out
      have a0 := (hbw.cell (p := ⟨w.heap.size, 0, none⟩) (by simp [hW])).trans (show _ = some (Value.int .i64 ax) by rw [hW]; simp [go_sem])
      have a1 := (hbw.cell (p := ⟨w.heap.size, 1, none⟩) (by simp [hW])).trans (show _ = some (Value.int .i64 ay) by rw [hW]; simp [go_sem])
      have g0 := cell_regrown a0
      have g1 := cell_regrown a1
      clear hW
      by_cases h1 : 0 < k
      · have hd : decide (0 < k) = true := decide_eq_true h1
        obtain ⟨⟨x, y⟩, hxy⟩ : ∃ a, ps[k - 1]? = some a := ⟨_, List.getElem?_eq_getElem (by omega)⟩
        obtain ⟨c0, c1⟩ := hcell (k - 1) x y hxy
        have f0 := cell_regrown ((hbw.cell (p := ⟨b, off + (k - 1) * 2, none⟩) (show b < W.heap.size by omega)).trans ((hb0.cell (p := ⟨b, off + (k - 1) * 2, none⟩) hb).trans c0))
        have f1 := cell_regrown ((hbw.cell (p := ⟨b, off + (k - 1) * 2 + 1, none⟩) (show b < W.heap.size by omega)).trans ((hb0.cell (p := ⟨b, off + (k - 1) * 2 + 1, none⟩) hb).trans c1))
        clear c0 c1
        by_cases hlt : Lt (ax, ay) (x, y)
        · have fl := ltB_iff.2 hlt
          have hH := Lib.hid (atOf_step h1 hxy hlt)
          clear hxy hlt
          go_wp2
          refine wp_region_quiet_below (by kernel_rfl) (by kernel_rfl) ?_
          repeat (go_big_quiet_step (first | (go_at_call 63; exact gives_regrown (fun w1 _ => gives_is fl (l1Before_any ax ay x y w1)) _ _)))
          refine wpQuiet_nil ?_
          intro _ hw'
          obtain ⟨⟨dq, osq⟩, hw''⟩ := hw'
          subst hw''
          go_wp2
          go_roundw
          case rel => exact ⟨k - 1, by omega, by go_num, HA.out.trans hH.out, hbw.trans ((below_regrown _ _ _).mono hbs)⟩
          case measure => simp [intOf]; omega
        · have fl := ltB_no.2 hlt
          have hH := Lib.hid (HA.out.trans (atOf_stop h1 hxy hlt))
          by_cases he : (x, y) = (ax, ay)
          · have hP := Lib.hid (put_same hH.out h1 (by rw [hxy, he]))
            obtain ⟨rfl, rfl⟩ := Prod.mk.inj he
            clear hxy hlt he
            go_wp2
            refine wp_region_quiet_below (by kernel_rfl) (by kernel_rfl) ?_
            repeat (go_big_quiet_step (first | (go_at_call 63; exact gives_regrown (fun w1 _ => gives_is fl (l1Before_any _ _ x y w1)) _ _)))
            refine wpQuiet_nil ?_
            intro w1 hw'
            obtain ⟨⟨dq, osq⟩, hw''⟩ := hw'
            have hq1 : Below wr.heap.size wr w1 := by rw [hw'']; exact below_regrown _ _ _
            clear hw'' dq osq
            have p0 := cell_regrown ((hq1.cell (p := ⟨b, off + (k - 1) * 2, none⟩) (show b < wr.heap.size by omega)).trans (cell_base f0))
            have p1 := cell_regrown ((hq1.cell (p := ⟨b, off + (k - 1) * 2 + 1, none⟩) (show b < wr.heap.size by omega)).trans (cell_base f1))
            have p2 := cell_regrown ((hq1.cell (p := ⟨w.heap.size, 0, none⟩) (show w.heap.size < wr.heap.size by omega)).trans a0)
            have p3 := cell_regrown ((hq1.cell (p := ⟨w.heap.size, 1, none⟩) (show w.heap.size < wr.heap.size by omega)).trans a1)
            clear f0 f1 g0 g1
            have q2 := (hq1.cell (p := ⟨w.heap.size, 0, none⟩) (show w.heap.size < wr.heap.size by omega)).trans a0
            have q3 := (hq1.cell (p := ⟨w.heap.size, 1, none⟩) (show w.heap.size < wr.heap.size by omega)).trans a1
            go_wp2
            refine wp_region_quiet_below (by kernel_rfl) (by kernel_rfl) ?_
            repeat (go_big_quiet_step (first | fail))
            refine wpQuiet_nil ?_
            intro w2 hw'
            obtain ⟨⟨dq, osq⟩, hw''⟩ := hw'
            have hq2 : Below w1.heap.size w1 w2 := by rw [hw'']; exact below_regrown _ _ _
            clear hw'' dq osq
            have hs1 := hq1.size
            go_wp2
            go_ret
            have hB : Below w.heap.size w w2 := below_step (hb0.trans (hbw.mono (by omega))) (below_step hq1 hq2)
            exact ⟨_, rfl, by rw [hP.out]; exact ho.below hB, hB⟩
          · have hP := Lib.hid (put_new hH.out (fun z _ hz => by rw [hxy] at hz; cases hz; exact he) hk)
            clear hxy hlt
            go_wp2
            refine wp_region_quiet_below (by kernel_rfl) (by kernel_rfl) ?_
            repeat (go_big_quiet_step (first | (go_at_call 63; exact gives_regrown (fun w1 _ => gives_is fl (l1Before_any _ _ x y w1)) _ _)))
            refine wpQuiet_nil ?_
            intro w1 hw'
            obtain ⟨⟨dq, osq⟩, hw''⟩ := hw'
            have hq1 : Below wr.heap.size wr w1 := by rw [hw'']; exact below_regrown _ _ _
            clear hw'' dq osq
            by_cases hxx : x = ax
            · subst hxx
              have hyy : ¬ y = ay := fun e => he (by rw [e])
              clear he
              have p0 := cell_regrown ((hq1.cell (p := ⟨b, off + (k - 1) * 2, none⟩) (show b < wr.heap.size by omega)).trans (cell_base f0))
              have p1 := cell_regrown ((hq1.cell (p := ⟨b, off + (k - 1) * 2 + 1, none⟩) (show b < wr.heap.size by omega)).trans (cell_base f1))
              have p2 := cell_regrown ((hq1.cell (p := ⟨w.heap.size, 0, none⟩) (show w.heap.size < wr.heap.size by omega)).trans a0)
              have p3 := cell_regrown ((hq1.cell (p := ⟨w.heap.size, 1, none⟩) (show w.heap.size < wr.heap.size by omega)).trans a1)
              clear f0 f1 g0 g1
              have q2 := (hq1.cell (p := ⟨w.heap.size, 0, none⟩) (show w.heap.size < wr.heap.size by omega)).trans a0
              have q3 := (hq1.cell (p := ⟨w.heap.size, 1, none⟩) (show w.heap.size < wr.heap.size by omega)).trans a1
              go_wp2
              refine wp_region_quiet_below (by kernel_rfl) (by kernel_rfl) ?_
              repeat (go_big_quiet_step (first | fail))
              refine wpQuiet_nil ?_
              intro w2 hw'
              obtain ⟨⟨dq, osq⟩, hw''⟩ := hw'
              have hq2 : Below w1.heap.size w1 w2 := by rw [hw'']; exact below_regrown _ _ _
              clear hw'' dq osq
              have hs1 := hq1.size
              have hB2 : Below w.heap.size w w2 := below_step (hb0.trans (hbw.mono (by omega))) (below_step hq1 hq2)
              have hs2 := hq2.size
              have r2 := (ho.reads.below hB2).take hk
              have q0 := (hq2.cell (p := ⟨w.heap.size, 0, none⟩) (show w.heap.size < w1.heap.size by omega)).trans q2
              have q1 := (hq2.cell (p := ⟨w.heap.size, 1, none⟩) (show w.heap.size < w1.heap.size by omega)).trans q3
              clear q2 q3 a0 a1
              have hw2 : w.heap.size + 1 ≤ w2.heap.size := by omega
              have oE := Owns.empty w2 (w.heap.size + 1) hw2
              have bE : Below (w.heap.size + 1) w2 (w2.alloc (.cells #[] 58)) := (Below.refl _ _).alloc hw2 _
              go_wp2_with (at_builtin; refine wpList_append_spots (qs := ps.take k) oE (r2.below ((Below.refl _ _).alloc (Nat.le_of_succ_le hw2) _)) (by simp; omega) (by simp; omega) rfl (.tmp 34) (.tmp 37) rfl rfl rfl ?_)
              intro v1 w3 o3 g3 _
              have z4 := g3.size
              simp only [World.size_alloc] at z4
              have bF : Below (w.heap.size + 1) w2 w3 := oE.below_app bE (by simp; omega) g3
              have y0 := (bF.cell (p := ⟨w.heap.size, 0, none⟩) (Nat.lt_succ_self _)).trans q0
              have y1 := (bF.cell (p := ⟨w.heap.size, 1, none⟩) (Nat.lt_succ_self _)).trans q1
              have bE3 : Below (w.heap.size + 1) w2 (w3.alloc (.cells #[.int .i64 x, .int .i64 ay] 58)) := bF.alloc (by omega) _
              have o3' := o3.below ((Below.refl _ _).alloc (Nat.le_refl _) (.cells #[.int .i64 x, .int .i64 ay] 58))
              go_wp2_with (at_builtin; refine wpList_append_spots (qs := [(x, ay)]) o3' (Reads.one (g := w3.heap.size) (by simp [go_sem]) (by simp [go_sem])) (by simp; omega) (by simp; omega) rfl (.tmp 39) (.tmp 41) rfl rfl rfl ?_)
              intro v2 w4 o4 g4 _
              have z5 := g4.size
              simp only [World.size_alloc] at z5
              have bG : Below (w.heap.size + 1) w2 w4 := o3'.below_app bE3 (by simp; omega) g4
              have rp4 : Reads w4 w.heap.size (.slice (some ⟨b, off, none⟩) ps.length c) ps := ho.reads.below (hB2.trans (bG.mono (Nat.le_succ _)))
              have hfin := Lib.hid hP.out
              by_cases hck : c = k
              · have rd := rp4.drop hk (some ⟨b, off, none⟩) (fun h => absurd hck h)
                rw [show ps.length - k = 0 by omega, show c - k = 0 by omega] at rd
                obtain rfl := hck
                go_wp2_with (at_builtin; refine wpList_append_spots (qs := ps.drop c) o4 rd (by simp; omega) (by omega) rfl (.tmp 43) (.tmp 46) rfl rfl rfl ?_)
                intro v3 w5 o5 g5 _
                have bH : Below (w.heap.size + 1) w2 w5 := o4.below_app bG (by omega) g5
                go_wp2
                go_ret
                exact ⟨_, rfl, by rw [hfin.out]; exact o5.base (show base ≤ w.heap.size + 1 by omega), hB2.trans (bH.mono (Nat.le_succ _))⟩
              · have rd := rp4.drop hk (some ⟨b, off + k * 2, none⟩) (fun _ => rfl)
                go_wp2_with (at_builtin; refine wpList_append_spots (qs := ps.drop k) o4 rd (by simp; omega) (by omega) rfl (.tmp 43) (.tmp 46) rfl rfl rfl ?_)
                intro v3 w5 o5 g5 _
                have bH : Below (w.heap.size + 1) w2 w5 := o4.below_app bG (by omega) g5
                go_wp2
                go_ret
                exact ⟨_, rfl, by rw [hfin.out]; exact o5.base (show base ≤ w.heap.size + 1 by omega), hB2.trans (bH.mono (Nat.le_succ _))⟩
            · clear he
              have p0 := cell_regrown ((hq1.cell (p := ⟨b, off + (k - 1) * 2, none⟩) (show b < wr.heap.size by omega)).trans (cell_base f0))
              have p1 := cell_regrown ((hq1.cell (p := ⟨b, off + (k - 1) * 2 + 1, none⟩) (show b < wr.heap.size by omega)).trans (cell_base f1))
              have p2 := cell_regrown ((hq1.cell (p := ⟨w.heap.size, 0, none⟩) (show w.heap.size < wr.heap.size by omega)).trans a0)
              have p3 := cell_regrown ((hq1.cell (p := ⟨w.heap.size, 1, none⟩) (show w.heap.size < wr.heap.size by omega)).trans a1)
              clear f0 f1 g0 g1
              have q2 := (hq1.cell (p := ⟨w.heap.size, 0, none⟩) (show w.heap.size < wr.heap.size by omega)).trans a0
              have q3 := (hq1.cell (p := ⟨w.heap.size, 1, none⟩) (show w.heap.size < wr.heap.size by omega)).trans a1
              go_wp2
              refine wp_region_quiet_below (by kernel_rfl) (by kernel_rfl) ?_
              repeat (go_big_quiet_step (first | fail))
              refine wpQuiet_nil ?_
              intro w2 hw'
              obtain ⟨⟨dq, osq⟩, hw''⟩ := hw'
              have hq2 : Below w1.heap.size w1 w2 := by rw [hw'']; exact below_regrown _ _ _
              clear hw'' dq osq
              have hs1 := hq1.size
              have hB2 : Below w.heap.size w w2 := below_step (hb0.trans (hbw.mono (by omega))) (below_step hq1 hq2)
              have hs2 := hq2.size
              have r2 := (ho.reads.below hB2).take hk
              have q0 := (hq2.cell (p := ⟨w.heap.size, 0, none⟩) (show w.heap.size < w1.heap.size by omega)).trans q2
              have q1 := (hq2.cell (p := ⟨w.heap.size, 1, none⟩) (show w.heap.size < w1.heap.size by omega)).trans q3
              clear q2 q3 a0 a1
              have hw2 : w.heap.size + 1 ≤ w2.heap.size := by omega
              have oE := Owns.empty w2 (w.heap.size + 1) hw2
              have bE : Below (w.heap.size + 1) w2 (w2.alloc (.cells #[] 58)) := (Below.refl _ _).alloc hw2 _
              go_wp2_with (at_builtin; refine wpList_append_spots (qs := ps.take k) oE (r2.below ((Below.refl _ _).alloc (Nat.le_of_succ_le hw2) _)) (by simp; omega) (by simp; omega) rfl (.tmp 34) (.tmp 37) rfl rfl rfl ?_)
              intro v1 w3 o3 g3 _
              have z4 := g3.size
              simp only [World.size_alloc] at z4
              have bF : Below (w.heap.size + 1) w2 w3 := oE.below_app bE (by simp; omega) g3
              have y0 := (bF.cell (p := ⟨w.heap.size, 0, none⟩) (Nat.lt_succ_self _)).trans q0
              have y1 := (bF.cell (p := ⟨w.heap.size, 1, none⟩) (Nat.lt_succ_self _)).trans q1
              have bE3 : Below (w.heap.size + 1) w2 (w3.alloc (.cells #[.int .i64 ax, .int .i64 ay] 58)) := bF.alloc (by omega) _
              have o3' := o3.below ((Below.refl _ _).alloc (Nat.le_refl _) (.cells #[.int .i64 ax, .int .i64 ay] 58))
              go_wp2_with (at_builtin; refine wpList_append_spots (qs := [(ax, ay)]) o3' (Reads.one (g := w3.heap.size) (by simp [go_sem]) (by simp [go_sem])) (by simp; omega) (by simp; omega) rfl (.tmp 39) (.tmp 41) rfl rfl rfl ?_)
              intro v2 w4 o4 g4 _
              have z5 := g4.size
              simp only [World.size_alloc] at z5
              have bG : Below (w.heap.size + 1) w2 w4 := o3'.below_app bE3 (by simp; omega) g4
              have rp4 : Reads w4 w.heap.size (.slice (some ⟨b, off, none⟩) ps.length c) ps := ho.reads.below (hB2.trans (bG.mono (Nat.le_succ _)))
              have hfin := Lib.hid hP.out
              by_cases hck : c = k
              · have rd := rp4.drop hk (some ⟨b, off, none⟩) (fun h => absurd hck h)
                rw [show ps.length - k = 0 by omega, show c - k = 0 by omega] at rd
                obtain rfl := hck
                go_wp2_with (at_builtin; refine wpList_append_spots (qs := ps.drop c) o4 rd (by simp; omega) (by omega) rfl (.tmp 43) (.tmp 46) rfl rfl rfl ?_)
                intro v3 w5 o5 g5 _
                have bH : Below (w.heap.size + 1) w2 w5 := o4.below_app bG (by omega) g5
                go_wp2
                go_ret
                exact ⟨_, rfl, by rw [hfin.out]; exact o5.base (show base ≤ w.heap.size + 1 by omega), hB2.trans (bH.mono (Nat.le_succ _))⟩
              · have rd := rp4.drop hk (some ⟨b, off + k * 2, none⟩) (fun _ => rfl)
                go_wp2_with (at_builtin; refine wpList_append_spots (qs := ps.drop k) o4 rd (by simp; omega) (by omega) rfl (.tmp 43) (.tmp 46) rfl rfl rfl ?_)
                intro v3 w5 o5 g5 _
                have bH : Below (w.heap.size + 1) w2 w5 := o4.below_app bG (by omega) g5
                go_wp2
                go_ret
                exact ⟨_, rfl, by rw [hfin.out]; exact o5.base (show base ≤ w.heap.size + 1 by omega), hB2.trans (bH.mono (Nat.le_succ _))⟩
      · have hd : decide (0 < k) = false := decide_eq_false h1
        have hk0 : atOf ps (ax, ay) k = k := by rw [show k = 0 by omega]; rfl
        have hP := Lib.hid (put_new (HA.out.trans hk0) (fun z h0 => absurd h0 h1) hk)
        clear hk0
        go_wp2
        refine wp_region_quiet_below (by kernel_rfl) (by kernel_rfl) ?_
        repeat (go_big_quiet_step (first | fail))
        refine wpQuiet_nil ?_
        intro w1 hw'
        obtain ⟨⟨dq, osq⟩, hw''⟩ := hw'
        have hq1 : Below wr.heap.size wr w1 := by rw [hw'']; exact below_regrown _ _ _
        clear hw'' dq osq
        have q2 := (hq1.cell (p := ⟨w.heap.size, 0, none⟩) (show w.heap.size < wr.heap.size by omega)).trans a0
        have q3 := (hq1.cell (p := ⟨w.heap.size, 1, none⟩) (show w.heap.size < wr.heap.size by omega)).trans a1
        go_wp2
        refine wp_region_quiet_below (by kernel_rfl) (by kernel_rfl) ?_
        repeat (go_big_quiet_step (first | fail))
        refine wpQuiet_nil ?_
        intro w2 hw'
        obtain ⟨⟨dq, osq⟩, hw''⟩ := hw'
        have hq2 : Below w1.heap.size w1 w2 := by rw [hw'']; exact below_regrown _ _ _
        clear hw'' dq osq
        have hs1 := hq1.size
        have hB2 : Below w.heap.size w w2 := below_step (hb0.trans (hbw.mono (by omega))) (below_step hq1 hq2)
        have hs2 := hq2.size
        have r2 := (ho.reads.below hB2).take hk
        have q0 := (hq2.cell (p := ⟨w.heap.size, 0, none⟩) (show w.heap.size < w1.heap.size by omega)).trans q2
        have q1 := (hq2.cell (p := ⟨w.heap.size, 1, none⟩) (show w.heap.size < w1.heap.size by omega)).trans q3
        clear q2 q3 a0 a1
        have hw2 : w.heap.size + 1 ≤ w2.heap.size := by omega
        have oE := Owns.empty w2 (w.heap.size + 1) hw2
        have bE : Below (w.heap.size + 1) w2 (w2.alloc (.cells #[] 58)) := (Below.refl _ _).alloc hw2 _
        go_wp2_with (at_builtin; refine wpList_append_spots (qs := ps.take k) oE (r2.below ((Below.refl _ _).alloc (Nat.le_of_succ_le hw2) _)) (by simp; omega) (by simp; omega) rfl (.tmp 34) (.tmp 37) rfl rfl rfl ?_)
        intro v1 w3 o3 g3 _
        have z4 := g3.size
        simp only [World.size_alloc] at z4
        have bF : Below (w.heap.size + 1) w2 w3 := oE.below_app bE (by simp; omega) g3
        have y0 := (bF.cell (p := ⟨w.heap.size, 0, none⟩) (Nat.lt_succ_self _)).trans q0
        have y1 := (bF.cell (p := ⟨w.heap.size, 1, none⟩) (Nat.lt_succ_self _)).trans q1
        have bE3 : Below (w.heap.size + 1) w2 (w3.alloc (.cells #[.int .i64 ax, .int .i64 ay] 58)) := bF.alloc (by omega) _
        have o3' := o3.below ((Below.refl _ _).alloc (Nat.le_refl _) (.cells #[.int .i64 ax, .int .i64 ay] 58))
        go_wp2_with (at_builtin; refine wpList_append_spots (qs := [(ax, ay)]) o3' (Reads.one (g := w3.heap.size) (by simp [go_sem]) (by simp [go_sem])) (by simp; omega) (by simp; omega) rfl (.tmp 39) (.tmp 41) rfl rfl rfl ?_)
        intro v2 w4 o4 g4 _
        have z5 := g4.size
        simp only [World.size_alloc] at z5
        have bG : Below (w.heap.size + 1) w2 w4 := o3'.below_app bE3 (by simp; omega) g4
        have rp4 : Reads w4 w.heap.size (.slice (some ⟨b, off, none⟩) ps.length c) ps := ho.reads.below (hB2.trans (bG.mono (Nat.le_succ _)))
        have hfin := Lib.hid hP.out
        by_cases hck : c = k
        · have rd := rp4.drop hk (some ⟨b, off, none⟩) (fun h => absurd hck h)
          rw [show ps.length - k = 0 by omega, show c - k = 0 by omega] at rd
          obtain rfl := hck
          go_wp2_with (at_builtin; refine wpList_append_spots (qs := ps.drop c) o4 rd (by simp; omega) (by omega) rfl (.tmp 43) (.tmp 46) rfl rfl rfl ?_)
          intro v3 w5 o5 g5 _
          have bH : Below (w.heap.size + 1) w2 w5 := o4.below_app bG (by omega) g5
          go_wp2
          go_ret
          exact ⟨_, rfl, by rw [hfin.out]; exact o5.base (show base ≤ w.heap.size + 1 by omega), hB2.trans (bH.mono (Nat.le_succ _))⟩
        · have rd := rp4.drop hk (some ⟨b, off + k * 2, none⟩) (fun _ => rfl)
          go_wp2_with (at_builtin; refine wpList_append_spots (qs := ps.drop k) o4 rd (by simp; omega) (by omega) rfl (.tmp 43) (.tmp 46) rfl rfl rfl ?_)
          intro v3 w5 o5 g5 _
          have bH : Below (w.heap.size + 1) w2 w5 := o4.below_app bG (by omega) g5
          go_wp2
          go_ret
          exact ⟨_, rfl, by rw [hfin.out]; exact o5.base (show base ≤ w.heap.size + 1 by omega), hB2.trans (bH.mono (Nat.le_succ _))⟩
end Go.Proofs.YtpdnakiilhohdaaDoor
