/- RadiusAt and CentresOf of the program. No conditions but those typed. -/
import Derived.Test.YtdfpgfnfoippmaaRadI
import Derived.Test.YtdfpgfnfoippmaaCents
import Derived.Test.YtdfpgfnfoippmaaPicWalk
import Derived.Deep.RegionHeld3
namespace Go.Proofs.Ytdfpgfnfoippmaa
open Go.RowKit Go.Sort

theorem implHas_lit {b : Bool} {ps : List Sp} {v : Value} {ax ay : Int} {w : World} (hk : hasB ps (ax, ay) = b) (h : Reads w w.heap.size v ps) : Calls Try.prog 15 #[v, .agg #[.int .i64 ax, .int .i64 ay]] w (Gives (.bool b) w) := by
  subst hk; exact implHas_any ps v ax ay w h
theorem nearS_of {a : Sp} (h : InR a) : NearS a := by unfold InR at h; unfold NearS; omega
set_option maxHeartbeats 800000 in
theorem implRadius_any (ps : List Sp) (v : Value) (ax ay way : Int) (w : World) (h : Reads w w.heap.size v ps) :
    Calls Try.prog 12 #[v, .agg #[.int .i64 ax, .int .i64 ay], .int .i64 way] w (Gives (.int .i64 (radI ps (ax, ay) way)) w) := by
  obtain ⟨A, c, rfl, hc, hm⟩ := h.slice
  unfold maxLen at hm
  rcases h2 : way2 way with _ | _
  · rw [rad_no (show radOk ps (ax, ay) way = false by unfold radOk; rw [h2, Bool.and_false])]
    have b0 := box_below w #[.int .i64 ax, .int .i64 ay] 25
    obtain ⟨W, hW⟩ : ∃ W, W = w.alloc (.cells #[.int .i64 ax, .int .i64 ay] 25) := ⟨_, rfl⟩
    have q0 : W.cell? ⟨w.heap.size, 0, none⟩ = some (.int .i64 ax) := by rw [hW]; simp [go_sem]
    have q1 : W.cell? ⟨w.heap.size, 1, none⟩ = some (.int .i64 ay) := by rw [hW]; simp [go_sem]
    have s0 : w.heap.size < W.heap.size := by rw [hW]; simp
    rw [← hW] at b0
    have hr := h.kept b0
    go_enter Try.func12, Try.ntmps12
    go_wp2_with (first | (rw [← hW]; clear hW) | fail)
    refine (summed_no _ h2).mono ?_
    rintro e w1 ⟨rfl, bn⟩
    go_wp2
    go_ret
    exact ⟨rfl, below_step b0 bn⟩
  rcases h1 : hasB ps (ax, ay) with _ | _
  · rw [rad_no (show radOk ps (ax, ay) way = false by unfold radOk; rw [h1]; rfl)]
    have H1 := Lib.hid h1
    clear h1
    have b0 := box_below w #[.int .i64 ax, .int .i64 ay] 25
    obtain ⟨W, hW⟩ : ∃ W, W = w.alloc (.cells #[.int .i64 ax, .int .i64 ay] 25) := ⟨_, rfl⟩
    have q0 : W.cell? ⟨w.heap.size, 0, none⟩ = some (.int .i64 ax) := by rw [hW]; simp [go_sem]
    have q1 : W.cell? ⟨w.heap.size, 1, none⟩ = some (.int .i64 ay) := by rw [hW]; simp [go_sem]
    have s0 : w.heap.size < W.heap.size := by rw [hW]; simp
    rw [← hW] at b0
    have hr := h.kept b0
    go_enter Try.func12, Try.ntmps12
    go_wp2_with (first | (rw [← hW]; clear hW) | fail)
    refine (summed_yes _ h2).mono ?_
    rintro e w1 ⟨rfl, bn⟩
    have q0 := (bn.cell (p := ⟨w.heap.size, 0, none⟩) s0).trans q0
    have q1 := (bn.cell (p := ⟨w.heap.size, 1, none⟩) s0).trans q1
    have s0 := Nat.lt_of_lt_of_le s0 bn.size
    have b0 := below_step b0 bn
    have hr := hr.kept bn
    clear bn
    clear h2
    go_wp2_with fail
    refine (implHas_lit H1.out hr).mono ?_
    rintro e w2 ⟨rfl, bn⟩
    go_wp2
    go_ret
    exact ⟨rfl, below_step b0 bn⟩
  · have hk : radOk ps (ax, ay) way = true := by unfold radOk; rw [h1, h2]; rfl
    have k := radOk_iff.1 hk
    have HE := Lib.hid (rad_yes hk)
    have hpic := picB_pic k.pp
    have hn := nearS_of (hpic.2.1 _ k.pa)
    have hs := hpic.2.2
    have hl := hpic.1
    have H1 := Lib.hid h1
    have H2 := Lib.hid h2
    have HNN := Lib.hid hn
    clear h1 hk k hpic hn
    have b0 := box_below w #[.int .i64 ax, .int .i64 ay] 25
    obtain ⟨W, hW⟩ : ∃ W, W = w.alloc (.cells #[.int .i64 ax, .int .i64 ay] 25) := ⟨_, rfl⟩
    have q0 : W.cell? ⟨w.heap.size, 0, none⟩ = some (.int .i64 ax) := by rw [hW]; simp [go_sem]
    have q1 : W.cell? ⟨w.heap.size, 1, none⟩ = some (.int .i64 ay) := by rw [hW]; simp [go_sem]
    have s0 : w.heap.size < W.heap.size := by rw [hW]; simp
    rw [← hW] at b0
    have hr := h.kept b0
    go_enter Try.func12, Try.ntmps12
    go_wp2_with (first | (rw [← hW]; clear hW) | fail)
    refine (summed_yes _ h2).mono ?_
    rintro e w1 ⟨rfl, bn⟩
    have q0 := (bn.cell (p := ⟨w.heap.size, 0, none⟩) s0).trans q0
    have q1 := (bn.cell (p := ⟨w.heap.size, 1, none⟩) s0).trans q1
    have s0 := Nat.lt_of_lt_of_le s0 bn.size
    have b0 := below_step b0 bn
    have hr := hr.kept bn
    clear bn
    clear h2
    go_wp2_with fail
    refine (implHas_lit H1.out hr).mono ?_
    rintro e w2 ⟨rfl, bn⟩
    have q0 := (bn.cell (p := ⟨w.heap.size, 0, none⟩) s0).trans q0
    have q1 := (bn.cell (p := ⟨w.heap.size, 1, none⟩) s0).trans q1
    have s0 := Nat.lt_of_lt_of_le s0 bn.size
    have b0 := below_step b0 bn
    have hr := hr.kept bn
    clear bn
    have b0 := b0.drew
    have q0 : w2.drew.cell? ⟨w.heap.size, 0, none⟩ = some (.int .i64 ax) := q0
    have q1 : w2.drew.cell? ⟨w.heap.size, 1, none⟩ = some (.int .i64 ay) := q1
    have s0 : w.heap.size < w2.drew.heap.size := s0
    go_wp2
    go_region_held3 (fun w' => w'.cell? ⟨w.heap.size, 0, none⟩ = some (.int .i64 ax) ∧ w'.cell? ⟨w.heap.size, 1, none⟩ = some (.int .i64 ay)) (refine ⟨?_, ?_⟩ <;> with_reducible assumption)
      (first
        | (go_at_call 46; refine (radiusIn_any _ _ _ way _).mono ?_; rintro e w3 ⟨Pb, Bl, M, T, rfl, hMw, hM, hB, b3⟩; have q0 := (b3.cell (p := ⟨w.heap.size, 0, none⟩) s0).trans q0; have q1 := (b3.cell (p := ⟨w.heap.size, 1, none⟩) s0).trans q1; have bb := below_step b0 b3; have hwM : w.heap.size < M := Nat.lt_of_lt_of_le s0 hMw; have rp := (h.below bb).more (Nat.le_of_lt hwM))
        | (go_at_call 76; refine (radAt_any ps _ Pb Bl M T way ax ay _ H2.out hM hB rp hs hl HNN.out).mono ?_; rintro e w4 ⟨rfl, hM4, k4⟩; have q0 := k4.cell (Nat.ne_of_lt hwM) q0; have q1 := k4.cell (Nat.ne_of_lt hwM) q1))
    all_goals
      go_wp2
      go_ret
      exact ⟨ret_int HE.out.symm, bb.trans (k4.below (Nat.le_of_lt hwM) bb.size)⟩

/-! ### the centres of a picture -/
theorem keep3 {w : World} {g a b c k o : Nat} {x y z v : Value} (h : k ≠ g) (hc : w.cell? ⟨k, o, none⟩ = some v) : (((w.setCell ⟨g, a, none⟩ x).setCell ⟨g, b, none⟩ y).setCell ⟨g, c, none⟩ z).cell? ⟨k, o, none⟩ = some v :=
  keep1 h (keep1 h (keep1 h hc))
theorem Kept.apart {way : Int} {M g : Nat} {w w' : World} {r : Int} {v : Value} {cs : Array Value} {m : Nat × Nat} (h : Kept way M w r v) (hg : w.heap[g]? = some (.cells cs 38 m)) (k : w.grownBy w' (some g)) : Kept way M w' r v := h.imp id fun h =>
  h.grown k (by
    rcases h.2 with ⟨rfl, _⟩ | ⟨g', cap, cur, rfl, _, hg', _⟩
    · exact .inl rfl
    · refine .inr fun e => ?_
      have e : some g' = some g := e
      injection e with e
      subst e
      rw [hg] at hg'
      injection hg' with hg'
      injection hg' with _ ht
      exact absurd ht (by decide))
/-- a centre is stored into a slice of the call's own: the maker of balls is as it was -/
theorem Making.apart {M T g : Nat} {way : Int} {w w' : World} {cs : Array Value} {m : Nat × Nat} (h : Making M T way w) (hg : w.heap[g]? = some (.cells cs 38 m)) (k : w.grownBy w' (some g)) (hM : M ≠ g) (hT : T ≠ g) : Making M T way w' := by
  obtain ⟨v0, v1, v2, v3, hr, h0, h1, h2, h3⟩ := h.row
  exact ⟨Nat.lt_of_lt_of_le h.m k.size, Nat.lt_of_lt_of_le h.t k.size, h.ne, ⟨v0, v1, v2, v3, (k.block M h.m fun e => hM (Option.some.inj e)).trans hr, h0.apart hg k, h1.apart hg k, h2.apart hg k, h3.apart hg k⟩, But.cell (M := g) k hT h.tell⟩
theorem RadBoxes.apart {Pb Bl M T g : Nat} {v : Value} {w w' : World} (h : RadBoxes Pb Bl M T v w) (k : But g w w') (hg : Pb ≠ g ∧ Bl ≠ g) : RadBoxes Pb Bl M T v w' :=
  ⟨Nat.lt_of_lt_of_le h.p k.size, Nat.lt_of_lt_of_le h.b k.size, h.pM, h.bM, k.cell hg.1 h.pc, k.cell hg.2 h.bc⟩
theorem COwns.row {w : World} {base g n cap : Nat} {l : List Cn} (h : COwns w base (.slice (some ⟨g, 0, none⟩) n cap) l) : ∃ cs, w.heap[g]? = some (.cells cs 38 (0, 0)) := by
  rcases h.2 with ⟨e, _⟩ | ⟨g', cap', cur, e, _, hg, _⟩
  · cases e
  · cases e; exact ⟨_, hg⟩
theorem set3_but (w : World) (g i j l : Nat) (x y z : Value) : But g w (((w.setCell ⟨g, i, none⟩ x).setCell ⟨g, j, none⟩ y).setCell ⟨g, l, none⟩ z) :=
  ((setCell_but _ _ _ _).trans (setCell_but _ _ _ _)).trans (setCell_but _ _ _ _)
set_option maxRecDepth 100000 in
set_option maxHeartbeats 1600000 in
theorem implCentres_any (ps : List Sp) (v : Value) (way : Int) (w : World) (h : Reads w w.heap.size v ps) :
    Calls Try.prog 17 #[v, .int .i64 way] w (GivesC (centresL ps way) w) := by
  obtain ⟨A, c, rfl, hc, hm, hA, hr⟩ := h.is
  unfold maxLen at hm
  rcases h2 : way2 way with _ | _
  · rw [centres_no (by rw [h2, Bool.and_false])]
    go_enter Try.func17, Try.ntmps17
    go_wp2_with fail
    refine (summed_no _ h2).mono ?_
    rintro e w1 ⟨rfl, b1⟩
    go_wp2
    go_ret
    exact ⟨_, rfl, COwns.nil _ _, b1⟩
  rcases hp : picB ps with _ | _
  · rw [centres_no (by rw [hp]; rfl)]
    have HP := Lib.hid hp
    clear hp
    go_enter Try.func17, Try.ntmps17
    go_wp2_with fail
    refine (summed_yes _ h2).mono ?_
    rintro e w1 ⟨rfl, b1⟩
    clear h2
    go_wp2_with fail
    refine (gives_is HP.out (implPicture_any ps _ _ (h.kept b1))).mono ?_
    rintro e w2 ⟨rfl, b2⟩
    go_wp2
    go_ret
    exact ⟨_, rfl, COwns.nil _ _, below_step b1 b2⟩
  · rw [centres_yes hp h2]
    obtain ⟨L, hL⟩ : ∃ L, L = ps.map fun a => (a, radN ps a way) := ⟨_, rfl⟩
    have hLl : L.length = ps.length := by rw [hL, List.length_map]
    have HLA := Lib.hid (show ∀ (k : Nat) (a : Sp), ps[k]? = some a → L[k]? = some (a, radN ps a way) from fun k a e => by rw [hL, List.getElem?_map, e]; rfl)
    rw [← hL]
    have hpic := picB_pic hp
    have hs := hpic.2.2
    have hl := hpic.1
    have HIN := Lib.hid hpic.2.1
    have HP := Lib.hid hp
    have H2 := Lib.hid h2
    have HLL := Lib.hid hLl
    clear hp hL hLl hpic
    go_enter Try.func17, Try.ntmps17
    go_wp2_with fail
    refine (summed_yes _ h2).mono ?_
    rintro e w1 ⟨rfl, b1⟩
    clear h2
    go_wp2_with fail
    refine (gives_is HP.out (implPicture_any ps _ _ (h.kept b1))).mono ?_
    rintro e w2 ⟨rfl, b2⟩
    go_wp2_with fail
    refine (radiusIn_any _ _ _ way _).mono ?_
    rintro e w3 ⟨Pb, Bl, M, T, rfl, hMw, hM, hB, b3⟩
    have b12 := below_step b1 b2
    have bb := below_step b12 b3
    have hMs := hM.m
    have hTs := hM.t
    have hPs := hB.p
    have hBs := hB.b
    have hwM : w.heap.size ≤ M := Nat.le_trans b12.size hMw
    have rp := (h.below bb).more hwM
    clear b1 b2 b12 b3
    go_wp2_with (at_make; refine wpList_make_cents ps.length (by omega) rfl _ _ rfl _ _ rfl rfl rfl rfl ?_)
    intro w4 ho hg
    have b4 : Below w3.heap.size w3 w4 := (Below.refl _ _).grown hg (Nat.le_refl _) (by simp)
    have hM4 := hM.below b4
    have hB4 := hB.but (But.of b4)
    have rp4 := rp.below (b4.mono (Nat.le_of_lt hMs))
    have bb4 := below_step bb b4
    have s34 : w3.heap.size ≤ w4.heap.size := b4.size
    have HO := Lib.hid ho
    clear ho hg hM hB rp b4
    by_cases h0 : ps.length = 0
    · obtain rfl := List.eq_nil_of_length_eq_zero h0
      have hL0 : L = [] := List.eq_nil_of_length_eq_zero HLL.out
      subst hL0
      have hO := HO.out.base bb.size
      go_wp2
      refine wp_loop_rounds 1 ?_
      rw [rounds_succ]
      go_wp2
      go_ret
      exact ⟨_, rfl, hO, bb4⟩
    · obtain ⟨b, off, rfl, hb, hcell⟩ := hr (by omega)
      go_wp2
      go_loopw [31] (fun i wr => ∃ (k : Nat) (cur : List Cn), k ≤ ps.length ∧ i = .int .i64 k ∧ cur.length = ps.length ∧ AgreeC cur L k ∧ COwns wr w3.heap.size (.slice (some ⟨w3.heap.size, 0, none⟩) ps.length ps.length) cur ∧ Making M T way wr ∧ RadBoxes Pb Bl M T (.slice (some ⟨b, off, none⟩) ps.length c) wr ∧ Below M w4 wr) (fun i _ => ps.length - (intOf i).toNat)
      case atStart => exact ⟨0, _, Nat.zero_le _, rfl, List.length_replicate, fun j hj => by omega, HO.out, hM4, hB4, Below.refl _ _⟩
      case round =>
        clear hM4 hB4
        obtain ⟨k, cur, hk, rfl, hcl, hag, hown, hM, hB, hbw⟩ := hrel
        have hcl1 : cur.length ≤ ps.length := by omega
        have hcl2 : ps.length ≤ cur.length := by omega
        have hCL := Lib.hid hcl
        clear hcl
        by_cases hlt : k < ps.length
        · obtain ⟨⟨x, y⟩, hxy⟩ : ∃ a, ps[k]? = some a := ⟨_, List.getElem?_eq_getElem hlt⟩
          obtain ⟨c0, c1⟩ := hcell k x y hxy
          have HN := Lib.hid (nearS_of (HIN.out _ (List.mem_of_getElem? hxy)))
          have hH := Lib.hid (HLA.out k _ hxy)
          have bbr := bb4.trans (hbw.mono hwM)
          have d0 := (bbr.cell (p := ⟨b, off + k * 2, none⟩) hb).trans c0
          have d1 := (bbr.cell (p := ⟨b, off + k * 2 + 1, none⟩) hb).trans c1
          have hwr : w3.heap.size < wr.heap.size := (hown.lt _ rfl).2
          obtain ⟨wb, hwb⟩ : ∃ wb, wb = wr.alloc (.cells #[.int .i64 x, .int .i64 y] 25) := ⟨_, rfl⟩
          have bal : Below wr.heap.size wr wb := by rw [hwb]; exact box_below _ _ _
          have g0 : wb.drew.cell? ⟨wr.heap.size, 0, none⟩ = some (.int .i64 x) := by rw [hwb]; simp [go_sem]
          have g1 : wb.drew.cell? ⟨wr.heap.size, 1, none⟩ = some (.int .i64 y) := by rw [hwb]; simp [go_sem]
          have bd : Below wr.heap.size wr wb.drew := bal.drew
          have hMwr := hM.m
          have oT := hown.below bd
          have hMd := hM.below bd
          have hBd := hB.but (But.of bd)
          have bM := hbw.trans (bd.mono (Nat.le_of_lt hMwr))
          have rpd := rp4.below bM
          obtain ⟨G, hG⟩ : ∃ G, G = wr.heap.size := ⟨_, rfl⟩
          have nG : G ≠ w3.heap.size := by omega
          have nM : G ≠ M := by omega
          have nL : w3.heap.size ≠ M := by omega
          have m3 : (0 : Int) ≤ (k : Int) := Int.natCast_nonneg _
          have m4 : (k : Int) < (ps.length : Int) := by omega
          have fz := oT.free
          obtain ⟨px, py, pr, _, t0, t1, t2⟩ := oT.there (k := k) (by omega)
          clear c0 c1 hxy
          go_wp2_with fail
          rw [← hwb]
          rw [← hG] at g0 g1 ⊢
          clear hwb hG bal hown hM hB bbr d0 d1 hbw
          go_region_held3 (fun w' => w'.cell? ⟨G, 0, none⟩ = some (.int .i64 x) ∧ w'.cell? ⟨G, 1, none⟩ = some (.int .i64 y)) (first | (refine ⟨?_, ?_⟩ <;> with_reducible assumption) | (refine ⟨keep3 ?_ ?_, keep3 ?_ ?_⟩ <;> with_reducible assumption))
            ((go_at_call 76; refine (radAt_any ps _ Pb Bl M T way x y _ H2.out hMd hBd rpd hs hl HN.out).mono ?_; rintro e w5 ⟨rfl, hM5, k5⟩; have g0 := k5.cell nM g0; have g1 := k5.cell nM g1; have oT := oT.grown k5 (.inr fun e => nL (Option.some.inj e)); have fz := oT.free; obtain ⟨px, py, pr, _, t0, t1, t2⟩ := oT.there (k := k) (by omega); have bM := bM.trans (k5.below (Nat.le_refl M) (Nat.le_of_lt hMd.m)); have hBd := hBd.but k5))
          all_goals
            obtain ⟨cs, hrow⟩ := oT.row
            have bt := set3_but w5 w3.heap.size (k * 3) (k * 3 + 1) (k * 3 + 2) (.int .i64 x) (.int .i64 y) (.int .i64 (radN ps (x, y) way))
            have hM5s := hM5.m
            have hM6 := hM5.apart hrow bt nL.symm (by omega)
            go_wp2
            go_roundw
            case rel => exact ⟨k + 1, cur.set k ((x, y), radN ps (x, y) way), by omega, by go_num, by rw [List.length_set]; exact hCL.out, agreeC_set hag (by omega) hH.out, oT.set k x y _ (by omega), hM6, hBd.apart bt (And.intro (by omega) (by omega)), bM.trans (But.below bt (by omega) (Nat.le_of_lt hM5s))⟩
            case measure => simp [intOf]; omega
        · have hE := Lib.hid (agreeC_all (hCL.out.trans HLL.out.symm) (fun j hj => hag j (by omega)))
          have e := hE.out
          rw [e] at hown
          clear e
          have bbr := bb4.trans (hbw.mono hwM)
          have hO := hown.base bb.size
          go_wp2
          go_ret
          exact ⟨_, rfl, hO, bbr⟩
end Go.Proofs.Ytdfpgfnfoippmaa
