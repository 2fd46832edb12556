/-
  Proved: the law of BoxOf (FnBoxOf) returns true for every code and further code, and both read afterwards as they read before. No conditions.
-/
import Derived.Test.YtjmhmaijfhljlabDraws2
import Derived.Test.YtjmhmaijfhljlabSumS
import Derived.Test.YtjmhmaijfhljlabBoxS
import Derived.Test.YtjmhmaijfhljlabOpen
namespace Go.Proofs.Ytjmhmaijfhljlab.fnBoxOf
open Go.ChangeShapes Go.WideShapes Go.ChangeAt Go.RowKit

theorem impl_is {b : Bool} {ps : List Sp} {lx ly gx gy : Int} {v : Value} {w : World} (hB : boxR ps = ((lx, ly), (gx, gy))) (hk : boxOk ps = b) (h : Reads w w.heap.size v ps) :
    Calls Try.prog 11 #[v] w fun e w' => e = .returned (.tuple #[.agg #[.int .i64 lx, .int .i64 ly], .agg #[.int .i64 gx, .int .i64 gy], .bool b]) ∧ Below w.heap.size w w' := by
  have c := implBox_any ps v w h
  rw [hB, hk] at c
  exact c
theorem spec_is {b : Bool} {ps : List Sp} {lx ly gx gy : Int} {v : Value} {w : World} (hB : boxR ps = ((lx, ly), (gx, gy))) (hk : boxOk ps = b) (h : Reads w w.heap.size v ps) :
    Calls Try.prog 12 #[v] w fun e w' => e = .returned (.tuple #[.agg #[.int .i64 lx, .int .i64 ly], .agg #[.int .i64 gx, .int .i64 gy], .bool b]) ∧ Below w.heap.size w w' := by
  have c := specBox_any ps v w h
  rw [hB, hk] at c
  exact c
theorem sum_is {b : Bool} {p q : List Sp} {v u : Value} {w : World} (hk : sumOk p q = b) (h : Reads w w.heap.size v p) (k : Reads w w.heap.size u q) : Calls Try.prog 15 #[v, u] w (Gives2' (sumR p q) b w) := by
  subst hk; exact implSum_any p q v u w h k
theorem box_parts {ps : List Sp} {lx ly gx gy : Int} (hB : boxR ps = ((lx, ly), (gx, gy))) (hk : boxOk ps = true) : Pic ps ∧ ps ≠ [] ∧ boxL ps = ((lx, ly), (gx, gy)) ∧ IsBox ps (lx, ly) (gx, gy) := by
  have h1 : boxL ps = ((lx, ly), (gx, gy)) := by unfold boxR at hB; rwa [hk, if_pos rfl] at hB
  unfold boxOk at hk
  simp only [Bool.and_eq_true, decide_eq_true_eq] at hk
  have h2 := isBox_boxL hk.2
  rw [h1] at h2
  exact ⟨picB_pic hk.1, hk.2, h1, h2⟩
theorem box_near {ps : List Sp} {lx ly gx gy : Int} (hB : boxR ps = ((lx, ly), (gx, gy))) (hk : boxOk ps = true) : (-30 ≤ lx ∧ lx ≤ 30 ∧ -30 ≤ ly ∧ ly ≤ 30) ∧ (-30 ≤ gx ∧ gx ≤ 30 ∧ -30 ≤ gy ∧ gy ≤ 30) := by
  obtain ⟨p1, _, _, p4⟩ := box_parts hB hk
  obtain ⟨a, ha, e1⟩ := p4.lx
  obtain ⟨b, hb, e2⟩ := p4.ly
  obtain ⟨c, hc, e3⟩ := p4.hx
  obtain ⟨d, hd, e4⟩ := p4.hy
  have := p1.2.1 a ha; have := p1.2.1 b hb; have := p1.2.1 c hc; have := p1.2.1 d hd
  unfold InR at *
  simp only at e1 e2 e3 e4
  omega
theorem box_sum {ps qs : List Sp} {lx ly gx gy ax ay bx by' cx cy dx dy : Int} (hB : boxR ps = ((lx, ly), (gx, gy))) (hk : boxOk ps = true) (hA : boxR qs = ((ax, ay), (bx, by'))) (ha : boxOk qs = true) (hs : sumOk ps qs = true) (hC : boxR (sumR ps qs) = ((cx, cy), (dx, dy))) :
    boxOk (sumR ps qs) = true ∧ cx = lx + ax ∧ cy = ly + ay ∧ dx = gx + bx ∧ dy = gy + by' := by
  obtain ⟨_, p2, p3, p4⟩ := box_parts hB hk
  obtain ⟨_, q2, q3, q4⟩ := box_parts hA ha
  have hS : sumR ps qs = sumL ps qs := by unfold sumR; rw [hs]; rfl
  have hpic : picB (sumL ps qs) = true := by unfold sumOk at hs; simp only [Bool.and_eq_true] at hs; exact hs.2
  have hne : sumL ps qs ≠ [] := by
    obtain ⟨a, ha', _⟩ := (p4.sum q4).lx
    intro e; rw [e] at ha'; cases ha'
  have hok : boxOk (sumR ps qs) = true := by rw [hS]; unfold boxOk; rw [hpic]; simpa using hne
  refine ⟨hok, ?_⟩
  have := (box_parts hC hok).2.2.1
  rw [hS, boxL_sum p2 q2, p3, q3] at this
  unfold addS at this
  simp only [Prod.mk.injEq] at this
  omega

set_option maxHeartbeats 1600000 in
set_option maxRecDepth 100000 in
theorem walk (A A' : Option Addr) (n c n' c' : Nat) (w : World) (hb : Bytes w w.heap.size A n) (hn : n ≤ c) (hc : c ≤ 9223372036854775807) (hb' : Bytes w w.heap.size A' n') (hn' : n' ≤ c') (hc' : c' ≤ 9223372036854775807) :
    Calls Try.prog 3 #[.slice A n c, .slice A' n' c'] w (Gives (.bool true) w) := by
  by_cases hbig : 1048576 < n
  · have hd : decide ((1048576 : Int) < (n : Int)) = true := decide_eq_true (by omega)
    have hd2 : decide (1048576 < n) = true := decide_eq_true hbig
    go_enter Try.func3, Try.ntmps3
    go_wp2
    all_goals
      go_ret
      exact ⟨rfl, Below.refl _ _⟩
  have hd : decide ((1048576 : Int) < (n : Int)) = false := decide_eq_false (by omega)
  have hd2 : decide (1048576 < n) = false := decide_eq_false hbig
  by_cases hbig' : 1048576 < n'
  · have hd3 : decide ((1048576 : Int) < (n' : Int)) = true := decide_eq_true (by omega)
    have hd4 : decide (1048576 < n') = true := decide_eq_true hbig'
    go_enter Try.func3, Try.ntmps3
    go_wp2
    all_goals
      go_ret
      exact ⟨rfl, Below.refl _ _⟩
  have hd3 : decide ((1048576 : Int) < (n' : Int)) = false := decide_eq_false (by omega)
  have hd4 : decide (1048576 < n') = false := decide_eq_false hbig'
  go_enter Try.func3, Try.ntmps3
  go_wp2_with fail
  refine (drawBoxOf_any A n c _ hb hn hc).mono ?_
  rintro e w1 ⟨vp, ps, rfl, D⟩
  have bb := D.below
  have rp := D.own.reads
  have hlp := D.len
  obtain ⟨Ap, cp, rfl, hcp, hmp, hAp, hrp⟩ := rp.is
  unfold maxLen at hmp
  clear D
  obtain ⟨lx, ly, gx, gy, hB⟩ : ∃ lx ly gx gy, boxR ps = ((lx, ly), (gx, gy)) := ⟨_, _, _, _, rfl⟩
  rcases hk : boxOk ps with _ | _
  · have h0 := box_no hk
    rw [hB] at h0
    simp only [Prod.mk.injEq] at h0
    obtain ⟨⟨rfl, rfl⟩, rfl, rfl⟩ := h0
    go_wp2_with fail
    refine (impl_is hB hk rp).mono ?_
    rintro e w2 ⟨rfl, b2⟩
    have bb2 := below_step bb b2
    have rp2 := rp.kept b2
    obtain ⟨W2, hW2, b02, s2, l2, g2⟩ := two_boxes w2 (.int .i64 0) (.int .i64 0) (.int .i64 0) (.int .i64 0)
    have rp2 := rp2.kept b02
    have bb2 := below_step bb2 b02
    go_wp2_with fail
    rw [← hW2]
    clear hW2
    refine (spec_is hB hk rp2).mono ?_
    rintro e w3 ⟨rfl, b3⟩
    have bb3 := below_step bb2 b3
    have rp3 := rp2.kept b3
    have l3 := (b3.block w2.heap.size (by omega)).trans l2
    have g3 := (b3.block (w2.heap.size + 1) (by omega)).trans g2
    have hs3 := b3.size
    obtain ⟨W4, hW4, b04, s4, l4, g4⟩ := two_boxes w3 (.int .i64 0) (.int .i64 0) (.int .i64 0) (.int .i64 0)
    have bb4 := below_step bb3 b04
    have rp4 := rp3.kept b04
    have l3 := (b04.block w2.heap.size (by omega)).trans l3
    have g3 := (b04.block (w2.heap.size + 1) (by omega)).trans g3
    obtain ⟨c0, c1⟩ := cells_of_row l3
    obtain ⟨c2, c3⟩ := cells_of_row g3
    obtain ⟨c4, c5⟩ := cells_of_row l4
    obtain ⟨c6, c7⟩ := cells_of_row g4
    have bp4 := below_step (below_step (below_step b2 b02) b3) b04
    have hs4 : w3.heap.size ≤ W4.heap.size := b04.size
    subst hW4
    go_wp2_with fail
    refine (alive_any _).mono ?_
    rintro e w12 ⟨rfl, b12⟩
    go_wp2
    go_ret
    exact ⟨rfl, below_step bb4 b12⟩
  · obtain ⟨hpic, hne, _, hbox⟩ := box_parts hB hk
    go_wp2_with fail
    refine (impl_is hB hk rp).mono ?_
    rintro e w2 ⟨rfl, b2⟩
    have bb2 := below_step bb b2
    have rp2 := rp.kept b2
    obtain ⟨W2, hW2, b02, s2, l2, g2⟩ := two_boxes w2 (.int .i64 lx) (.int .i64 ly) (.int .i64 gx) (.int .i64 gy)
    have rp2 := rp2.kept b02
    have bb2 := below_step bb2 b02
    go_wp2_with fail
    rw [← hW2]
    clear hW2
    refine (spec_is hB hk rp2).mono ?_
    rintro e w3 ⟨rfl, b3⟩
    have bb3 := below_step bb2 b3
    have rp3 := rp2.kept b3
    have l3 := (b3.block w2.heap.size (by omega)).trans l2
    have g3 := (b3.block (w2.heap.size + 1) (by omega)).trans g2
    have hs3 := b3.size
    obtain ⟨W4, hW4, b04, s4, l4, g4⟩ := two_boxes w3 (.int .i64 lx) (.int .i64 ly) (.int .i64 gx) (.int .i64 gy)
    have bb4 := below_step bb3 b04
    have rp4 := rp3.kept b04
    have l3 := (b04.block w2.heap.size (by omega)).trans l3
    have g3 := (b04.block (w2.heap.size + 1) (by omega)).trans g3
    obtain ⟨c0, c1⟩ := cells_of_row l3
    obtain ⟨c2, c3⟩ := cells_of_row g3
    obtain ⟨c4, c5⟩ := cells_of_row l4
    obtain ⟨c6, c7⟩ := cells_of_row g4
    have bp4 := below_step (below_step (below_step b2 b02) b3) b04
    have hs4 : w3.heap.size ≤ W4.heap.size := b04.size
    subst hW4
    have HB := Lib.hid hB
    have HK := Lib.hid hk
    obtain ⟨b, off, rfl, hbk, hcell⟩ := hrp (by have : 0 < ps.length := List.length_pos_iff.2 hne; omega)
    have hpos : 0 < ps.length := List.length_pos_iff.2 hne
    clear hB hk hrp
    go_wp2_with fail
    obtain ⟨W4, hW4⟩ : ∃ W4, W4 = (w3.alloc (.cells #[.int .i64 lx, .int .i64 ly] 26)).alloc (.cells #[.int .i64 gx, .int .i64 gy] 26) := ⟨_, rfl⟩
    rw [← hW4] at bb4 rp4 l3 g3 bp4 hs4 ⊢
    clear hW4 c0 c1 c2 c3 c4 c5 c6 c7 l4 g4 b04
    go_loopw [12] (fun i wr => ∃ k : Nat, k ≤ ps.length ∧ i = .int .i64 k ∧ Below W4.heap.size W4 wr) (fun i _ => ps.length - (intOf i).toNat)
    case atStart => exact ⟨0, Nat.zero_le _, rfl, Below.refl _ _⟩
    case round =>
      obtain ⟨k, hk, rfl, hbw⟩ := hrel
      have hbs := hbw.size
      by_cases hlt : k < ps.length
      · obtain ⟨⟨x, y⟩, hxy⟩ : ∃ a, ps[k]? = some a := ⟨_, List.getElem?_eq_getElem hlt⟩
        obtain ⟨e0, e1⟩ := hcell k x y hxy
        obtain ⟨i1, i2, i3, i4⟩ := hbox.all _ (List.mem_of_getElem? hxy)
        simp only at i1 i2 i3 i4
        have bp := bp4.trans (hbw.mono bp4.size)
        have f0 := cell_regrown ((bp.cell (p := ⟨b, off + k * 2, none⟩) hbk).trans e0)
        have f1 := cell_regrown ((bp.cell (p := ⟨b, off + k * 2 + 1, none⟩) hbk).trans e1)
        obtain ⟨c0, c1⟩ := cells_of_row ((hbw.block w2.heap.size (by omega)).trans l3)
        obtain ⟨c2, c3⟩ := cells_of_row ((hbw.block (w2.heap.size + 1) (by omega)).trans g3)
        have g0 := cell_regrown c0
        have g1 := cell_regrown c1
        have g2 := cell_regrown c2
        have g3 := cell_regrown c3
        have j1 : decide (x < lx) = false := decide_eq_false (by omega)
        have j2 : decide (gx < x) = false := decide_eq_false (by omega)
        have j3 : decide (y < ly) = false := decide_eq_false (by omega)
        have j4 : decide (gy < y) = false := decide_eq_false (by omega)
        clear e0 e1 hxy c0 c1 c2 c3
        go_wp2
        refine wp_region_quiet_below (by kernel_rfl) (by kernel_rfl) ?_
        repeat (go_big_quiet_step (first | fail))
        refine wpQuiet_nil ?_
        intro wn hw'
        obtain ⟨⟨dq, osq⟩, hw''⟩ := hw'
        have hN : Below wr.heap.size wr wn := by rw [hw'']; exact below_regrown _ _ _
        clear hw'' dq osq
        go_wp2
        go_roundw
        case rel => exact ⟨k + 1, by omega, by go_num, hbw.trans (hN.mono hbs)⟩
        case measure => simp [intOf]; omega
      · obtain rfl : k = ps.length := by omega
        have bbr := below_step bb4 hbw
        have rpr := rp4.kept hbw
        have l5 := (hbw.block w2.heap.size (by omega)).trans l3
        have g5 := (hbw.block (w2.heap.size + 1) (by omega)).trans g3
        clear hlt hk hcell hbw
        go_wp2_with fail
        refine (drawDoubledOf_any A' n' c' _ ((hb'.below bbr).more bbr.size) hn' hc').mono ?_
        rintro e w5 ⟨vq, qs, rfl, D⟩
        have b5 := D.below
        have rq5 := D.own.reads
        have bb5 := below_step bbr b5
        have rp5 := rpr.kept b5
        have l5 := (b5.block w2.heap.size (by omega)).trans l5
        have g5 := (b5.block (w2.heap.size + 1) (by omega)).trans g5
        have hs5 := b5.size
        obtain ⟨ax, ay, bx, by', hA⟩ : ∃ ax ay bx by', boxR qs = ((ax, ay), (bx, by')) := ⟨_, _, _, _, rfl⟩
        clear D b5 rpr
        rcases ha : boxOk qs with _ | _
        all_goals rcases hs : sumOk ps qs with _ | _
        all_goals
          go_wp2_with fail
          refine (impl_is hA ha rq5).mono ?_
          rintro e w6 ⟨rfl, b6⟩
          have bb6 := below_step bb5 b6
          have rp6 := rp5.kept b6
          have rq6 := rq5.kept b6
          have l6 := (b6.block w2.heap.size (by omega)).trans l5
          have g6 := (b6.block (w2.heap.size + 1) (by omega)).trans g5
          have hs6 := b6.size
          obtain ⟨W6, hW6, b06, s6, la, lb⟩ := two_boxes w6 (.int .i64 ax) (.int .i64 ay) (.int .i64 bx) (.int .i64 by')
          have bb6 := below_step bb6 b06
          have rp6 := rp6.kept b06
          have rq6 := rq6.kept b06
          have l6 := (b06.block w2.heap.size (by omega)).trans l6
          have g6 := (b06.block (w2.heap.size + 1) (by omega)).trans g6
          go_wp2_with fail
          rw [← hW6]
          clear hW6 b06 b6 l5 g5 rp5 rq5
          refine (sum_is hs rp6 rq6).mono ?_
          rintro e w7 ⟨vs, rfl, os, b7⟩
          have bb7 := below_step bb6 b7
          have l7 := (b7.block w2.heap.size (by omega)).trans l6
          have g7 := (b7.block (w2.heap.size + 1) (by omega)).trans g6
          have la := (b7.block w6.heap.size (by omega)).trans la
          have lb := (b7.block (w6.heap.size + 1) (by omega)).trans lb
          have hs7 := b7.size
          obtain ⟨cx, cy, dx, dy, hC⟩ : ∃ cx cy dx dy, boxR (sumR ps qs) = ((cx, cy), (dx, dy)) := ⟨_, _, _, _, rfl⟩
          clear b7 rp6 rq6 l6 g6
          first
            | have HF := Lib.hid (And.intro (box_sum HB.out HK.out hA ha hs hC) (box_near hA ha))
            | have HF := trivial
          go_wp2_with fail
          refine (impl_is hC rfl os.reads).mono ?_
          rintro e w8 ⟨rfl, b8⟩
          have bb8 := below_step bb7 b8
          have l8 := (b8.block w2.heap.size (by omega)).trans l7
          have g8 := (b8.block (w2.heap.size + 1) (by omega)).trans g7
          have la := (b8.block w6.heap.size (by omega)).trans la
          have lb := (b8.block (w6.heap.size + 1) (by omega)).trans lb
          have hs8 := b8.size
          clear b8 l7 g7 os hC ha hs hA
          first
            | (have hF := HF.out
               obtain ⟨⟨h1, rfl, rfl, rfl, rfl⟩, h6, h7⟩ := hF
               rw [h1]
               obtain ⟨h4, h5⟩ := box_near HB.out HK.out
               have hw1 : IntKind.i64.wrap (lx + ax) = lx + ax := IntWalk.i64_in _ (by omega)
               have hw2 : IntKind.i64.wrap (ly + ay) = ly + ay := IntWalk.i64_in _ (by omega)
               have hw3 : IntKind.i64.wrap (gx + bx) = gx + bx := IntWalk.i64_in _ (by omega)
               have hw4 : IntKind.i64.wrap (gy + by') = gy + by' := IntWalk.i64_in _ (by omega)
               obtain ⟨W8, hW8, b08, s8, lc, ld⟩ := two_boxes w8 (.int .i64 (lx + ax)) (.int .i64 (ly + ay)) (.int .i64 (gx + bx)) (.int .i64 (gy + by'))
               have bb9 := below_step bb8 b08
               obtain ⟨c0, c1⟩ := cells_of_row ((b08.block w2.heap.size (by omega)).trans l8)
               obtain ⟨c2, c3⟩ := cells_of_row ((b08.block (w2.heap.size + 1) (by omega)).trans g8)
               obtain ⟨c4, c5⟩ := cells_of_row ((b08.block w6.heap.size (by omega)).trans la)
               obtain ⟨c6, c7⟩ := cells_of_row ((b08.block (w6.heap.size + 1) (by omega)).trans lb)
               obtain ⟨c8, c9⟩ := cells_of_row lc
               obtain ⟨d8, d9⟩ := cells_of_row ld
               subst hW8
               clear h4 h5 h6 h7 h1 s8 lc ld b08
               go_wp2
               go_ret
               exact ⟨rfl, bb9⟩)
            | (obtain ⟨W8, hW8, b08, s8, lc, ld⟩ := two_boxes w8 (.int .i64 cx) (.int .i64 cy) (.int .i64 dx) (.int .i64 dy)
               have bb9 := below_step bb8 b08
               subst hW8
               clear s8 lc ld b08
               go_wp2
               go_ret
               exact ⟨rfl, bb9⟩)
set_option maxRecDepth 100000 in
theorem lifted (os : Os) (started : os.Started) (H : Type) (enc : TypeId × Value → H) :
    ReturnsInHanded {} Try.checked os 3 .any (Rows.fnBoxOfSpec.pre6 enc Try.prog Try.f3 Rows.fnBoxOfRow.domain false) (Rows.fnBoxOfSpec.post enc Try.prog Try.f3 false true false false) := by
  refine returnsInHanded_of_change (C := Try.checked) own started (by kernel_rfl) Try.func3
    (ChangeSpec.witness6 (enc := enc) (C := Try.checked) false ⟨#[], #[.slice none 0 0, .slice none 0 0], []⟩ 8 (by kernel_rfl) (by kernel_rfl) (by kernel_rfl) (by kernel_rfl)) ?_
  intro W base args ds gs before hval0 hW _ _
  have hval : ∀ (j : Nat) t v, Try.f3.params[j]? = some t → args[j]? = some v → Value.okWide Try.prog W .any base t v := hval0
  have hW' := hW
  obtain ⟨p, q, hA0, hV, rfl, _, _⟩ := hW
  have hA : DataW.TrodAll enc Try.prog W 0 (fun _ => true) true Try.f3.params.toList args.toList ds p := hA0
  rw [Try.params3] at hA hval
  obtain ⟨v0, v1, d0, d1, p0, p1, rfl, rfl, rfl, h0, h1⟩ := trodAll_two hA
  obtain ⟨rfl, rfl⟩ := trodVars_none hV
  clear hA0 hval0
  simp only [List.append_nil] at hW'
  have hlt : ∀ x ∈ p0 ++ p1, x.block < W.heap.size := fun x hx => by simpa using hW'.lt x hx
  have hlt0 : ∀ x ∈ p0, x.block < W.heap.size := fun x hx => hlt x (List.mem_append_left _ hx)
  have hlt1 : ∀ x ∈ p1, x.block < W.heap.size := fun x hx => hlt x (List.mem_append_right _ hx)
  have r0 := open_bytes (hval 0 22 v0 rfl rfl) h0 hlt0
  obtain ⟨⟨bA, bn, bc⟩, rfl, rb, rn, rc⟩ := r0
  simp only at rb rn rc
  have r1 := open_bytes (hval 1 22 v1 rfl rfl) h1 hlt1
  obtain ⟨⟨bA1, bn1, bc1⟩, rfl, rb1, rn1, rc1⟩ := r1
  simp only at rb1 rn1 rc1
  refine (walk bA bA1 bn bc bn1 bc1 W rb rn rc rb1 rn1 rc1).mono fun e W' hg => ?_
  obtain ⟨he, hb⟩ := hg
  subst he
  exact ⟨_, rfl, _, _, _, [], p0 ++ p1, [], hW', trodAll_mk1 (shut_bool Try.underlying4 _), trodAll_mk2 (kept_arg (by kernel_rfl) (of_decide_eq_true (by kernel_rfl)) h0 hb hlt0) (kept_arg (by kernel_rfl) (of_decide_eq_true (by kernel_rfl)) h1 hb hlt1), rfl, hb.frame _, fun h => by cases h⟩

theorem holds : Rows.FnBoxOfSaid :=
  OpenClaim.holds_of_wide 3 Try.f3 rfl rfl rfl rfl rfl rfl rfl ⟨rfl, rfl, rfl, rfl, rfl⟩ rfl rfl rfl rfl rfl (by kernel_rfl) Try.func3 (by kernel_rfl)
    (of_decide_eq_true (by kernel_rfl)) (by unfold Func.isWrapper; first | (rw [if_pos (by decide +kernel)]; kernel_rfl) | (rw [if_neg (by decide +kernel)]; exact ⟨rfl, rfl⟩))
    (fun os started H enc _ => lifted os started H enc)
end Go.Proofs.Ytjmhmaijfhljlab.fnBoxOf
