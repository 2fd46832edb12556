/- The program's makers of balls: ballsBy and its closures; BallOf. No conditions but those typed. -/
import Derived.Test.YtmpfhdcefilekaaTell
import Derived.Test.YtmpfhdcefilekaaBetwI
import Derived.Test.YtmpfhdcefilekaaBallT
import Derived.Test.YtmpfhdcefilekaaTwo
import Derived.RegionTactic
import Derived.WalkSpells
import Derived.Lib.SliceRun
namespace Go.Proofs.Ytmpfhdcefilekaa
open Go.RowKit Go.Sort

/-- the inner closure: whether a spot is near enough -/
theorem ballIn_any (T R : Nat) (x y r way : Int) (w : World) (hw : wayOk way = true) (hx : -100 ≤ x ∧ x ≤ 100 ∧ -100 ≤ y ∧ y ≤ 100)
    (hT : T < w.heap.size) (hR : R < w.heap.size) (cT : w.cell? ⟨T, 0, none⟩ = some (.func (.func (tellF way)) #[] #[])) (cR : w.cell? ⟨R, 0, none⟩ = some (.int .i64 r)) :
    Calls Try.prog 108 #[.agg #[.int .i64 x, .int .i64 y], .pointer (some ⟨T, 0, none⟩), .pointer (some ⟨R, 0, none⟩)] w (Gives (.bool (inBall r way (x, y))) w) := by
  have b0 := box_below w #[.int .i64 x, .int .i64 y] 42
  have f0 := cell_regrown ((b0.cell (p := ⟨T, 0, none⟩) hT).trans cT)
  have f1 := cell_regrown ((b0.cell (p := ⟨R, 0, none⟩) hR).trans cR)
  have f3 := cell_regrown (w := w.alloc (Obj.cells #[Value.int IntKind.i64 x, Value.int IntKind.i64 y] 42)) (a := ⟨w.heap.size, 0, none⟩) (v := .int .i64 x) (by simp [go_sem])
  have f4 := cell_regrown (w := w.alloc (Obj.cells #[Value.int IntKind.i64 x, Value.int IntKind.i64 y] 42)) (a := ⟨w.heap.size, 1, none⟩) (v := .int .i64 y) (by simp [go_sem])
  have cc := Lib.hid (fun w1 => between_any x y 0 0 way w1 hw (by omega) (by omega))
  have fn := farI_nonneg (x, y) (0, 0) way
  have e : inBall r way (x, y) = decide (farI (x, y) (0, 0) way ≤ r) := rfl
  rw [e]
  clear e
  generalize farI (x, y) (0, 0) way = d at *
  clear cT cR hw
  go_enter Try.func108, Try.ntmps108
  go_wp2
  refine wp_region_quiet_below (by kernel_rfl) (by kernel_rfl) ?_
  repeat (go_big_quiet_step (first | (go_at_call 109; with_reducible exact gives_regrown (fun w1 _ => cc.out w1) _ _)))
  refine wpQuiet_nil ?_
  intro _ hw'
  obtain ⟨⟨dq, osq⟩, hw''⟩ := hw'
  subst hw''
  go_wp2
  go_ret
  exact ⟨rfl, b0.trans ((below_regrown _ _ _).mono (by simp))⟩

structure Maker (M T : Nat) (way : Int) (w : World) : Prop where
  m : M < w.heap.size
  t : T < w.heap.size
  ne : M ≠ T
  row : w.heap[M]? = some (.cells #[.slice none 0 0, .slice none 0 0, .slice none 0 0, .slice none 0 0] 114 (0, 0))
  tell : w.cell? ⟨T, 0, none⟩ = some (.func (.func (tellF way)) #[] #[])
def MakerPost (way : Int) (w : World) (e : Ending) (w' : World) : Prop := ∃ M T : Nat, e = .returned (.func (.func 107) #[] #[.pointer (some ⟨M, 0, none⟩), .pointer (some ⟨T, 0, none⟩)]) ∧ w.heap.size ≤ M ∧ Maker M T way w' ∧ Below w.heap.size w w'
theorem ballsBy_any (way : Int) (w : World) : Calls Try.prog 100 #[.func (.func (tellF way)) #[] #[]] w (MakerPost way w) := by
  go_enter Try.func100, Try.ntmps100
  go_wp2
  go_ret
  have b1 := box_below w #[.func (.func (tellF way)) #[] #[]] 102
  refine ⟨w.heap.size + 1, w.heap.size, rfl, by omega, ⟨by simp, by simp; omega, by omega, ?_, ?_⟩, b1.alloc (by simp) _⟩
  · have := heap_alloc_new (w.alloc (.cells #[.func (.func (tellF way)) #[] #[]] 102)) (.cells #[.slice none 0 0, .slice none 0 0, .slice none 0 0, .slice none 0 0] 114)
    rw [World.size_alloc] at this; exact this
  · simp [go_sem, World.cell?_alloc_past]
theorem Owns.setOther {w : World} {base : Nat} {v : Value} {ps : List Sp} (h : Owns w base v ps) {a : Addr} (ha : a.block < base) (x : Value) : Owns (w.setCell a x) base v ps := by
  refine ⟨h.1, ?_⟩
  rcases h.2 with h0 | ⟨g, cap, cur, rfl, h1, hg, h2⟩
  · exact .inl h0
  · exact .inr ⟨g, cap, cur, rfl, h1, (heap_setCell_other _ _ _ _ (by omega)).trans hg, h2⟩
theorem keep1 {w : World} {g n k o : Nat} {a v : Value} (h : k ≠ g) (hc : w.cell? ⟨k, o, none⟩ = some v) : (w.setCell ⟨g, n, none⟩ a).cell? ⟨k, o, none⟩ = some v := by
  rw [World.cell?_setCell_far _ _ _ _ (fun e => h e.symm), hc]
set_option maxHeartbeats 800000 in
set_option maxRecDepth 100000 in
theorem maker_any (M T : Nat) (r way : Int) (w : World) (hw : wayOk way = true) (hr : 0 ≤ r ∧ r ≤ 3) (hM : Maker M T way w) :
    Calls Try.prog 107 #[.int .i64 r, .pointer (some ⟨M, 0, none⟩), .pointer (some ⟨T, 0, none⟩)] w fun e w' => ∃ v', e = .returned v' ∧ Owns w' w.heap.size v' (ballL r way) ∧ Below M w w' := by
  obtain rfl | rfl | rfl | rfl : r = 0 ∨ r = 1 ∨ r = 2 ∨ r = 3 := by omega
  · have rowM := (cell_of_row w _ 0 _ _ _ hM.row).trans (show _ = some (Value.slice none 0 0) from rfl)
    have hMs := hM.m
    have hnil : ∀ W, (binOp .eql 23 (.slice none 0 0) (.slice none 0 0)).run Try.prog W = .ok (.bool true) W := fun W => Lib.run_eql_slice_nil W _ _ none 0 0 0 0 Try.underlying23
    have b0 := box_below w #[.int .i64 0] 3
    obtain ⟨W, hW⟩ : ∃ W, W = w.alloc (.cells #[.int .i64 0] 3) := ⟨_, rfl⟩
    have q0 : W.cell? ⟨w.heap.size, 0, none⟩ = some (.int .i64 0) := by rw [hW]; simp [go_sem]
    have s0 : w.heap.size < W.heap.size := by rw [hW]; simp
    rw [← hW] at b0
    have m0 := (b0.cell (p := ⟨M, 0, none⟩) hMs).trans rowM
    have mf := frozen_of_row W _ 0 _ _ ((b0.block M hMs).trans hM.row)
    have t0 := (b0.cell (p := ⟨T, 0, none⟩) hM.t).trans hM.tell
    clear rowM
    have hwr : IntKind.i64.wrap 0 = 0 := by decide
    go_enter Try.func107, Try.ntmps107
    go_wp2_with (first | (rw [← hW]; clear hW) | fail)
    go_wp2
    go_region_held3 (fun w' => w'.cell? ⟨w.heap.size, 0, none⟩ = some (.int .i64 0)) (go_keep) (fail)
    · obtain ⟨w2, hw2⟩ : ∃ w2, w2 = ((W.alloc (.cells #[.int .i64 0, .int .i64 0] 42)).alloc (.cells #[.int .i64 0, .int .i64 0] 42)).drew := ⟨_, rfl⟩
      have b2 : Below W.heap.size W w2 := by rw [hw2]; exact (((Below.refl _ _).alloc (Nat.le_refl _) _).alloc (by simp) _).drew
      have l2 : w2.heap[W.heap.size]? = some (.cells #[.int .i64 (0), .int .i64 (0)] 42 (0, 0)) := by rw [hw2]; exact first_block _ _ _
      have g2 : w2.heap[W.heap.size + 1]? = some (.cells #[.int .i64 0, .int .i64 0] 42 (0, 0)) := by rw [hw2]; exact second_block _ _ _
      rw [← hw2]
      clear hw2 hwr
      obtain ⟨c0, c1⟩ := cells_of_row l2
      obtain ⟨c2, c3⟩ := cells_of_row g2
      have c0 : w2.drew.cell? ⟨W.heap.size, 0, none⟩ = some (.int .i64 (0)) := c0
      have c1 : w2.drew.cell? ⟨W.heap.size, 1, none⟩ = some (.int .i64 (0)) := c1
      have c2 : w2.drew.cell? ⟨W.heap.size + 1, 0, none⟩ = some (.int .i64 0) := c2
      have c3 : w2.drew.cell? ⟨W.heap.size + 1, 1, none⟩ = some (.int .i64 0) := c3
      have q2 : w2.drew.cell? ⟨w.heap.size, 0, none⟩ = some (.int .i64 0) := (b2.cell (p := ⟨w.heap.size, 0, none⟩) s0).trans q0
      have hMW : M < W.heap.size := Nat.lt_trans hMs s0
      have m2 : w2.drew.cell? ⟨M, 0, none⟩ = some (.slice none 0 0) := (b2.cell (p := ⟨M, 0, none⟩) hMW).trans m0
      have mf2 : w2.drew.frozen? ⟨M, 0, none⟩ = false := (b2.frozen (p := ⟨M, 0, none⟩) hMW).trans mf
      have t2 : w2.drew.cell? ⟨T, 0, none⟩ = some (.func (.func (tellF way)) #[] #[]) := (b2.cell (p := ⟨T, 0, none⟩) (Nat.lt_of_lt_of_le hM.t b0.size)).trans t0
      have bb : Below w.heap.size w w2.drew := (below_step b0 b2).drew
      have hLs : W.heap.size < w2.drew.heap.size := (Array.getElem?_eq_some_iff.1 l2).1
      have hGs : W.heap.size + 1 < w2.drew.heap.size := (Array.getElem?_eq_some_iff.1 g2).1
      have hRs : w.heap.size < w2.drew.heap.size := Nat.lt_of_lt_of_le s0 b2.size
      have hTs : T < w2.drew.heap.size := Nat.lt_of_lt_of_le hM.t bb.size
      have hM2 : M < w2.drew.heap.size := Nat.lt_of_lt_of_le hMs bb.size
      have hne : M ≠ w.heap.size := Nat.ne_of_lt hMs
      have hne2 := hne.symm
      have hneL : W.heap.size ≠ M := by omega
      have hneG : W.heap.size + 1 ≠ M := by omega
      clear l2 g2 b2 m0 mf t0 q0 b0
      go_wp2_with fail
      go_region_held3 (fun w' => w'.cell? ⟨w.heap.size, 0, none⟩ = some (.int .i64 0) ∧ w'.cell? ⟨W.heap.size, 0, none⟩ = some (.int .i64 (0)) ∧ w'.cell? ⟨W.heap.size, 1, none⟩ = some (.int .i64 (0)) ∧ w'.cell? ⟨W.heap.size + 1, 0, none⟩ = some (.int .i64 0) ∧ w'.cell? ⟨W.heap.size + 1, 1, none⟩ = some (.int .i64 0)) (first | (refine ⟨?_, ?_, ?_, ?_, ?_⟩ <;> with_reducible assumption) | (refine ⟨keep1 ?_ ?_, keep1 ?_ ?_, keep1 ?_ ?_, keep1 ?_ ?_, keep1 ?_ ?_⟩ <;> with_reducible assumption))
        ((go_at_call 64; refine (betwBall_any (inBall 0 way) w.heap.size T (0) (0) 0 0 w2.drew (by decide) (by decide) (by decide) (by decide) (by decide) (by decide) (by decide) (by decide) (fun x y w1 hx1 hx2 hy1 hy2 hb1 => ballIn_any T w.heap.size x y 0 way w1 hw ⟨hx1, hx2, hy1, hy2⟩ (Nat.lt_of_lt_of_le hTs hb1.size) (Nat.lt_of_lt_of_le hRs hb1.size) ((hb1.cell (p := ⟨T, 0, none⟩) hTs).trans t2) ((hb1.cell (p := ⟨w.heap.size, 0, none⟩) hRs).trans q2))).mono ?_; rintro e w3 ⟨v3, rfl, o3, hb⟩; obtain ⟨A3, c3', rfl, _, _⟩ := o3.reads.slice; have bw3 := bb.trans (hb.mono bb.size); have q2 := (hb.cell (p := ⟨w.heap.size, 0, none⟩) hRs).trans q2; have c0 := (hb.cell (p := ⟨W.heap.size, 0, none⟩) hLs).trans c0; have c1 := (hb.cell (p := ⟨W.heap.size, 1, none⟩) hLs).trans c1; have c2 := (hb.cell (p := ⟨W.heap.size + 1, 0, none⟩) hGs).trans c2; have c3 := (hb.cell (p := ⟨W.heap.size + 1, 1, none⟩) hGs).trans c3; have m2 := (hb.cell (p := ⟨M, 0, none⟩) hM2).trans m2; have mf2 := (hb.frozen (p := ⟨M, 0, none⟩) hM2).trans mf2))
      go_wp2
      go_ret
      have HL : betw (inBall 0 way) (0, 0) (0, 0) = ballL 0 way := (ball_yes (ballOk_yes (by decide) hw)).symm
      exact ⟨_, rfl, by rw [← HL]; exact (o3.setOther (a := ⟨M, 0, none⟩) hM2 _).base (Nat.le_of_lt hRs), (bw3.mono (Nat.le_of_lt hMs)).setCell (p := ⟨M, 0, none⟩) (Nat.le_refl _) _⟩
    · obtain ⟨w2, hw2⟩ : ∃ w2, w2 = ((W.alloc (.cells #[.int .i64 0, .int .i64 0] 42)).alloc (.cells #[.int .i64 0, .int .i64 0] 42)).drew := ⟨_, rfl⟩
      have b2 : Below W.heap.size W w2 := by rw [hw2]; exact (((Below.refl _ _).alloc (Nat.le_refl _) _).alloc (by simp) _).drew
      have l2 : w2.heap[W.heap.size + 1]? = some (.cells #[.int .i64 (0), .int .i64 (0)] 42 (0, 0)) := by rw [hw2]; exact second_block _ _ _
      have g2 : w2.heap[W.heap.size]? = some (.cells #[.int .i64 0, .int .i64 0] 42 (0, 0)) := by rw [hw2]; exact first_block _ _ _
      rw [← hw2]
      clear hw2 hwr
      obtain ⟨c0, c1⟩ := cells_of_row l2
      obtain ⟨c2, c3⟩ := cells_of_row g2
      have c0 : w2.drew.cell? ⟨W.heap.size + 1, 0, none⟩ = some (.int .i64 (0)) := c0
      have c1 : w2.drew.cell? ⟨W.heap.size + 1, 1, none⟩ = some (.int .i64 (0)) := c1
      have c2 : w2.drew.cell? ⟨W.heap.size, 0, none⟩ = some (.int .i64 0) := c2
      have c3 : w2.drew.cell? ⟨W.heap.size, 1, none⟩ = some (.int .i64 0) := c3
      have q2 : w2.drew.cell? ⟨w.heap.size, 0, none⟩ = some (.int .i64 0) := (b2.cell (p := ⟨w.heap.size, 0, none⟩) s0).trans q0
      have hMW : M < W.heap.size := Nat.lt_trans hMs s0
      have m2 : w2.drew.cell? ⟨M, 0, none⟩ = some (.slice none 0 0) := (b2.cell (p := ⟨M, 0, none⟩) hMW).trans m0
      have mf2 : w2.drew.frozen? ⟨M, 0, none⟩ = false := (b2.frozen (p := ⟨M, 0, none⟩) hMW).trans mf
      have t2 : w2.drew.cell? ⟨T, 0, none⟩ = some (.func (.func (tellF way)) #[] #[]) := (b2.cell (p := ⟨T, 0, none⟩) (Nat.lt_of_lt_of_le hM.t b0.size)).trans t0
      have bb : Below w.heap.size w w2.drew := (below_step b0 b2).drew
      have hLs : W.heap.size + 1 < w2.drew.heap.size := (Array.getElem?_eq_some_iff.1 l2).1
      have hGs : W.heap.size < w2.drew.heap.size := (Array.getElem?_eq_some_iff.1 g2).1
      have hRs : w.heap.size < w2.drew.heap.size := Nat.lt_of_lt_of_le s0 b2.size
      have hTs : T < w2.drew.heap.size := Nat.lt_of_lt_of_le hM.t bb.size
      have hM2 : M < w2.drew.heap.size := Nat.lt_of_lt_of_le hMs bb.size
      have hne : M ≠ w.heap.size := Nat.ne_of_lt hMs
      have hne2 := hne.symm
      have hneL : W.heap.size + 1 ≠ M := by omega
      have hneG : W.heap.size ≠ M := by omega
      clear l2 g2 b2 m0 mf t0 q0 b0
      go_wp2_with fail
      go_region_held3 (fun w' => w'.cell? ⟨w.heap.size, 0, none⟩ = some (.int .i64 0) ∧ w'.cell? ⟨W.heap.size + 1, 0, none⟩ = some (.int .i64 (0)) ∧ w'.cell? ⟨W.heap.size + 1, 1, none⟩ = some (.int .i64 (0)) ∧ w'.cell? ⟨W.heap.size, 0, none⟩ = some (.int .i64 0) ∧ w'.cell? ⟨W.heap.size, 1, none⟩ = some (.int .i64 0)) (first | (refine ⟨?_, ?_, ?_, ?_, ?_⟩ <;> with_reducible assumption) | (refine ⟨keep1 ?_ ?_, keep1 ?_ ?_, keep1 ?_ ?_, keep1 ?_ ?_, keep1 ?_ ?_⟩ <;> with_reducible assumption))
        ((go_at_call 64; refine (betwBall_any (inBall 0 way) w.heap.size T (0) (0) 0 0 w2.drew (by decide) (by decide) (by decide) (by decide) (by decide) (by decide) (by decide) (by decide) (fun x y w1 hx1 hx2 hy1 hy2 hb1 => ballIn_any T w.heap.size x y 0 way w1 hw ⟨hx1, hx2, hy1, hy2⟩ (Nat.lt_of_lt_of_le hTs hb1.size) (Nat.lt_of_lt_of_le hRs hb1.size) ((hb1.cell (p := ⟨T, 0, none⟩) hTs).trans t2) ((hb1.cell (p := ⟨w.heap.size, 0, none⟩) hRs).trans q2))).mono ?_; rintro e w3 ⟨v3, rfl, o3, hb⟩; obtain ⟨A3, c3', rfl, _, _⟩ := o3.reads.slice; have bw3 := bb.trans (hb.mono bb.size); have q2 := (hb.cell (p := ⟨w.heap.size, 0, none⟩) hRs).trans q2; have c0 := (hb.cell (p := ⟨W.heap.size + 1, 0, none⟩) hLs).trans c0; have c1 := (hb.cell (p := ⟨W.heap.size + 1, 1, none⟩) hLs).trans c1; have c2 := (hb.cell (p := ⟨W.heap.size, 0, none⟩) hGs).trans c2; have c3 := (hb.cell (p := ⟨W.heap.size, 1, none⟩) hGs).trans c3; have m2 := (hb.cell (p := ⟨M, 0, none⟩) hM2).trans m2; have mf2 := (hb.frozen (p := ⟨M, 0, none⟩) hM2).trans mf2))
      go_wp2
      go_ret
      have HL : betw (inBall 0 way) (0, 0) (0, 0) = ballL 0 way := (ball_yes (ballOk_yes (by decide) hw)).symm
      exact ⟨_, rfl, by rw [← HL]; exact (o3.setOther (a := ⟨M, 0, none⟩) hM2 _).base (Nat.le_of_lt hRs), (bw3.mono (Nat.le_of_lt hMs)).setCell (p := ⟨M, 0, none⟩) (Nat.le_refl _) _⟩
  · have rowM := (cell_of_row w _ 1 _ _ _ hM.row).trans (show _ = some (Value.slice none 0 0) from rfl)
    have hMs := hM.m
    have hnil : ∀ W, (binOp .eql 23 (.slice none 0 0) (.slice none 0 0)).run Try.prog W = .ok (.bool true) W := fun W => Lib.run_eql_slice_nil W _ _ none 0 0 0 0 Try.underlying23
    have b0 := box_below w #[.int .i64 1] 3
    obtain ⟨W, hW⟩ : ∃ W, W = w.alloc (.cells #[.int .i64 1] 3) := ⟨_, rfl⟩
    have q0 : W.cell? ⟨w.heap.size, 0, none⟩ = some (.int .i64 1) := by rw [hW]; simp [go_sem]
    have s0 : w.heap.size < W.heap.size := by rw [hW]; simp
    rw [← hW] at b0
    have m0 := (b0.cell (p := ⟨M, 1, none⟩) hMs).trans rowM
    have mf := frozen_of_row W _ 1 _ _ ((b0.block M hMs).trans hM.row)
    have t0 := (b0.cell (p := ⟨T, 0, none⟩) hM.t).trans hM.tell
    clear rowM
    have hwr : IntKind.i64.wrap (-1) = (-1) := by decide
    go_enter Try.func107, Try.ntmps107
    go_wp2_with (first | (rw [← hW]; clear hW) | fail)
    go_wp2
    go_region_held3 (fun w' => w'.cell? ⟨w.heap.size, 0, none⟩ = some (.int .i64 1)) (go_keep) (fail)
    · obtain ⟨w2, hw2⟩ : ∃ w2, w2 = ((W.alloc (.cells #[.int .i64 (-1), .int .i64 (-1)] 42)).alloc (.cells #[.int .i64 1, .int .i64 1] 42)).drew := ⟨_, rfl⟩
      have b2 : Below W.heap.size W w2 := by rw [hw2]; exact (((Below.refl _ _).alloc (Nat.le_refl _) _).alloc (by simp) _).drew
      have l2 : w2.heap[W.heap.size]? = some (.cells #[.int .i64 ((-1)), .int .i64 ((-1))] 42 (0, 0)) := by rw [hw2]; exact first_block _ _ _
      have g2 : w2.heap[W.heap.size + 1]? = some (.cells #[.int .i64 1, .int .i64 1] 42 (0, 0)) := by rw [hw2]; exact second_block _ _ _
      rw [← hw2]
      clear hw2 hwr
      obtain ⟨c0, c1⟩ := cells_of_row l2
      obtain ⟨c2, c3⟩ := cells_of_row g2
      have c0 : w2.drew.cell? ⟨W.heap.size, 0, none⟩ = some (.int .i64 ((-1))) := c0
      have c1 : w2.drew.cell? ⟨W.heap.size, 1, none⟩ = some (.int .i64 ((-1))) := c1
      have c2 : w2.drew.cell? ⟨W.heap.size + 1, 0, none⟩ = some (.int .i64 1) := c2
      have c3 : w2.drew.cell? ⟨W.heap.size + 1, 1, none⟩ = some (.int .i64 1) := c3
      have q2 : w2.drew.cell? ⟨w.heap.size, 0, none⟩ = some (.int .i64 1) := (b2.cell (p := ⟨w.heap.size, 0, none⟩) s0).trans q0
      have hMW : M < W.heap.size := Nat.lt_trans hMs s0
      have m2 : w2.drew.cell? ⟨M, 1, none⟩ = some (.slice none 0 0) := (b2.cell (p := ⟨M, 1, none⟩) hMW).trans m0
      have mf2 : w2.drew.frozen? ⟨M, 1, none⟩ = false := (b2.frozen (p := ⟨M, 1, none⟩) hMW).trans mf
      have t2 : w2.drew.cell? ⟨T, 0, none⟩ = some (.func (.func (tellF way)) #[] #[]) := (b2.cell (p := ⟨T, 0, none⟩) (Nat.lt_of_lt_of_le hM.t b0.size)).trans t0
      have bb : Below w.heap.size w w2.drew := (below_step b0 b2).drew
      have hLs : W.heap.size < w2.drew.heap.size := (Array.getElem?_eq_some_iff.1 l2).1
      have hGs : W.heap.size + 1 < w2.drew.heap.size := (Array.getElem?_eq_some_iff.1 g2).1
      have hRs : w.heap.size < w2.drew.heap.size := Nat.lt_of_lt_of_le s0 b2.size
      have hTs : T < w2.drew.heap.size := Nat.lt_of_lt_of_le hM.t bb.size
      have hM2 : M < w2.drew.heap.size := Nat.lt_of_lt_of_le hMs bb.size
      have hne : M ≠ w.heap.size := Nat.ne_of_lt hMs
      have hne2 := hne.symm
      have hneL : W.heap.size ≠ M := by omega
      have hneG : W.heap.size + 1 ≠ M := by omega
      clear l2 g2 b2 m0 mf t0 q0 b0
      go_wp2_with fail
      go_region_held3 (fun w' => w'.cell? ⟨w.heap.size, 0, none⟩ = some (.int .i64 1) ∧ w'.cell? ⟨W.heap.size, 0, none⟩ = some (.int .i64 ((-1))) ∧ w'.cell? ⟨W.heap.size, 1, none⟩ = some (.int .i64 ((-1))) ∧ w'.cell? ⟨W.heap.size + 1, 0, none⟩ = some (.int .i64 1) ∧ w'.cell? ⟨W.heap.size + 1, 1, none⟩ = some (.int .i64 1)) (first | (refine ⟨?_, ?_, ?_, ?_, ?_⟩ <;> with_reducible assumption) | (refine ⟨keep1 ?_ ?_, keep1 ?_ ?_, keep1 ?_ ?_, keep1 ?_ ?_, keep1 ?_ ?_⟩ <;> with_reducible assumption))
        ((go_at_call 64; refine (betwBall_any (inBall 1 way) w.heap.size T ((-1)) ((-1)) 1 1 w2.drew (by decide) (by decide) (by decide) (by decide) (by decide) (by decide) (by decide) (by decide) (fun x y w1 hx1 hx2 hy1 hy2 hb1 => ballIn_any T w.heap.size x y 1 way w1 hw ⟨hx1, hx2, hy1, hy2⟩ (Nat.lt_of_lt_of_le hTs hb1.size) (Nat.lt_of_lt_of_le hRs hb1.size) ((hb1.cell (p := ⟨T, 0, none⟩) hTs).trans t2) ((hb1.cell (p := ⟨w.heap.size, 0, none⟩) hRs).trans q2))).mono ?_; rintro e w3 ⟨v3, rfl, o3, hb⟩; obtain ⟨A3, c3', rfl, _, _⟩ := o3.reads.slice; have bw3 := bb.trans (hb.mono bb.size); have q2 := (hb.cell (p := ⟨w.heap.size, 0, none⟩) hRs).trans q2; have c0 := (hb.cell (p := ⟨W.heap.size, 0, none⟩) hLs).trans c0; have c1 := (hb.cell (p := ⟨W.heap.size, 1, none⟩) hLs).trans c1; have c2 := (hb.cell (p := ⟨W.heap.size + 1, 0, none⟩) hGs).trans c2; have c3 := (hb.cell (p := ⟨W.heap.size + 1, 1, none⟩) hGs).trans c3; have m2 := (hb.cell (p := ⟨M, 1, none⟩) hM2).trans m2; have mf2 := (hb.frozen (p := ⟨M, 1, none⟩) hM2).trans mf2))
      go_wp2
      go_ret
      have HL : betw (inBall 1 way) ((-1), (-1)) (1, 1) = ballL 1 way := (ball_yes (ballOk_yes (by decide) hw)).symm
      exact ⟨_, rfl, by rw [← HL]; exact (o3.setOther (a := ⟨M, 1, none⟩) hM2 _).base (Nat.le_of_lt hRs), (bw3.mono (Nat.le_of_lt hMs)).setCell (p := ⟨M, 1, none⟩) (Nat.le_refl _) _⟩
    · obtain ⟨w2, hw2⟩ : ∃ w2, w2 = ((W.alloc (.cells #[.int .i64 1, .int .i64 1] 42)).alloc (.cells #[.int .i64 (-1), .int .i64 (-1)] 42)).drew := ⟨_, rfl⟩
      have b2 : Below W.heap.size W w2 := by rw [hw2]; exact (((Below.refl _ _).alloc (Nat.le_refl _) _).alloc (by simp) _).drew
      have l2 : w2.heap[W.heap.size + 1]? = some (.cells #[.int .i64 ((-1)), .int .i64 ((-1))] 42 (0, 0)) := by rw [hw2]; exact second_block _ _ _
      have g2 : w2.heap[W.heap.size]? = some (.cells #[.int .i64 1, .int .i64 1] 42 (0, 0)) := by rw [hw2]; exact first_block _ _ _
      rw [← hw2]
      clear hw2 hwr
      obtain ⟨c0, c1⟩ := cells_of_row l2
      obtain ⟨c2, c3⟩ := cells_of_row g2
      have c0 : w2.drew.cell? ⟨W.heap.size + 1, 0, none⟩ = some (.int .i64 ((-1))) := c0
      have c1 : w2.drew.cell? ⟨W.heap.size + 1, 1, none⟩ = some (.int .i64 ((-1))) := c1
      have c2 : w2.drew.cell? ⟨W.heap.size, 0, none⟩ = some (.int .i64 1) := c2
      have c3 : w2.drew.cell? ⟨W.heap.size, 1, none⟩ = some (.int .i64 1) := c3
      have q2 : w2.drew.cell? ⟨w.heap.size, 0, none⟩ = some (.int .i64 1) := (b2.cell (p := ⟨w.heap.size, 0, none⟩) s0).trans q0
      have hMW : M < W.heap.size := Nat.lt_trans hMs s0
      have m2 : w2.drew.cell? ⟨M, 1, none⟩ = some (.slice none 0 0) := (b2.cell (p := ⟨M, 1, none⟩) hMW).trans m0
      have mf2 : w2.drew.frozen? ⟨M, 1, none⟩ = false := (b2.frozen (p := ⟨M, 1, none⟩) hMW).trans mf
      have t2 : w2.drew.cell? ⟨T, 0, none⟩ = some (.func (.func (tellF way)) #[] #[]) := (b2.cell (p := ⟨T, 0, none⟩) (Nat.lt_of_lt_of_le hM.t b0.size)).trans t0
      have bb : Below w.heap.size w w2.drew := (below_step b0 b2).drew
      have hLs : W.heap.size + 1 < w2.drew.heap.size := (Array.getElem?_eq_some_iff.1 l2).1
      have hGs : W.heap.size < w2.drew.heap.size := (Array.getElem?_eq_some_iff.1 g2).1
      have hRs : w.heap.size < w2.drew.heap.size := Nat.lt_of_lt_of_le s0 b2.size
      have hTs : T < w2.drew.heap.size := Nat.lt_of_lt_of_le hM.t bb.size
      have hM2 : M < w2.drew.heap.size := Nat.lt_of_lt_of_le hMs bb.size
      have hne : M ≠ w.heap.size := Nat.ne_of_lt hMs
      have hne2 := hne.symm
      have hneL : W.heap.size + 1 ≠ M := by omega
      have hneG : W.heap.size ≠ M := by omega
      clear l2 g2 b2 m0 mf t0 q0 b0
      go_wp2_with fail
      go_region_held3 (fun w' => w'.cell? ⟨w.heap.size, 0, none⟩ = some (.int .i64 1) ∧ w'.cell? ⟨W.heap.size + 1, 0, none⟩ = some (.int .i64 ((-1))) ∧ w'.cell? ⟨W.heap.size + 1, 1, none⟩ = some (.int .i64 ((-1))) ∧ w'.cell? ⟨W.heap.size, 0, none⟩ = some (.int .i64 1) ∧ w'.cell? ⟨W.heap.size, 1, none⟩ = some (.int .i64 1)) (first | (refine ⟨?_, ?_, ?_, ?_, ?_⟩ <;> with_reducible assumption) | (refine ⟨keep1 ?_ ?_, keep1 ?_ ?_, keep1 ?_ ?_, keep1 ?_ ?_, keep1 ?_ ?_⟩ <;> with_reducible assumption))
        ((go_at_call 64; refine (betwBall_any (inBall 1 way) w.heap.size T ((-1)) ((-1)) 1 1 w2.drew (by decide) (by decide) (by decide) (by decide) (by decide) (by decide) (by decide) (by decide) (fun x y w1 hx1 hx2 hy1 hy2 hb1 => ballIn_any T w.heap.size x y 1 way w1 hw ⟨hx1, hx2, hy1, hy2⟩ (Nat.lt_of_lt_of_le hTs hb1.size) (Nat.lt_of_lt_of_le hRs hb1.size) ((hb1.cell (p := ⟨T, 0, none⟩) hTs).trans t2) ((hb1.cell (p := ⟨w.heap.size, 0, none⟩) hRs).trans q2))).mono ?_; rintro e w3 ⟨v3, rfl, o3, hb⟩; obtain ⟨A3, c3', rfl, _, _⟩ := o3.reads.slice; have bw3 := bb.trans (hb.mono bb.size); have q2 := (hb.cell (p := ⟨w.heap.size, 0, none⟩) hRs).trans q2; have c0 := (hb.cell (p := ⟨W.heap.size + 1, 0, none⟩) hLs).trans c0; have c1 := (hb.cell (p := ⟨W.heap.size + 1, 1, none⟩) hLs).trans c1; have c2 := (hb.cell (p := ⟨W.heap.size, 0, none⟩) hGs).trans c2; have c3 := (hb.cell (p := ⟨W.heap.size, 1, none⟩) hGs).trans c3; have m2 := (hb.cell (p := ⟨M, 1, none⟩) hM2).trans m2; have mf2 := (hb.frozen (p := ⟨M, 1, none⟩) hM2).trans mf2))
      go_wp2
      go_ret
      have HL : betw (inBall 1 way) ((-1), (-1)) (1, 1) = ballL 1 way := (ball_yes (ballOk_yes (by decide) hw)).symm
      exact ⟨_, rfl, by rw [← HL]; exact (o3.setOther (a := ⟨M, 1, none⟩) hM2 _).base (Nat.le_of_lt hRs), (bw3.mono (Nat.le_of_lt hMs)).setCell (p := ⟨M, 1, none⟩) (Nat.le_refl _) _⟩
  · have rowM := (cell_of_row w _ 2 _ _ _ hM.row).trans (show _ = some (Value.slice none 0 0) from rfl)
    have hMs := hM.m
    have hnil : ∀ W, (binOp .eql 23 (.slice none 0 0) (.slice none 0 0)).run Try.prog W = .ok (.bool true) W := fun W => Lib.run_eql_slice_nil W _ _ none 0 0 0 0 Try.underlying23
    have b0 := box_below w #[.int .i64 2] 3
    obtain ⟨W, hW⟩ : ∃ W, W = w.alloc (.cells #[.int .i64 2] 3) := ⟨_, rfl⟩
    have q0 : W.cell? ⟨w.heap.size, 0, none⟩ = some (.int .i64 2) := by rw [hW]; simp [go_sem]
    have s0 : w.heap.size < W.heap.size := by rw [hW]; simp
    rw [← hW] at b0
    have m0 := (b0.cell (p := ⟨M, 2, none⟩) hMs).trans rowM
    have mf := frozen_of_row W _ 2 _ _ ((b0.block M hMs).trans hM.row)
    have t0 := (b0.cell (p := ⟨T, 0, none⟩) hM.t).trans hM.tell
    clear rowM
    have hwr : IntKind.i64.wrap (-2) = (-2) := by decide
    go_enter Try.func107, Try.ntmps107
    go_wp2_with (first | (rw [← hW]; clear hW) | fail)
    go_wp2
    go_region_held3 (fun w' => w'.cell? ⟨w.heap.size, 0, none⟩ = some (.int .i64 2)) (go_keep) (fail)
    · obtain ⟨w2, hw2⟩ : ∃ w2, w2 = ((W.alloc (.cells #[.int .i64 (-2), .int .i64 (-2)] 42)).alloc (.cells #[.int .i64 2, .int .i64 2] 42)).drew := ⟨_, rfl⟩
      have b2 : Below W.heap.size W w2 := by rw [hw2]; exact (((Below.refl _ _).alloc (Nat.le_refl _) _).alloc (by simp) _).drew
      have l2 : w2.heap[W.heap.size]? = some (.cells #[.int .i64 ((-2)), .int .i64 ((-2))] 42 (0, 0)) := by rw [hw2]; exact first_block _ _ _
      have g2 : w2.heap[W.heap.size + 1]? = some (.cells #[.int .i64 2, .int .i64 2] 42 (0, 0)) := by rw [hw2]; exact second_block _ _ _
      rw [← hw2]
      clear hw2 hwr
      obtain ⟨c0, c1⟩ := cells_of_row l2
      obtain ⟨c2, c3⟩ := cells_of_row g2
      have c0 : w2.drew.cell? ⟨W.heap.size, 0, none⟩ = some (.int .i64 ((-2))) := c0
      have c1 : w2.drew.cell? ⟨W.heap.size, 1, none⟩ = some (.int .i64 ((-2))) := c1
      have c2 : w2.drew.cell? ⟨W.heap.size + 1, 0, none⟩ = some (.int .i64 2) := c2
      have c3 : w2.drew.cell? ⟨W.heap.size + 1, 1, none⟩ = some (.int .i64 2) := c3
      have q2 : w2.drew.cell? ⟨w.heap.size, 0, none⟩ = some (.int .i64 2) := (b2.cell (p := ⟨w.heap.size, 0, none⟩) s0).trans q0
      have hMW : M < W.heap.size := Nat.lt_trans hMs s0
      have m2 : w2.drew.cell? ⟨M, 2, none⟩ = some (.slice none 0 0) := (b2.cell (p := ⟨M, 2, none⟩) hMW).trans m0
      have mf2 : w2.drew.frozen? ⟨M, 2, none⟩ = false := (b2.frozen (p := ⟨M, 2, none⟩) hMW).trans mf
      have t2 : w2.drew.cell? ⟨T, 0, none⟩ = some (.func (.func (tellF way)) #[] #[]) := (b2.cell (p := ⟨T, 0, none⟩) (Nat.lt_of_lt_of_le hM.t b0.size)).trans t0
      have bb : Below w.heap.size w w2.drew := (below_step b0 b2).drew
      have hLs : W.heap.size < w2.drew.heap.size := (Array.getElem?_eq_some_iff.1 l2).1
      have hGs : W.heap.size + 1 < w2.drew.heap.size := (Array.getElem?_eq_some_iff.1 g2).1
      have hRs : w.heap.size < w2.drew.heap.size := Nat.lt_of_lt_of_le s0 b2.size
      have hTs : T < w2.drew.heap.size := Nat.lt_of_lt_of_le hM.t bb.size
      have hM2 : M < w2.drew.heap.size := Nat.lt_of_lt_of_le hMs bb.size
      have hne : M ≠ w.heap.size := Nat.ne_of_lt hMs
      have hne2 := hne.symm
      have hneL : W.heap.size ≠ M := by omega
      have hneG : W.heap.size + 1 ≠ M := by omega
      clear l2 g2 b2 m0 mf t0 q0 b0
      go_wp2_with fail
      go_region_held3 (fun w' => w'.cell? ⟨w.heap.size, 0, none⟩ = some (.int .i64 2) ∧ w'.cell? ⟨W.heap.size, 0, none⟩ = some (.int .i64 ((-2))) ∧ w'.cell? ⟨W.heap.size, 1, none⟩ = some (.int .i64 ((-2))) ∧ w'.cell? ⟨W.heap.size + 1, 0, none⟩ = some (.int .i64 2) ∧ w'.cell? ⟨W.heap.size + 1, 1, none⟩ = some (.int .i64 2)) (first | (refine ⟨?_, ?_, ?_, ?_, ?_⟩ <;> with_reducible assumption) | (refine ⟨keep1 ?_ ?_, keep1 ?_ ?_, keep1 ?_ ?_, keep1 ?_ ?_, keep1 ?_ ?_⟩ <;> with_reducible assumption))
        ((go_at_call 64; refine (betwBall_any (inBall 2 way) w.heap.size T ((-2)) ((-2)) 2 2 w2.drew (by decide) (by decide) (by decide) (by decide) (by decide) (by decide) (by decide) (by decide) (fun x y w1 hx1 hx2 hy1 hy2 hb1 => ballIn_any T w.heap.size x y 2 way w1 hw ⟨hx1, hx2, hy1, hy2⟩ (Nat.lt_of_lt_of_le hTs hb1.size) (Nat.lt_of_lt_of_le hRs hb1.size) ((hb1.cell (p := ⟨T, 0, none⟩) hTs).trans t2) ((hb1.cell (p := ⟨w.heap.size, 0, none⟩) hRs).trans q2))).mono ?_; rintro e w3 ⟨v3, rfl, o3, hb⟩; obtain ⟨A3, c3', rfl, _, _⟩ := o3.reads.slice; have bw3 := bb.trans (hb.mono bb.size); have q2 := (hb.cell (p := ⟨w.heap.size, 0, none⟩) hRs).trans q2; have c0 := (hb.cell (p := ⟨W.heap.size, 0, none⟩) hLs).trans c0; have c1 := (hb.cell (p := ⟨W.heap.size, 1, none⟩) hLs).trans c1; have c2 := (hb.cell (p := ⟨W.heap.size + 1, 0, none⟩) hGs).trans c2; have c3 := (hb.cell (p := ⟨W.heap.size + 1, 1, none⟩) hGs).trans c3; have m2 := (hb.cell (p := ⟨M, 2, none⟩) hM2).trans m2; have mf2 := (hb.frozen (p := ⟨M, 2, none⟩) hM2).trans mf2))
      go_wp2
      go_ret
      have HL : betw (inBall 2 way) ((-2), (-2)) (2, 2) = ballL 2 way := (ball_yes (ballOk_yes (by decide) hw)).symm
      exact ⟨_, rfl, by rw [← HL]; exact (o3.setOther (a := ⟨M, 2, none⟩) hM2 _).base (Nat.le_of_lt hRs), (bw3.mono (Nat.le_of_lt hMs)).setCell (p := ⟨M, 2, none⟩) (Nat.le_refl _) _⟩
    · obtain ⟨w2, hw2⟩ : ∃ w2, w2 = ((W.alloc (.cells #[.int .i64 2, .int .i64 2] 42)).alloc (.cells #[.int .i64 (-2), .int .i64 (-2)] 42)).drew := ⟨_, rfl⟩
      have b2 : Below W.heap.size W w2 := by rw [hw2]; exact (((Below.refl _ _).alloc (Nat.le_refl _) _).alloc (by simp) _).drew
      have l2 : w2.heap[W.heap.size + 1]? = some (.cells #[.int .i64 ((-2)), .int .i64 ((-2))] 42 (0, 0)) := by rw [hw2]; exact second_block _ _ _
      have g2 : w2.heap[W.heap.size]? = some (.cells #[.int .i64 2, .int .i64 2] 42 (0, 0)) := by rw [hw2]; exact first_block _ _ _
      rw [← hw2]
      clear hw2 hwr
      obtain ⟨c0, c1⟩ := cells_of_row l2
      obtain ⟨c2, c3⟩ := cells_of_row g2
      have c0 : w2.drew.cell? ⟨W.heap.size + 1, 0, none⟩ = some (.int .i64 ((-2))) := c0
      have c1 : w2.drew.cell? ⟨W.heap.size + 1, 1, none⟩ = some (.int .i64 ((-2))) := c1
      have c2 : w2.drew.cell? ⟨W.heap.size, 0, none⟩ = some (.int .i64 2) := c2
      have c3 : w2.drew.cell? ⟨W.heap.size, 1, none⟩ = some (.int .i64 2) := c3
      have q2 : w2.drew.cell? ⟨w.heap.size, 0, none⟩ = some (.int .i64 2) := (b2.cell (p := ⟨w.heap.size, 0, none⟩) s0).trans q0
      have hMW : M < W.heap.size := Nat.lt_trans hMs s0
      have m2 : w2.drew.cell? ⟨M, 2, none⟩ = some (.slice none 0 0) := (b2.cell (p := ⟨M, 2, none⟩) hMW).trans m0
      have mf2 : w2.drew.frozen? ⟨M, 2, none⟩ = false := (b2.frozen (p := ⟨M, 2, none⟩) hMW).trans mf
      have t2 : w2.drew.cell? ⟨T, 0, none⟩ = some (.func (.func (tellF way)) #[] #[]) := (b2.cell (p := ⟨T, 0, none⟩) (Nat.lt_of_lt_of_le hM.t b0.size)).trans t0
      have bb : Below w.heap.size w w2.drew := (below_step b0 b2).drew
      have hLs : W.heap.size + 1 < w2.drew.heap.size := (Array.getElem?_eq_some_iff.1 l2).1
      have hGs : W.heap.size < w2.drew.heap.size := (Array.getElem?_eq_some_iff.1 g2).1
      have hRs : w.heap.size < w2.drew.heap.size := Nat.lt_of_lt_of_le s0 b2.size
      have hTs : T < w2.drew.heap.size := Nat.lt_of_lt_of_le hM.t bb.size
      have hM2 : M < w2.drew.heap.size := Nat.lt_of_lt_of_le hMs bb.size
      have hne : M ≠ w.heap.size := Nat.ne_of_lt hMs
      have hne2 := hne.symm
      have hneL : W.heap.size + 1 ≠ M := by omega
      have hneG : W.heap.size ≠ M := by omega
      clear l2 g2 b2 m0 mf t0 q0 b0
      go_wp2_with fail
      go_region_held3 (fun w' => w'.cell? ⟨w.heap.size, 0, none⟩ = some (.int .i64 2) ∧ w'.cell? ⟨W.heap.size + 1, 0, none⟩ = some (.int .i64 ((-2))) ∧ w'.cell? ⟨W.heap.size + 1, 1, none⟩ = some (.int .i64 ((-2))) ∧ w'.cell? ⟨W.heap.size, 0, none⟩ = some (.int .i64 2) ∧ w'.cell? ⟨W.heap.size, 1, none⟩ = some (.int .i64 2)) (first | (refine ⟨?_, ?_, ?_, ?_, ?_⟩ <;> with_reducible assumption) | (refine ⟨keep1 ?_ ?_, keep1 ?_ ?_, keep1 ?_ ?_, keep1 ?_ ?_, keep1 ?_ ?_⟩ <;> with_reducible assumption))
        ((go_at_call 64; refine (betwBall_any (inBall 2 way) w.heap.size T ((-2)) ((-2)) 2 2 w2.drew (by decide) (by decide) (by decide) (by decide) (by decide) (by decide) (by decide) (by decide) (fun x y w1 hx1 hx2 hy1 hy2 hb1 => ballIn_any T w.heap.size x y 2 way w1 hw ⟨hx1, hx2, hy1, hy2⟩ (Nat.lt_of_lt_of_le hTs hb1.size) (Nat.lt_of_lt_of_le hRs hb1.size) ((hb1.cell (p := ⟨T, 0, none⟩) hTs).trans t2) ((hb1.cell (p := ⟨w.heap.size, 0, none⟩) hRs).trans q2))).mono ?_; rintro e w3 ⟨v3, rfl, o3, hb⟩; obtain ⟨A3, c3', rfl, _, _⟩ := o3.reads.slice; have bw3 := bb.trans (hb.mono bb.size); have q2 := (hb.cell (p := ⟨w.heap.size, 0, none⟩) hRs).trans q2; have c0 := (hb.cell (p := ⟨W.heap.size + 1, 0, none⟩) hLs).trans c0; have c1 := (hb.cell (p := ⟨W.heap.size + 1, 1, none⟩) hLs).trans c1; have c2 := (hb.cell (p := ⟨W.heap.size, 0, none⟩) hGs).trans c2; have c3 := (hb.cell (p := ⟨W.heap.size, 1, none⟩) hGs).trans c3; have m2 := (hb.cell (p := ⟨M, 2, none⟩) hM2).trans m2; have mf2 := (hb.frozen (p := ⟨M, 2, none⟩) hM2).trans mf2))
      go_wp2
      go_ret
      have HL : betw (inBall 2 way) ((-2), (-2)) (2, 2) = ballL 2 way := (ball_yes (ballOk_yes (by decide) hw)).symm
      exact ⟨_, rfl, by rw [← HL]; exact (o3.setOther (a := ⟨M, 2, none⟩) hM2 _).base (Nat.le_of_lt hRs), (bw3.mono (Nat.le_of_lt hMs)).setCell (p := ⟨M, 2, none⟩) (Nat.le_refl _) _⟩
  · have rowM := (cell_of_row w _ 3 _ _ _ hM.row).trans (show _ = some (Value.slice none 0 0) from rfl)
    have hMs := hM.m
    have hnil : ∀ W, (binOp .eql 23 (.slice none 0 0) (.slice none 0 0)).run Try.prog W = .ok (.bool true) W := fun W => Lib.run_eql_slice_nil W _ _ none 0 0 0 0 Try.underlying23
    have b0 := box_below w #[.int .i64 3] 3
    obtain ⟨W, hW⟩ : ∃ W, W = w.alloc (.cells #[.int .i64 3] 3) := ⟨_, rfl⟩
    have q0 : W.cell? ⟨w.heap.size, 0, none⟩ = some (.int .i64 3) := by rw [hW]; simp [go_sem]
    have s0 : w.heap.size < W.heap.size := by rw [hW]; simp
    rw [← hW] at b0
    have m0 := (b0.cell (p := ⟨M, 3, none⟩) hMs).trans rowM
    have mf := frozen_of_row W _ 3 _ _ ((b0.block M hMs).trans hM.row)
    have t0 := (b0.cell (p := ⟨T, 0, none⟩) hM.t).trans hM.tell
    clear rowM
    have hwr : IntKind.i64.wrap (-3) = (-3) := by decide
    go_enter Try.func107, Try.ntmps107
    go_wp2_with (first | (rw [← hW]; clear hW) | fail)
    go_wp2
    go_region_held3 (fun w' => w'.cell? ⟨w.heap.size, 0, none⟩ = some (.int .i64 3)) (go_keep) (fail)
    · obtain ⟨w2, hw2⟩ : ∃ w2, w2 = ((W.alloc (.cells #[.int .i64 (-3), .int .i64 (-3)] 42)).alloc (.cells #[.int .i64 3, .int .i64 3] 42)).drew := ⟨_, rfl⟩
      have b2 : Below W.heap.size W w2 := by rw [hw2]; exact (((Below.refl _ _).alloc (Nat.le_refl _) _).alloc (by simp) _).drew
      have l2 : w2.heap[W.heap.size]? = some (.cells #[.int .i64 ((-3)), .int .i64 ((-3))] 42 (0, 0)) := by rw [hw2]; exact first_block _ _ _
      have g2 : w2.heap[W.heap.size + 1]? = some (.cells #[.int .i64 3, .int .i64 3] 42 (0, 0)) := by rw [hw2]; exact second_block _ _ _
      rw [← hw2]
      clear hw2 hwr
      obtain ⟨c0, c1⟩ := cells_of_row l2
      obtain ⟨c2, c3⟩ := cells_of_row g2
      have c0 : w2.drew.cell? ⟨W.heap.size, 0, none⟩ = some (.int .i64 ((-3))) := c0
      have c1 : w2.drew.cell? ⟨W.heap.size, 1, none⟩ = some (.int .i64 ((-3))) := c1
      have c2 : w2.drew.cell? ⟨W.heap.size + 1, 0, none⟩ = some (.int .i64 3) := c2
      have c3 : w2.drew.cell? ⟨W.heap.size + 1, 1, none⟩ = some (.int .i64 3) := c3
      have q2 : w2.drew.cell? ⟨w.heap.size, 0, none⟩ = some (.int .i64 3) := (b2.cell (p := ⟨w.heap.size, 0, none⟩) s0).trans q0
      have hMW : M < W.heap.size := Nat.lt_trans hMs s0
      have m2 : w2.drew.cell? ⟨M, 3, none⟩ = some (.slice none 0 0) := (b2.cell (p := ⟨M, 3, none⟩) hMW).trans m0
      have mf2 : w2.drew.frozen? ⟨M, 3, none⟩ = false := (b2.frozen (p := ⟨M, 3, none⟩) hMW).trans mf
      have t2 : w2.drew.cell? ⟨T, 0, none⟩ = some (.func (.func (tellF way)) #[] #[]) := (b2.cell (p := ⟨T, 0, none⟩) (Nat.lt_of_lt_of_le hM.t b0.size)).trans t0
      have bb : Below w.heap.size w w2.drew := (below_step b0 b2).drew
      have hLs : W.heap.size < w2.drew.heap.size := (Array.getElem?_eq_some_iff.1 l2).1
      have hGs : W.heap.size + 1 < w2.drew.heap.size := (Array.getElem?_eq_some_iff.1 g2).1
      have hRs : w.heap.size < w2.drew.heap.size := Nat.lt_of_lt_of_le s0 b2.size
      have hTs : T < w2.drew.heap.size := Nat.lt_of_lt_of_le hM.t bb.size
      have hM2 : M < w2.drew.heap.size := Nat.lt_of_lt_of_le hMs bb.size
      have hne : M ≠ w.heap.size := Nat.ne_of_lt hMs
      have hne2 := hne.symm
      have hneL : W.heap.size ≠ M := by omega
      have hneG : W.heap.size + 1 ≠ M := by omega
      clear l2 g2 b2 m0 mf t0 q0 b0
      go_wp2_with fail
      go_region_held3 (fun w' => w'.cell? ⟨w.heap.size, 0, none⟩ = some (.int .i64 3) ∧ w'.cell? ⟨W.heap.size, 0, none⟩ = some (.int .i64 ((-3))) ∧ w'.cell? ⟨W.heap.size, 1, none⟩ = some (.int .i64 ((-3))) ∧ w'.cell? ⟨W.heap.size + 1, 0, none⟩ = some (.int .i64 3) ∧ w'.cell? ⟨W.heap.size + 1, 1, none⟩ = some (.int .i64 3)) (first | (refine ⟨?_, ?_, ?_, ?_, ?_⟩ <;> with_reducible assumption) | (refine ⟨keep1 ?_ ?_, keep1 ?_ ?_, keep1 ?_ ?_, keep1 ?_ ?_, keep1 ?_ ?_⟩ <;> with_reducible assumption))
        ((go_at_call 64; refine (betwBall_any (inBall 3 way) w.heap.size T ((-3)) ((-3)) 3 3 w2.drew (by decide) (by decide) (by decide) (by decide) (by decide) (by decide) (by decide) (by decide) (fun x y w1 hx1 hx2 hy1 hy2 hb1 => ballIn_any T w.heap.size x y 3 way w1 hw ⟨hx1, hx2, hy1, hy2⟩ (Nat.lt_of_lt_of_le hTs hb1.size) (Nat.lt_of_lt_of_le hRs hb1.size) ((hb1.cell (p := ⟨T, 0, none⟩) hTs).trans t2) ((hb1.cell (p := ⟨w.heap.size, 0, none⟩) hRs).trans q2))).mono ?_; rintro e w3 ⟨v3, rfl, o3, hb⟩; obtain ⟨A3, c3', rfl, _, _⟩ := o3.reads.slice; have bw3 := bb.trans (hb.mono bb.size); have q2 := (hb.cell (p := ⟨w.heap.size, 0, none⟩) hRs).trans q2; have c0 := (hb.cell (p := ⟨W.heap.size, 0, none⟩) hLs).trans c0; have c1 := (hb.cell (p := ⟨W.heap.size, 1, none⟩) hLs).trans c1; have c2 := (hb.cell (p := ⟨W.heap.size + 1, 0, none⟩) hGs).trans c2; have c3 := (hb.cell (p := ⟨W.heap.size + 1, 1, none⟩) hGs).trans c3; have m2 := (hb.cell (p := ⟨M, 3, none⟩) hM2).trans m2; have mf2 := (hb.frozen (p := ⟨M, 3, none⟩) hM2).trans mf2))
      go_wp2
      go_ret
      have HL : betw (inBall 3 way) ((-3), (-3)) (3, 3) = ballL 3 way := (ball_yes (ballOk_yes (by decide) hw)).symm
      exact ⟨_, rfl, by rw [← HL]; exact (o3.setOther (a := ⟨M, 3, none⟩) hM2 _).base (Nat.le_of_lt hRs), (bw3.mono (Nat.le_of_lt hMs)).setCell (p := ⟨M, 3, none⟩) (Nat.le_refl _) _⟩
    · obtain ⟨w2, hw2⟩ : ∃ w2, w2 = ((W.alloc (.cells #[.int .i64 3, .int .i64 3] 42)).alloc (.cells #[.int .i64 (-3), .int .i64 (-3)] 42)).drew := ⟨_, rfl⟩
      have b2 : Below W.heap.size W w2 := by rw [hw2]; exact (((Below.refl _ _).alloc (Nat.le_refl _) _).alloc (by simp) _).drew
      have l2 : w2.heap[W.heap.size + 1]? = some (.cells #[.int .i64 ((-3)), .int .i64 ((-3))] 42 (0, 0)) := by rw [hw2]; exact second_block _ _ _
      have g2 : w2.heap[W.heap.size]? = some (.cells #[.int .i64 3, .int .i64 3] 42 (0, 0)) := by rw [hw2]; exact first_block _ _ _
      rw [← hw2]
      clear hw2 hwr
      obtain ⟨c0, c1⟩ := cells_of_row l2
      obtain ⟨c2, c3⟩ := cells_of_row g2
      have c0 : w2.drew.cell? ⟨W.heap.size + 1, 0, none⟩ = some (.int .i64 ((-3))) := c0
      have c1 : w2.drew.cell? ⟨W.heap.size + 1, 1, none⟩ = some (.int .i64 ((-3))) := c1
      have c2 : w2.drew.cell? ⟨W.heap.size, 0, none⟩ = some (.int .i64 3) := c2
      have c3 : w2.drew.cell? ⟨W.heap.size, 1, none⟩ = some (.int .i64 3) := c3
      have q2 : w2.drew.cell? ⟨w.heap.size, 0, none⟩ = some (.int .i64 3) := (b2.cell (p := ⟨w.heap.size, 0, none⟩) s0).trans q0
      have hMW : M < W.heap.size := Nat.lt_trans hMs s0
      have m2 : w2.drew.cell? ⟨M, 3, none⟩ = some (.slice none 0 0) := (b2.cell (p := ⟨M, 3, none⟩) hMW).trans m0
      have mf2 : w2.drew.frozen? ⟨M, 3, none⟩ = false := (b2.frozen (p := ⟨M, 3, none⟩) hMW).trans mf
      have t2 : w2.drew.cell? ⟨T, 0, none⟩ = some (.func (.func (tellF way)) #[] #[]) := (b2.cell (p := ⟨T, 0, none⟩) (Nat.lt_of_lt_of_le hM.t b0.size)).trans t0
      have bb : Below w.heap.size w w2.drew := (below_step b0 b2).drew
      have hLs : W.heap.size + 1 < w2.drew.heap.size := (Array.getElem?_eq_some_iff.1 l2).1
      have hGs : W.heap.size < w2.drew.heap.size := (Array.getElem?_eq_some_iff.1 g2).1
      have hRs : w.heap.size < w2.drew.heap.size := Nat.lt_of_lt_of_le s0 b2.size
      have hTs : T < w2.drew.heap.size := Nat.lt_of_lt_of_le hM.t bb.size
      have hM2 : M < w2.drew.heap.size := Nat.lt_of_lt_of_le hMs bb.size
      have hne : M ≠ w.heap.size := Nat.ne_of_lt hMs
      have hne2 := hne.symm
      have hneL : W.heap.size + 1 ≠ M := by omega
      have hneG : W.heap.size ≠ M := by omega
      clear l2 g2 b2 m0 mf t0 q0 b0
      go_wp2_with fail
      go_region_held3 (fun w' => w'.cell? ⟨w.heap.size, 0, none⟩ = some (.int .i64 3) ∧ w'.cell? ⟨W.heap.size + 1, 0, none⟩ = some (.int .i64 ((-3))) ∧ w'.cell? ⟨W.heap.size + 1, 1, none⟩ = some (.int .i64 ((-3))) ∧ w'.cell? ⟨W.heap.size, 0, none⟩ = some (.int .i64 3) ∧ w'.cell? ⟨W.heap.size, 1, none⟩ = some (.int .i64 3)) (first | (refine ⟨?_, ?_, ?_, ?_, ?_⟩ <;> with_reducible assumption) | (refine ⟨keep1 ?_ ?_, keep1 ?_ ?_, keep1 ?_ ?_, keep1 ?_ ?_, keep1 ?_ ?_⟩ <;> with_reducible assumption))
        ((go_at_call 64; refine (betwBall_any (inBall 3 way) w.heap.size T ((-3)) ((-3)) 3 3 w2.drew (by decide) (by decide) (by decide) (by decide) (by decide) (by decide) (by decide) (by decide) (fun x y w1 hx1 hx2 hy1 hy2 hb1 => ballIn_any T w.heap.size x y 3 way w1 hw ⟨hx1, hx2, hy1, hy2⟩ (Nat.lt_of_lt_of_le hTs hb1.size) (Nat.lt_of_lt_of_le hRs hb1.size) ((hb1.cell (p := ⟨T, 0, none⟩) hTs).trans t2) ((hb1.cell (p := ⟨w.heap.size, 0, none⟩) hRs).trans q2))).mono ?_; rintro e w3 ⟨v3, rfl, o3, hb⟩; obtain ⟨A3, c3', rfl, _, _⟩ := o3.reads.slice; have bw3 := bb.trans (hb.mono bb.size); have q2 := (hb.cell (p := ⟨w.heap.size, 0, none⟩) hRs).trans q2; have c0 := (hb.cell (p := ⟨W.heap.size + 1, 0, none⟩) hLs).trans c0; have c1 := (hb.cell (p := ⟨W.heap.size + 1, 1, none⟩) hLs).trans c1; have c2 := (hb.cell (p := ⟨W.heap.size, 0, none⟩) hGs).trans c2; have c3 := (hb.cell (p := ⟨W.heap.size, 1, none⟩) hGs).trans c3; have m2 := (hb.cell (p := ⟨M, 3, none⟩) hM2).trans m2; have mf2 := (hb.frozen (p := ⟨M, 3, none⟩) hM2).trans mf2))
      go_wp2
      go_ret
      have HL : betw (inBall 3 way) ((-3), (-3)) (3, 3) = ballL 3 way := (ball_yes (ballOk_yes (by decide) hw)).symm
      exact ⟨_, rfl, by rw [← HL]; exact (o3.setOther (a := ⟨M, 3, none⟩) hM2 _).base (Nat.le_of_lt hRs), (bw3.mono (Nat.le_of_lt hMs)).setCell (p := ⟨M, 3, none⟩) (Nat.le_refl _) _⟩
end Go.Proofs.Ytmpfhdcefilekaa
