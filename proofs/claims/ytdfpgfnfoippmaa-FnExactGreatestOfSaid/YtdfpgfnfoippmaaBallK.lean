/- The program's maker of balls asked again and again: each ball made once and kept, in one block that it writes to. No conditions but those typed. -/
import Derived.Test.YtdfpgfnfoippmaaBallI
namespace Go.Proofs.Ytdfpgfnfoippmaa
open Go.RowKit Go.Sort

/-- all old blocks but this one are as they were -/
abbrev But (M : Nat) (w w' : World) : Prop := w.grownBy w' (some M)
theorem But.refl (M : Nat) (w : World) : But M w w := ⟨rfl, rfl, rfl, Nat.le_refl _, fun _ _ _ => rfl⟩
theorem But.trans {M : Nat} {a b c : World} (h : But M a b) (k : But M b c) : But M a c :=
  ⟨k.os.trans h.os, k.tape.trans h.tape, k.output.trans h.output, Nat.le_trans h.size k.size, fun j hj hn => (k.block j (Nat.lt_of_lt_of_le hj h.size) hn).trans (h.block j hj hn)⟩
theorem But.of {M : Nat} {w w' : World} (h : Below w.heap.size w w') : But M w w' := ⟨h.os, h.tape, h.output, h.size, fun j hj _ => h.block j hj⟩
theorem But.then {M : Nat} {a b c : World} (h : But M a b) (k : Below b.heap.size b c) : But M a c := h.trans (But.of k)
theorem But.below {M B : Nat} {w w' : World} (h : But M w w') (hB : B ≤ M) (hw : B ≤ w.heap.size) : Below B w w' := (Below.refl _ _).grown h hw fun k hk => by cases hk; exact hB
theorem But.cell {M b o : Nat} {w w' : World} {v : Value} (h : But M w w') (hn : b ≠ M) (hc : w.cell? ⟨b, o, none⟩ = some v) : w'.cell? ⟨b, o, none⟩ = some v :=
  World.grownBy.cell h hc fun e => by injection e with e; exact hn e
theorem Owns.but {M : Nat} {w w' : World} {v : Value} {ps : List Sp} (h : Owns w (M + 1) v ps) (k : But M w w') : Owns w' (M + 1) v ps :=
  h.grown k (.inr fun e => by have := (h.lt M e).1; omega)

/-- a ball that is kept, or none so far -/
def Kept (way : Int) (M : Nat) (w : World) (r : Int) (v : Value) : Prop := v = .slice none 0 0 ∨ Owns w (M + 1) v (ballL r way)
theorem Kept.but {way : Int} {M : Nat} {w w' : World} {r : Int} {v : Value} (h : Kept way M w r v) (k : But M w w') : Kept way M w' r v := h.imp id fun h => h.but k
structure Making (M T : Nat) (way : Int) (w : World) : Prop where
  m : M < w.heap.size
  t : T < w.heap.size
  ne : M ≠ T
  row : ∃ v0 v1 v2 v3, w.heap[M]? = some (.cells #[v0, v1, v2, v3] 116 (0, 0)) ∧ Kept way M w 0 v0 ∧ Kept way M w 1 v1 ∧ Kept way M w 2 v2 ∧ Kept way M w 3 v3
  tell : w.cell? ⟨T, 0, none⟩ = some (.func (.func (tellF way)) #[] #[])
theorem Maker.making {M T : Nat} {way : Int} {w : World} (h : Maker M T way w) : Making M T way w :=
  ⟨h.m, h.t, h.ne, ⟨_, _, _, _, h.row, .inl rfl, .inl rfl, .inl rfl, .inl rfl⟩, h.tell⟩
theorem Making.below {M T : Nat} {way : Int} {w w' : World} (h : Making M T way w) (k : Below w.heap.size w w') : Making M T way w' := by
  obtain ⟨v0, v1, v2, v3, hr, h0, h1, h2, h3⟩ := h.row
  exact ⟨Nat.lt_of_lt_of_le h.m k.size, Nat.lt_of_lt_of_le h.t k.size, h.ne, ⟨v0, v1, v2, v3, (k.block M h.m).trans hr, h0.but (But.of k), h1.but (But.of k), h2.but (But.of k), h3.but (But.of k)⟩, (k.cell (p := ⟨T, 0, none⟩) h.t).trans h.tell⟩
/-- the ball of one radius is set, the other ones as they were -/
theorem Making.set {M T : Nat} {way : Int} {w w' : World} (h : Making M T way w) (k : But M w w') {v0 v1 v2 v3 : Value} (hr : w'.heap[M]? = some (.cells #[v0, v1, v2, v3] 116 (0, 0))) (h0 : Kept way M w' 0 v0) (h1 : Kept way M w' 1 v1) (h2 : Kept way M w' 2 v2) (h3 : Kept way M w' 3 v3) : Making M T way w' :=
  ⟨Nat.lt_of_lt_of_le h.m k.size, Nat.lt_of_lt_of_le h.t k.size, h.ne, ⟨v0, v1, v2, v3, hr, h0, h1, h2, h3⟩, k.cell h.ne.symm h.tell⟩
def BallPost (M T : Nat) (r way : Int) (w : World) (e : Ending) (w' : World) : Prop := ∃ v', e = .returned v' ∧ Owns w' (M + 1) v' (ballL r way) ∧ Making M T way w' ∧ But M w w'
theorem setCell_but (w : World) (M i : Nat) (v : Value) : But M w (w.setCell ⟨M, i, none⟩ v) :=
  ⟨rfl, rfl, rfl, by simp, fun j _ hn => heap_setCell_other _ _ _ _ fun e => hn (by rw [e])⟩
theorem kept_some {w : World} {M : Nat} {r way : Int} {v : Value} (hw : wayOk way = true) (h0 : 0 ≤ r) (h3 : r ≤ 3) (h : Owns w (M + 1) v (ballL r way)) : ∃ g cap, v = .slice (some ⟨g, 0, none⟩) (ballL r way).length cap := by
  have hp := ball_pos (show ballOk r way = true from ballOk_yes (decide_eq_true ⟨h0, h3⟩) hw)
  rcases h.2 with ⟨_, hn⟩ | ⟨g, cap, cur, hv, _⟩
  · omega
  · exact ⟨g, cap, hv⟩
set_option maxHeartbeats 1600000 in
set_option maxRecDepth 100000 in
theorem making_any (M T : Nat) (r way : Int) (w : World) (hw : wayOk way = true) (hr : 0 ≤ r ∧ r ≤ 3) (hM : Making M T way w) :
    Calls Try.prog 99 #[.int .i64 r, .pointer (some ⟨M, 0, none⟩), .pointer (some ⟨T, 0, none⟩)] w (BallPost M T r way w) := by
  obtain rfl | rfl | rfl | rfl : r = 0 ∨ r = 1 ∨ r = 2 ∨ r = 3 := by omega
  · obtain ⟨v0, v1, v2, v3, hrow, k0, k1, k2, k3⟩ := hM.row
    have HM := Lib.hid hM
    have HWAY := Lib.hid hw
    clear hM hw hr
    rcases k0 with rfl | ho
    · have HROW := Lib.hid (And.intro hrow (And.intro k1 (And.intro k2 k3)))
      clear hrow
      have hMs := HM.out.m
      have hTw := HM.out.t
      have hrowM := HROW.out.1
      have rowM := (cell_of_row w _ 0 _ _ _ hrowM).trans (show _ = some (Value.slice none 0 0) from rfl)
      have hnil : ∀ W, (binOp .eql 23 (Value.slice none 0 0) (.slice none 0 0)).run Try.prog W = .ok (.bool true) W := fun W => Lib.run_eql_slice_nil W _ _ _ _ _ 0 0 Try.underlying23
      have b0 := box_below w #[.int .i64 0] 3
      obtain ⟨W, hW⟩ : ∃ W, W = w.alloc (.cells #[.int .i64 0] 3) := ⟨_, rfl⟩
      have q0 : W.cell? ⟨w.heap.size, 0, none⟩ = some (.int .i64 0) := by rw [hW]; simp [go_sem]
      have s0 : w.heap.size < W.heap.size := by rw [hW]; simp
      rw [← hW] at b0
      have m0 := (b0.cell (p := ⟨M, 0, none⟩) hMs).trans rowM
      have mf := frozen_of_row W _ 0 _ _ ((b0.block M hMs).trans hrowM)
      have t0 := (b0.cell (p := ⟨T, 0, none⟩) hTw).trans HM.out.tell
      clear rowM hrowM
      have hwr : IntKind.i64.wrap 0 = 0 := by decide
      go_enter Try.func99, Try.ntmps99
      go_wp2_with (first | (rw [← hW]; clear hW) | fail)
      go_wp2
      go_region_held3 (fun w' => w'.cell? ⟨w.heap.size, 0, none⟩ = some (.int .i64 0)) (go_keep) (fail)
      · obtain ⟨w2, hw2⟩ : ∃ w2, w2 = ((W.alloc (.cells #[.int .i64 0, .int .i64 0] 25)).alloc (.cells #[.int .i64 0, .int .i64 0] 25)).drew := ⟨_, rfl⟩
        have b2 : Below W.heap.size W w2 := by rw [hw2]; exact (((Below.refl _ _).alloc (Nat.le_refl _) _).alloc (by simp) _).drew
        have l2 : w2.heap[W.heap.size]? = some (.cells #[.int .i64 (0), .int .i64 (0)] 25 (0, 0)) := by rw [hw2]; exact first_block _ _ _
        have g2 : w2.heap[W.heap.size + 1]? = some (.cells #[.int .i64 0, .int .i64 0] 25 (0, 0)) := by rw [hw2]; exact second_block _ _ _
        rw [← hw2]
        clear hw2 hwr
        obtain ⟨c0, c1⟩ := cells_of_row l2
        obtain ⟨c2, c3⟩ := cells_of_row g2
        have c0 : w2.drew.cell? ⟨W.heap.size, 0, none⟩ = some (.int .i64 (0)) := c0
        have c1 : w2.drew.cell? ⟨W.heap.size, 1, none⟩ = some (.int .i64 (0)) := c1
        have c2 : w2.drew.cell? ⟨W.heap.size + 1, 0, none⟩ = some (.int .i64 0) := c2
        have c3 : w2.drew.cell? ⟨W.heap.size + 1, 1, none⟩ = some (.int .i64 0) := c3
        have q2 : w2.drew.cell? ⟨w.heap.size, 0, none⟩ = some (.int .i64 0) := (b2.cell (p := ⟨w.heap.size, 0, none⟩) s0).trans q0
        have hMW : M < W.heap.size := Nat.lt_trans hMs s0
        have m2 : w2.drew.cell? ⟨M, 0, none⟩ = some (.slice none 0 0) := (b2.cell (p := ⟨M, 0, none⟩) hMW).trans m0
        have mf2 : w2.drew.frozen? ⟨M, 0, none⟩ = false := (b2.frozen (p := ⟨M, 0, none⟩) hMW).trans mf
        have t2 : w2.drew.cell? ⟨T, 0, none⟩ = some (.func (.func (tellF way)) #[] #[]) := (b2.cell (p := ⟨T, 0, none⟩) (Nat.lt_of_lt_of_le hTw b0.size)).trans t0
        have bb : Below w.heap.size w w2.drew := (below_step b0 b2).drew
        have hLs : W.heap.size < w2.drew.heap.size := (Array.getElem?_eq_some_iff.1 l2).1
        have hGs : W.heap.size + 1 < w2.drew.heap.size := (Array.getElem?_eq_some_iff.1 g2).1
        have hRs : w.heap.size < w2.drew.heap.size := Nat.lt_of_lt_of_le s0 b2.size
        have hTs : T < w2.drew.heap.size := Nat.lt_of_lt_of_le hTw bb.size
        have hM2 : M < w2.drew.heap.size := Nat.lt_of_lt_of_le hMs bb.size
        have hne : M ≠ w.heap.size := Nat.ne_of_lt hMs
        have hne2 := hne.symm
        have hneL : W.heap.size ≠ M := by omega
        have hneG : W.heap.size + 1 ≠ M := by omega
        clear l2 g2 b2 m0 mf t0 q0 b0
        have HL := Lib.hid (show betw (inBall 0 way) (0, 0) (0, 0) = ballL 0 way from (ball_yes (ballOk_yes (by decide) HWAY.out)).symm)
        go_wp2_with fail
        go_region_held3 (fun w' => w'.cell? ⟨w.heap.size, 0, none⟩ = some (.int .i64 0) ∧ w'.cell? ⟨W.heap.size, 0, none⟩ = some (.int .i64 (0)) ∧ w'.cell? ⟨W.heap.size, 1, none⟩ = some (.int .i64 (0)) ∧ w'.cell? ⟨W.heap.size + 1, 0, none⟩ = some (.int .i64 0) ∧ w'.cell? ⟨W.heap.size + 1, 1, none⟩ = some (.int .i64 0)) (first | (refine ⟨?_, ?_, ?_, ?_, ?_⟩ <;> with_reducible assumption) | (refine ⟨keep1 ?_ ?_, keep1 ?_ ?_, keep1 ?_ ?_, keep1 ?_ ?_, keep1 ?_ ?_⟩ <;> with_reducible assumption))
          ((go_at_call 100; refine (betwBall_any (inBall 0 way) w.heap.size T (0) (0) 0 0 w2.drew (by decide) (by decide) (by decide) (by decide) (by decide) (by decide) (by decide) (by decide) (fun x y w1 hx1 hx2 hy1 hy2 hb1 => ballIn_any T w.heap.size x y 0 way w1 HWAY.out ⟨hx1, hx2, hy1, hy2⟩ (Nat.lt_of_lt_of_le hTs hb1.size) (Nat.lt_of_lt_of_le hRs hb1.size) ((hb1.cell (p := ⟨T, 0, none⟩) hTs).trans t2) ((hb1.cell (p := ⟨w.heap.size, 0, none⟩) hRs).trans q2))).mono ?_; rintro e w3 ⟨vn, rfl, o3, hb⟩; rw [HL.out] at o3; obtain ⟨A3, c3', rfl, _, _⟩ := o3.reads.slice; have bw3 := bb.trans (hb.mono bb.size); have q2 := (hb.cell (p := ⟨w.heap.size, 0, none⟩) hRs).trans q2; have c0 := (hb.cell (p := ⟨W.heap.size, 0, none⟩) hLs).trans c0; have c1 := (hb.cell (p := ⟨W.heap.size, 1, none⟩) hLs).trans c1; have c2 := (hb.cell (p := ⟨W.heap.size + 1, 0, none⟩) hGs).trans c2; have c3 := (hb.cell (p := ⟨W.heap.size + 1, 1, none⟩) hGs).trans c3; have m2 := (hb.cell (p := ⟨M, 0, none⟩) hM2).trans m2; have mf2 := (hb.frozen (p := ⟨M, 0, none⟩) hM2).trans mf2))
        have hrow3 := (bw3.block M hMs).trans HROW.out.1
        have hrow4 := heap_setCell_same _ M 0 _ _ (Value.slice A3 (ballL 0 way).length c3') hrow3
        have bt0 := setCell_but w3 M 0 (Value.slice A3 (ballL 0 way).length c3')
        have o4 := (o3.base (show M + 1 ≤ w2.drew.heap.size by omega)).setOther (a := ⟨M, 0, none⟩) (Nat.lt_succ_self _) (Value.slice A3 (ballL 0 way).length c3')
        have bt : But M w _ := (But.of bw3).trans bt0
        clear bt0 hrow3 bw3 hb q2 c0 c1 c2 c3 t2
        go_wp2
        go_ret
        exact ⟨_, rfl, o4, HM.out.set bt hrow4 (.inr o4) (HROW.out.2.1.but bt) (HROW.out.2.2.1.but bt) (HROW.out.2.2.2.but bt), bt⟩
      · obtain ⟨w2, hw2⟩ : ∃ w2, w2 = ((W.alloc (.cells #[.int .i64 0, .int .i64 0] 25)).alloc (.cells #[.int .i64 0, .int .i64 0] 25)).drew := ⟨_, rfl⟩
        have b2 : Below W.heap.size W w2 := by rw [hw2]; exact (((Below.refl _ _).alloc (Nat.le_refl _) _).alloc (by simp) _).drew
        have l2 : w2.heap[W.heap.size + 1]? = some (.cells #[.int .i64 (0), .int .i64 (0)] 25 (0, 0)) := by rw [hw2]; exact second_block _ _ _
        have g2 : w2.heap[W.heap.size]? = some (.cells #[.int .i64 0, .int .i64 0] 25 (0, 0)) := by rw [hw2]; exact first_block _ _ _
        rw [← hw2]
        clear hw2 hwr
        obtain ⟨c0, c1⟩ := cells_of_row l2
        obtain ⟨c2, c3⟩ := cells_of_row g2
        have c0 : w2.drew.cell? ⟨W.heap.size + 1, 0, none⟩ = some (.int .i64 (0)) := c0
        have c1 : w2.drew.cell? ⟨W.heap.size + 1, 1, none⟩ = some (.int .i64 (0)) := c1
        have c2 : w2.drew.cell? ⟨W.heap.size, 0, none⟩ = some (.int .i64 0) := c2
        have c3 : w2.drew.cell? ⟨W.heap.size, 1, none⟩ = some (.int .i64 0) := c3
        have q2 : w2.drew.cell? ⟨w.heap.size, 0, none⟩ = some (.int .i64 0) := (b2.cell (p := ⟨w.heap.size, 0, none⟩) s0).trans q0
        have hMW : M < W.heap.size := Nat.lt_trans hMs s0
        have m2 : w2.drew.cell? ⟨M, 0, none⟩ = some (.slice none 0 0) := (b2.cell (p := ⟨M, 0, none⟩) hMW).trans m0
        have mf2 : w2.drew.frozen? ⟨M, 0, none⟩ = false := (b2.frozen (p := ⟨M, 0, none⟩) hMW).trans mf
        have t2 : w2.drew.cell? ⟨T, 0, none⟩ = some (.func (.func (tellF way)) #[] #[]) := (b2.cell (p := ⟨T, 0, none⟩) (Nat.lt_of_lt_of_le hTw b0.size)).trans t0
        have bb : Below w.heap.size w w2.drew := (below_step b0 b2).drew
        have hLs : W.heap.size + 1 < w2.drew.heap.size := (Array.getElem?_eq_some_iff.1 l2).1
        have hGs : W.heap.size < w2.drew.heap.size := (Array.getElem?_eq_some_iff.1 g2).1
        have hRs : w.heap.size < w2.drew.heap.size := Nat.lt_of_lt_of_le s0 b2.size
        have hTs : T < w2.drew.heap.size := Nat.lt_of_lt_of_le hTw bb.size
        have hM2 : M < w2.drew.heap.size := Nat.lt_of_lt_of_le hMs bb.size
        have hne : M ≠ w.heap.size := Nat.ne_of_lt hMs
        have hne2 := hne.symm
        have hneL : W.heap.size + 1 ≠ M := by omega
        have hneG : W.heap.size ≠ M := by omega
        clear l2 g2 b2 m0 mf t0 q0 b0
        have HL := Lib.hid (show betw (inBall 0 way) (0, 0) (0, 0) = ballL 0 way from (ball_yes (ballOk_yes (by decide) HWAY.out)).symm)
        go_wp2_with fail
        go_region_held3 (fun w' => w'.cell? ⟨w.heap.size, 0, none⟩ = some (.int .i64 0) ∧ w'.cell? ⟨W.heap.size + 1, 0, none⟩ = some (.int .i64 (0)) ∧ w'.cell? ⟨W.heap.size + 1, 1, none⟩ = some (.int .i64 (0)) ∧ w'.cell? ⟨W.heap.size, 0, none⟩ = some (.int .i64 0) ∧ w'.cell? ⟨W.heap.size, 1, none⟩ = some (.int .i64 0)) (first | (refine ⟨?_, ?_, ?_, ?_, ?_⟩ <;> with_reducible assumption) | (refine ⟨keep1 ?_ ?_, keep1 ?_ ?_, keep1 ?_ ?_, keep1 ?_ ?_, keep1 ?_ ?_⟩ <;> with_reducible assumption))
          ((go_at_call 100; refine (betwBall_any (inBall 0 way) w.heap.size T (0) (0) 0 0 w2.drew (by decide) (by decide) (by decide) (by decide) (by decide) (by decide) (by decide) (by decide) (fun x y w1 hx1 hx2 hy1 hy2 hb1 => ballIn_any T w.heap.size x y 0 way w1 HWAY.out ⟨hx1, hx2, hy1, hy2⟩ (Nat.lt_of_lt_of_le hTs hb1.size) (Nat.lt_of_lt_of_le hRs hb1.size) ((hb1.cell (p := ⟨T, 0, none⟩) hTs).trans t2) ((hb1.cell (p := ⟨w.heap.size, 0, none⟩) hRs).trans q2))).mono ?_; rintro e w3 ⟨vn, rfl, o3, hb⟩; rw [HL.out] at o3; obtain ⟨A3, c3', rfl, _, _⟩ := o3.reads.slice; have bw3 := bb.trans (hb.mono bb.size); have q2 := (hb.cell (p := ⟨w.heap.size, 0, none⟩) hRs).trans q2; have c0 := (hb.cell (p := ⟨W.heap.size + 1, 0, none⟩) hLs).trans c0; have c1 := (hb.cell (p := ⟨W.heap.size + 1, 1, none⟩) hLs).trans c1; have c2 := (hb.cell (p := ⟨W.heap.size, 0, none⟩) hGs).trans c2; have c3 := (hb.cell (p := ⟨W.heap.size, 1, none⟩) hGs).trans c3; have m2 := (hb.cell (p := ⟨M, 0, none⟩) hM2).trans m2; have mf2 := (hb.frozen (p := ⟨M, 0, none⟩) hM2).trans mf2))
        have hrow3 := (bw3.block M hMs).trans HROW.out.1
        have hrow4 := heap_setCell_same _ M 0 _ _ (Value.slice A3 (ballL 0 way).length c3') hrow3
        have bt0 := setCell_but w3 M 0 (Value.slice A3 (ballL 0 way).length c3')
        have o4 := (o3.base (show M + 1 ≤ w2.drew.heap.size by omega)).setOther (a := ⟨M, 0, none⟩) (Nat.lt_succ_self _) (Value.slice A3 (ballL 0 way).length c3')
        have bt : But M w _ := (But.of bw3).trans bt0
        clear bt0 hrow3 bw3 hb q2 c0 c1 c2 c3 t2
        go_wp2
        go_ret
        exact ⟨_, rfl, o4, HM.out.set bt hrow4 (.inr o4) (HROW.out.2.1.but bt) (HROW.out.2.2.1.but bt) (HROW.out.2.2.2.but bt), bt⟩
    · obtain ⟨g, cap, rfl⟩ := kept_some HWAY.out (by decide) (by decide) ho
      have HO := Lib.hid ho
      have HROW := Lib.hid (And.intro hrow True.intro)
      clear hrow ho
      have hMs := HM.out.m
      have hTw := HM.out.t
      have hrowM := HROW.out.1
      have rowM := (cell_of_row w _ 0 _ _ _ hrowM).trans (show _ = some (Value.slice (some ⟨g, 0, none⟩) (ballL 0 way).length cap) from rfl)
      have hnil : ∀ W, (binOp .eql 23 (Value.slice (some ⟨g, 0, none⟩) (ballL 0 way).length cap) (.slice none 0 0)).run Try.prog W = .ok (.bool false) W := fun W => Lib.run_eql_slice_nil W _ _ _ _ _ 0 0 Try.underlying23
      have b0 := box_below w #[.int .i64 0] 3
      obtain ⟨W, hW⟩ : ∃ W, W = w.alloc (.cells #[.int .i64 0] 3) := ⟨_, rfl⟩
      have q0 : W.cell? ⟨w.heap.size, 0, none⟩ = some (.int .i64 0) := by rw [hW]; simp [go_sem]
      have s0 : w.heap.size < W.heap.size := by rw [hW]; simp
      rw [← hW] at b0
      have m0 := (b0.cell (p := ⟨M, 0, none⟩) hMs).trans rowM
      have mf := frozen_of_row W _ 0 _ _ ((b0.block M hMs).trans hrowM)
      have t0 := (b0.cell (p := ⟨T, 0, none⟩) hTw).trans HM.out.tell
      clear rowM hrowM
      have hwr : IntKind.i64.wrap 0 = 0 := by decide
      go_enter Try.func99, Try.ntmps99
      go_wp2_with (first | (rw [← hW]; clear hW) | fail)
      go_wp2
      go_ret
      exact ⟨_, rfl, HO.out.but (But.of b0), HM.out.below b0, But.of b0⟩
  · obtain ⟨v0, v1, v2, v3, hrow, k0, k1, k2, k3⟩ := hM.row
    have HM := Lib.hid hM
    have HWAY := Lib.hid hw
    clear hM hw hr
    rcases k1 with rfl | ho
    · have HROW := Lib.hid (And.intro hrow (And.intro k0 (And.intro k2 k3)))
      clear hrow
      have hMs := HM.out.m
      have hTw := HM.out.t
      have hrowM := HROW.out.1
      have rowM := (cell_of_row w _ 1 _ _ _ hrowM).trans (show _ = some (Value.slice none 0 0) from rfl)
      have hnil : ∀ W, (binOp .eql 23 (Value.slice none 0 0) (.slice none 0 0)).run Try.prog W = .ok (.bool true) W := fun W => Lib.run_eql_slice_nil W _ _ _ _ _ 0 0 Try.underlying23
      have b0 := box_below w #[.int .i64 1] 3
      obtain ⟨W, hW⟩ : ∃ W, W = w.alloc (.cells #[.int .i64 1] 3) := ⟨_, rfl⟩
      have q0 : W.cell? ⟨w.heap.size, 0, none⟩ = some (.int .i64 1) := by rw [hW]; simp [go_sem]
      have s0 : w.heap.size < W.heap.size := by rw [hW]; simp
      rw [← hW] at b0
      have m0 := (b0.cell (p := ⟨M, 1, none⟩) hMs).trans rowM
      have mf := frozen_of_row W _ 1 _ _ ((b0.block M hMs).trans hrowM)
      have t0 := (b0.cell (p := ⟨T, 0, none⟩) hTw).trans HM.out.tell
      clear rowM hrowM
      have hwr : IntKind.i64.wrap (-1) = (-1) := by decide
      go_enter Try.func99, Try.ntmps99
      go_wp2_with (first | (rw [← hW]; clear hW) | fail)
      go_wp2
      go_region_held3 (fun w' => w'.cell? ⟨w.heap.size, 0, none⟩ = some (.int .i64 1)) (go_keep) (fail)
      · obtain ⟨w2, hw2⟩ : ∃ w2, w2 = ((W.alloc (.cells #[.int .i64 (-1), .int .i64 (-1)] 25)).alloc (.cells #[.int .i64 1, .int .i64 1] 25)).drew := ⟨_, rfl⟩
        have b2 : Below W.heap.size W w2 := by rw [hw2]; exact (((Below.refl _ _).alloc (Nat.le_refl _) _).alloc (by simp) _).drew
        have l2 : w2.heap[W.heap.size]? = some (.cells #[.int .i64 ((-1)), .int .i64 ((-1))] 25 (0, 0)) := by rw [hw2]; exact first_block _ _ _
        have g2 : w2.heap[W.heap.size + 1]? = some (.cells #[.int .i64 1, .int .i64 1] 25 (0, 0)) := by rw [hw2]; exact second_block _ _ _
        rw [← hw2]
        clear hw2 hwr
        obtain ⟨c0, c1⟩ := cells_of_row l2
        obtain ⟨c2, c3⟩ := cells_of_row g2
        have c0 : w2.drew.cell? ⟨W.heap.size, 0, none⟩ = some (.int .i64 ((-1))) := c0
        have c1 : w2.drew.cell? ⟨W.heap.size, 1, none⟩ = some (.int .i64 ((-1))) := c1
        have c2 : w2.drew.cell? ⟨W.heap.size + 1, 0, none⟩ = some (.int .i64 1) := c2
        have c3 : w2.drew.cell? ⟨W.heap.size + 1, 1, none⟩ = some (.int .i64 1) := c3
        have q2 : w2.drew.cell? ⟨w.heap.size, 0, none⟩ = some (.int .i64 1) := (b2.cell (p := ⟨w.heap.size, 0, none⟩) s0).trans q0
        have hMW : M < W.heap.size := Nat.lt_trans hMs s0
        have m2 : w2.drew.cell? ⟨M, 1, none⟩ = some (.slice none 0 0) := (b2.cell (p := ⟨M, 1, none⟩) hMW).trans m0
        have mf2 : w2.drew.frozen? ⟨M, 1, none⟩ = false := (b2.frozen (p := ⟨M, 1, none⟩) hMW).trans mf
        have t2 : w2.drew.cell? ⟨T, 0, none⟩ = some (.func (.func (tellF way)) #[] #[]) := (b2.cell (p := ⟨T, 0, none⟩) (Nat.lt_of_lt_of_le hTw b0.size)).trans t0
        have bb : Below w.heap.size w w2.drew := (below_step b0 b2).drew
        have hLs : W.heap.size < w2.drew.heap.size := (Array.getElem?_eq_some_iff.1 l2).1
        have hGs : W.heap.size + 1 < w2.drew.heap.size := (Array.getElem?_eq_some_iff.1 g2).1
        have hRs : w.heap.size < w2.drew.heap.size := Nat.lt_of_lt_of_le s0 b2.size
        have hTs : T < w2.drew.heap.size := Nat.lt_of_lt_of_le hTw bb.size
        have hM2 : M < w2.drew.heap.size := Nat.lt_of_lt_of_le hMs bb.size
        have hne : M ≠ w.heap.size := Nat.ne_of_lt hMs
        have hne2 := hne.symm
        have hneL : W.heap.size ≠ M := by omega
        have hneG : W.heap.size + 1 ≠ M := by omega
        clear l2 g2 b2 m0 mf t0 q0 b0
        have HL := Lib.hid (show betw (inBall 1 way) ((-1), (-1)) (1, 1) = ballL 1 way from (ball_yes (ballOk_yes (by decide) HWAY.out)).symm)
        go_wp2_with fail
        go_region_held3 (fun w' => w'.cell? ⟨w.heap.size, 0, none⟩ = some (.int .i64 1) ∧ w'.cell? ⟨W.heap.size, 0, none⟩ = some (.int .i64 ((-1))) ∧ w'.cell? ⟨W.heap.size, 1, none⟩ = some (.int .i64 ((-1))) ∧ w'.cell? ⟨W.heap.size + 1, 0, none⟩ = some (.int .i64 1) ∧ w'.cell? ⟨W.heap.size + 1, 1, none⟩ = some (.int .i64 1)) (first | (refine ⟨?_, ?_, ?_, ?_, ?_⟩ <;> with_reducible assumption) | (refine ⟨keep1 ?_ ?_, keep1 ?_ ?_, keep1 ?_ ?_, keep1 ?_ ?_, keep1 ?_ ?_⟩ <;> with_reducible assumption))
          ((go_at_call 100; refine (betwBall_any (inBall 1 way) w.heap.size T ((-1)) ((-1)) 1 1 w2.drew (by decide) (by decide) (by decide) (by decide) (by decide) (by decide) (by decide) (by decide) (fun x y w1 hx1 hx2 hy1 hy2 hb1 => ballIn_any T w.heap.size x y 1 way w1 HWAY.out ⟨hx1, hx2, hy1, hy2⟩ (Nat.lt_of_lt_of_le hTs hb1.size) (Nat.lt_of_lt_of_le hRs hb1.size) ((hb1.cell (p := ⟨T, 0, none⟩) hTs).trans t2) ((hb1.cell (p := ⟨w.heap.size, 0, none⟩) hRs).trans q2))).mono ?_; rintro e w3 ⟨vn, rfl, o3, hb⟩; rw [HL.out] at o3; obtain ⟨A3, c3', rfl, _, _⟩ := o3.reads.slice; have bw3 := bb.trans (hb.mono bb.size); have q2 := (hb.cell (p := ⟨w.heap.size, 0, none⟩) hRs).trans q2; have c0 := (hb.cell (p := ⟨W.heap.size, 0, none⟩) hLs).trans c0; have c1 := (hb.cell (p := ⟨W.heap.size, 1, none⟩) hLs).trans c1; have c2 := (hb.cell (p := ⟨W.heap.size + 1, 0, none⟩) hGs).trans c2; have c3 := (hb.cell (p := ⟨W.heap.size + 1, 1, none⟩) hGs).trans c3; have m2 := (hb.cell (p := ⟨M, 1, none⟩) hM2).trans m2; have mf2 := (hb.frozen (p := ⟨M, 1, none⟩) hM2).trans mf2))
        have hrow3 := (bw3.block M hMs).trans HROW.out.1
        have hrow4 := heap_setCell_same _ M 1 _ _ (Value.slice A3 (ballL 1 way).length c3') hrow3
        have bt0 := setCell_but w3 M 1 (Value.slice A3 (ballL 1 way).length c3')
        have o4 := (o3.base (show M + 1 ≤ w2.drew.heap.size by omega)).setOther (a := ⟨M, 1, none⟩) (Nat.lt_succ_self _) (Value.slice A3 (ballL 1 way).length c3')
        have bt : But M w _ := (But.of bw3).trans bt0
        clear bt0 hrow3 bw3 hb q2 c0 c1 c2 c3 t2
        go_wp2
        go_ret
        exact ⟨_, rfl, o4, HM.out.set bt hrow4 (HROW.out.2.1.but bt) (.inr o4) (HROW.out.2.2.1.but bt) (HROW.out.2.2.2.but bt), bt⟩
      · obtain ⟨w2, hw2⟩ : ∃ w2, w2 = ((W.alloc (.cells #[.int .i64 1, .int .i64 1] 25)).alloc (.cells #[.int .i64 (-1), .int .i64 (-1)] 25)).drew := ⟨_, rfl⟩
        have b2 : Below W.heap.size W w2 := by rw [hw2]; exact (((Below.refl _ _).alloc (Nat.le_refl _) _).alloc (by simp) _).drew
        have l2 : w2.heap[W.heap.size + 1]? = some (.cells #[.int .i64 ((-1)), .int .i64 ((-1))] 25 (0, 0)) := by rw [hw2]; exact second_block _ _ _
        have g2 : w2.heap[W.heap.size]? = some (.cells #[.int .i64 1, .int .i64 1] 25 (0, 0)) := by rw [hw2]; exact first_block _ _ _
        rw [← hw2]
        clear hw2 hwr
        obtain ⟨c0, c1⟩ := cells_of_row l2
        obtain ⟨c2, c3⟩ := cells_of_row g2
        have c0 : w2.drew.cell? ⟨W.heap.size + 1, 0, none⟩ = some (.int .i64 ((-1))) := c0
        have c1 : w2.drew.cell? ⟨W.heap.size + 1, 1, none⟩ = some (.int .i64 ((-1))) := c1
        have c2 : w2.drew.cell? ⟨W.heap.size, 0, none⟩ = some (.int .i64 1) := c2
        have c3 : w2.drew.cell? ⟨W.heap.size, 1, none⟩ = some (.int .i64 1) := c3
        have q2 : w2.drew.cell? ⟨w.heap.size, 0, none⟩ = some (.int .i64 1) := (b2.cell (p := ⟨w.heap.size, 0, none⟩) s0).trans q0
        have hMW : M < W.heap.size := Nat.lt_trans hMs s0
        have m2 : w2.drew.cell? ⟨M, 1, none⟩ = some (.slice none 0 0) := (b2.cell (p := ⟨M, 1, none⟩) hMW).trans m0
        have mf2 : w2.drew.frozen? ⟨M, 1, none⟩ = false := (b2.frozen (p := ⟨M, 1, none⟩) hMW).trans mf
        have t2 : w2.drew.cell? ⟨T, 0, none⟩ = some (.func (.func (tellF way)) #[] #[]) := (b2.cell (p := ⟨T, 0, none⟩) (Nat.lt_of_lt_of_le hTw b0.size)).trans t0
        have bb : Below w.heap.size w w2.drew := (below_step b0 b2).drew
        have hLs : W.heap.size + 1 < w2.drew.heap.size := (Array.getElem?_eq_some_iff.1 l2).1
        have hGs : W.heap.size < w2.drew.heap.size := (Array.getElem?_eq_some_iff.1 g2).1
        have hRs : w.heap.size < w2.drew.heap.size := Nat.lt_of_lt_of_le s0 b2.size
        have hTs : T < w2.drew.heap.size := Nat.lt_of_lt_of_le hTw bb.size
        have hM2 : M < w2.drew.heap.size := Nat.lt_of_lt_of_le hMs bb.size
        have hne : M ≠ w.heap.size := Nat.ne_of_lt hMs
        have hne2 := hne.symm
        have hneL : W.heap.size + 1 ≠ M := by omega
        have hneG : W.heap.size ≠ M := by omega
        clear l2 g2 b2 m0 mf t0 q0 b0
        have HL := Lib.hid (show betw (inBall 1 way) ((-1), (-1)) (1, 1) = ballL 1 way from (ball_yes (ballOk_yes (by decide) HWAY.out)).symm)
        go_wp2_with fail
        go_region_held3 (fun w' => w'.cell? ⟨w.heap.size, 0, none⟩ = some (.int .i64 1) ∧ w'.cell? ⟨W.heap.size + 1, 0, none⟩ = some (.int .i64 ((-1))) ∧ w'.cell? ⟨W.heap.size + 1, 1, none⟩ = some (.int .i64 ((-1))) ∧ w'.cell? ⟨W.heap.size, 0, none⟩ = some (.int .i64 1) ∧ w'.cell? ⟨W.heap.size, 1, none⟩ = some (.int .i64 1)) (first | (refine ⟨?_, ?_, ?_, ?_, ?_⟩ <;> with_reducible assumption) | (refine ⟨keep1 ?_ ?_, keep1 ?_ ?_, keep1 ?_ ?_, keep1 ?_ ?_, keep1 ?_ ?_⟩ <;> with_reducible assumption))
          ((go_at_call 100; refine (betwBall_any (inBall 1 way) w.heap.size T ((-1)) ((-1)) 1 1 w2.drew (by decide) (by decide) (by decide) (by decide) (by decide) (by decide) (by decide) (by decide) (fun x y w1 hx1 hx2 hy1 hy2 hb1 => ballIn_any T w.heap.size x y 1 way w1 HWAY.out ⟨hx1, hx2, hy1, hy2⟩ (Nat.lt_of_lt_of_le hTs hb1.size) (Nat.lt_of_lt_of_le hRs hb1.size) ((hb1.cell (p := ⟨T, 0, none⟩) hTs).trans t2) ((hb1.cell (p := ⟨w.heap.size, 0, none⟩) hRs).trans q2))).mono ?_; rintro e w3 ⟨vn, rfl, o3, hb⟩; rw [HL.out] at o3; obtain ⟨A3, c3', rfl, _, _⟩ := o3.reads.slice; have bw3 := bb.trans (hb.mono bb.size); have q2 := (hb.cell (p := ⟨w.heap.size, 0, none⟩) hRs).trans q2; have c0 := (hb.cell (p := ⟨W.heap.size + 1, 0, none⟩) hLs).trans c0; have c1 := (hb.cell (p := ⟨W.heap.size + 1, 1, none⟩) hLs).trans c1; have c2 := (hb.cell (p := ⟨W.heap.size, 0, none⟩) hGs).trans c2; have c3 := (hb.cell (p := ⟨W.heap.size, 1, none⟩) hGs).trans c3; have m2 := (hb.cell (p := ⟨M, 1, none⟩) hM2).trans m2; have mf2 := (hb.frozen (p := ⟨M, 1, none⟩) hM2).trans mf2))
        have hrow3 := (bw3.block M hMs).trans HROW.out.1
        have hrow4 := heap_setCell_same _ M 1 _ _ (Value.slice A3 (ballL 1 way).length c3') hrow3
        have bt0 := setCell_but w3 M 1 (Value.slice A3 (ballL 1 way).length c3')
        have o4 := (o3.base (show M + 1 ≤ w2.drew.heap.size by omega)).setOther (a := ⟨M, 1, none⟩) (Nat.lt_succ_self _) (Value.slice A3 (ballL 1 way).length c3')
        have bt : But M w _ := (But.of bw3).trans bt0
        clear bt0 hrow3 bw3 hb q2 c0 c1 c2 c3 t2
        go_wp2
        go_ret
        exact ⟨_, rfl, o4, HM.out.set bt hrow4 (HROW.out.2.1.but bt) (.inr o4) (HROW.out.2.2.1.but bt) (HROW.out.2.2.2.but bt), bt⟩
    · obtain ⟨g, cap, rfl⟩ := kept_some HWAY.out (by decide) (by decide) ho
      have HO := Lib.hid ho
      have HROW := Lib.hid (And.intro hrow True.intro)
      clear hrow ho
      have hMs := HM.out.m
      have hTw := HM.out.t
      have hrowM := HROW.out.1
      have rowM := (cell_of_row w _ 1 _ _ _ hrowM).trans (show _ = some (Value.slice (some ⟨g, 0, none⟩) (ballL 1 way).length cap) from rfl)
      have hnil : ∀ W, (binOp .eql 23 (Value.slice (some ⟨g, 0, none⟩) (ballL 1 way).length cap) (.slice none 0 0)).run Try.prog W = .ok (.bool false) W := fun W => Lib.run_eql_slice_nil W _ _ _ _ _ 0 0 Try.underlying23
      have b0 := box_below w #[.int .i64 1] 3
      obtain ⟨W, hW⟩ : ∃ W, W = w.alloc (.cells #[.int .i64 1] 3) := ⟨_, rfl⟩
      have q0 : W.cell? ⟨w.heap.size, 0, none⟩ = some (.int .i64 1) := by rw [hW]; simp [go_sem]
      have s0 : w.heap.size < W.heap.size := by rw [hW]; simp
      rw [← hW] at b0
      have m0 := (b0.cell (p := ⟨M, 1, none⟩) hMs).trans rowM
      have mf := frozen_of_row W _ 1 _ _ ((b0.block M hMs).trans hrowM)
      have t0 := (b0.cell (p := ⟨T, 0, none⟩) hTw).trans HM.out.tell
      clear rowM hrowM
      have hwr : IntKind.i64.wrap (-1) = (-1) := by decide
      go_enter Try.func99, Try.ntmps99
      go_wp2_with (first | (rw [← hW]; clear hW) | fail)
      go_wp2
      go_ret
      exact ⟨_, rfl, HO.out.but (But.of b0), HM.out.below b0, But.of b0⟩
  · obtain ⟨v0, v1, v2, v3, hrow, k0, k1, k2, k3⟩ := hM.row
    have HM := Lib.hid hM
    have HWAY := Lib.hid hw
    clear hM hw hr
    rcases k2 with rfl | ho
    · have HROW := Lib.hid (And.intro hrow (And.intro k0 (And.intro k1 k3)))
      clear hrow
      have hMs := HM.out.m
      have hTw := HM.out.t
      have hrowM := HROW.out.1
      have rowM := (cell_of_row w _ 2 _ _ _ hrowM).trans (show _ = some (Value.slice none 0 0) from rfl)
      have hnil : ∀ W, (binOp .eql 23 (Value.slice none 0 0) (.slice none 0 0)).run Try.prog W = .ok (.bool true) W := fun W => Lib.run_eql_slice_nil W _ _ _ _ _ 0 0 Try.underlying23
      have b0 := box_below w #[.int .i64 2] 3
      obtain ⟨W, hW⟩ : ∃ W, W = w.alloc (.cells #[.int .i64 2] 3) := ⟨_, rfl⟩
      have q0 : W.cell? ⟨w.heap.size, 0, none⟩ = some (.int .i64 2) := by rw [hW]; simp [go_sem]
      have s0 : w.heap.size < W.heap.size := by rw [hW]; simp
      rw [← hW] at b0
      have m0 := (b0.cell (p := ⟨M, 2, none⟩) hMs).trans rowM
      have mf := frozen_of_row W _ 2 _ _ ((b0.block M hMs).trans hrowM)
      have t0 := (b0.cell (p := ⟨T, 0, none⟩) hTw).trans HM.out.tell
      clear rowM hrowM
      have hwr : IntKind.i64.wrap (-2) = (-2) := by decide
      go_enter Try.func99, Try.ntmps99
      go_wp2_with (first | (rw [← hW]; clear hW) | fail)
      go_wp2
      go_region_held3 (fun w' => w'.cell? ⟨w.heap.size, 0, none⟩ = some (.int .i64 2)) (go_keep) (fail)
      · obtain ⟨w2, hw2⟩ : ∃ w2, w2 = ((W.alloc (.cells #[.int .i64 (-2), .int .i64 (-2)] 25)).alloc (.cells #[.int .i64 2, .int .i64 2] 25)).drew := ⟨_, rfl⟩
        have b2 : Below W.heap.size W w2 := by rw [hw2]; exact (((Below.refl _ _).alloc (Nat.le_refl _) _).alloc (by simp) _).drew
        have l2 : w2.heap[W.heap.size]? = some (.cells #[.int .i64 ((-2)), .int .i64 ((-2))] 25 (0, 0)) := by rw [hw2]; exact first_block _ _ _
        have g2 : w2.heap[W.heap.size + 1]? = some (.cells #[.int .i64 2, .int .i64 2] 25 (0, 0)) := by rw [hw2]; exact second_block _ _ _
        rw [← hw2]
        clear hw2 hwr
        obtain ⟨c0, c1⟩ := cells_of_row l2
        obtain ⟨c2, c3⟩ := cells_of_row g2
        have c0 : w2.drew.cell? ⟨W.heap.size, 0, none⟩ = some (.int .i64 ((-2))) := c0
        have c1 : w2.drew.cell? ⟨W.heap.size, 1, none⟩ = some (.int .i64 ((-2))) := c1
        have c2 : w2.drew.cell? ⟨W.heap.size + 1, 0, none⟩ = some (.int .i64 2) := c2
        have c3 : w2.drew.cell? ⟨W.heap.size + 1, 1, none⟩ = some (.int .i64 2) := c3
        have q2 : w2.drew.cell? ⟨w.heap.size, 0, none⟩ = some (.int .i64 2) := (b2.cell (p := ⟨w.heap.size, 0, none⟩) s0).trans q0
        have hMW : M < W.heap.size := Nat.lt_trans hMs s0
        have m2 : w2.drew.cell? ⟨M, 2, none⟩ = some (.slice none 0 0) := (b2.cell (p := ⟨M, 2, none⟩) hMW).trans m0
        have mf2 : w2.drew.frozen? ⟨M, 2, none⟩ = false := (b2.frozen (p := ⟨M, 2, none⟩) hMW).trans mf
        have t2 : w2.drew.cell? ⟨T, 0, none⟩ = some (.func (.func (tellF way)) #[] #[]) := (b2.cell (p := ⟨T, 0, none⟩) (Nat.lt_of_lt_of_le hTw b0.size)).trans t0
        have bb : Below w.heap.size w w2.drew := (below_step b0 b2).drew
        have hLs : W.heap.size < w2.drew.heap.size := (Array.getElem?_eq_some_iff.1 l2).1
        have hGs : W.heap.size + 1 < w2.drew.heap.size := (Array.getElem?_eq_some_iff.1 g2).1
        have hRs : w.heap.size < w2.drew.heap.size := Nat.lt_of_lt_of_le s0 b2.size
        have hTs : T < w2.drew.heap.size := Nat.lt_of_lt_of_le hTw bb.size
        have hM2 : M < w2.drew.heap.size := Nat.lt_of_lt_of_le hMs bb.size
        have hne : M ≠ w.heap.size := Nat.ne_of_lt hMs
        have hne2 := hne.symm
        have hneL : W.heap.size ≠ M := by omega
        have hneG : W.heap.size + 1 ≠ M := by omega
        clear l2 g2 b2 m0 mf t0 q0 b0
        have HL := Lib.hid (show betw (inBall 2 way) ((-2), (-2)) (2, 2) = ballL 2 way from (ball_yes (ballOk_yes (by decide) HWAY.out)).symm)
        go_wp2_with fail
        go_region_held3 (fun w' => w'.cell? ⟨w.heap.size, 0, none⟩ = some (.int .i64 2) ∧ w'.cell? ⟨W.heap.size, 0, none⟩ = some (.int .i64 ((-2))) ∧ w'.cell? ⟨W.heap.size, 1, none⟩ = some (.int .i64 ((-2))) ∧ w'.cell? ⟨W.heap.size + 1, 0, none⟩ = some (.int .i64 2) ∧ w'.cell? ⟨W.heap.size + 1, 1, none⟩ = some (.int .i64 2)) (first | (refine ⟨?_, ?_, ?_, ?_, ?_⟩ <;> with_reducible assumption) | (refine ⟨keep1 ?_ ?_, keep1 ?_ ?_, keep1 ?_ ?_, keep1 ?_ ?_, keep1 ?_ ?_⟩ <;> with_reducible assumption))
          ((go_at_call 100; refine (betwBall_any (inBall 2 way) w.heap.size T ((-2)) ((-2)) 2 2 w2.drew (by decide) (by decide) (by decide) (by decide) (by decide) (by decide) (by decide) (by decide) (fun x y w1 hx1 hx2 hy1 hy2 hb1 => ballIn_any T w.heap.size x y 2 way w1 HWAY.out ⟨hx1, hx2, hy1, hy2⟩ (Nat.lt_of_lt_of_le hTs hb1.size) (Nat.lt_of_lt_of_le hRs hb1.size) ((hb1.cell (p := ⟨T, 0, none⟩) hTs).trans t2) ((hb1.cell (p := ⟨w.heap.size, 0, none⟩) hRs).trans q2))).mono ?_; rintro e w3 ⟨vn, rfl, o3, hb⟩; rw [HL.out] at o3; obtain ⟨A3, c3', rfl, _, _⟩ := o3.reads.slice; have bw3 := bb.trans (hb.mono bb.size); have q2 := (hb.cell (p := ⟨w.heap.size, 0, none⟩) hRs).trans q2; have c0 := (hb.cell (p := ⟨W.heap.size, 0, none⟩) hLs).trans c0; have c1 := (hb.cell (p := ⟨W.heap.size, 1, none⟩) hLs).trans c1; have c2 := (hb.cell (p := ⟨W.heap.size + 1, 0, none⟩) hGs).trans c2; have c3 := (hb.cell (p := ⟨W.heap.size + 1, 1, none⟩) hGs).trans c3; have m2 := (hb.cell (p := ⟨M, 2, none⟩) hM2).trans m2; have mf2 := (hb.frozen (p := ⟨M, 2, none⟩) hM2).trans mf2))
        have hrow3 := (bw3.block M hMs).trans HROW.out.1
        have hrow4 := heap_setCell_same _ M 2 _ _ (Value.slice A3 (ballL 2 way).length c3') hrow3
        have bt0 := setCell_but w3 M 2 (Value.slice A3 (ballL 2 way).length c3')
        have o4 := (o3.base (show M + 1 ≤ w2.drew.heap.size by omega)).setOther (a := ⟨M, 2, none⟩) (Nat.lt_succ_self _) (Value.slice A3 (ballL 2 way).length c3')
        have bt : But M w _ := (But.of bw3).trans bt0
        clear bt0 hrow3 bw3 hb q2 c0 c1 c2 c3 t2
        go_wp2
        go_ret
        exact ⟨_, rfl, o4, HM.out.set bt hrow4 (HROW.out.2.1.but bt) (HROW.out.2.2.1.but bt) (.inr o4) (HROW.out.2.2.2.but bt), bt⟩
      · obtain ⟨w2, hw2⟩ : ∃ w2, w2 = ((W.alloc (.cells #[.int .i64 2, .int .i64 2] 25)).alloc (.cells #[.int .i64 (-2), .int .i64 (-2)] 25)).drew := ⟨_, rfl⟩
        have b2 : Below W.heap.size W w2 := by rw [hw2]; exact (((Below.refl _ _).alloc (Nat.le_refl _) _).alloc (by simp) _).drew
        have l2 : w2.heap[W.heap.size + 1]? = some (.cells #[.int .i64 ((-2)), .int .i64 ((-2))] 25 (0, 0)) := by rw [hw2]; exact second_block _ _ _
        have g2 : w2.heap[W.heap.size]? = some (.cells #[.int .i64 2, .int .i64 2] 25 (0, 0)) := by rw [hw2]; exact first_block _ _ _
        rw [← hw2]
        clear hw2 hwr
        obtain ⟨c0, c1⟩ := cells_of_row l2
        obtain ⟨c2, c3⟩ := cells_of_row g2
        have c0 : w2.drew.cell? ⟨W.heap.size + 1, 0, none⟩ = some (.int .i64 ((-2))) := c0
        have c1 : w2.drew.cell? ⟨W.heap.size + 1, 1, none⟩ = some (.int .i64 ((-2))) := c1
        have c2 : w2.drew.cell? ⟨W.heap.size, 0, none⟩ = some (.int .i64 2) := c2
        have c3 : w2.drew.cell? ⟨W.heap.size, 1, none⟩ = some (.int .i64 2) := c3
        have q2 : w2.drew.cell? ⟨w.heap.size, 0, none⟩ = some (.int .i64 2) := (b2.cell (p := ⟨w.heap.size, 0, none⟩) s0).trans q0
        have hMW : M < W.heap.size := Nat.lt_trans hMs s0
        have m2 : w2.drew.cell? ⟨M, 2, none⟩ = some (.slice none 0 0) := (b2.cell (p := ⟨M, 2, none⟩) hMW).trans m0
        have mf2 : w2.drew.frozen? ⟨M, 2, none⟩ = false := (b2.frozen (p := ⟨M, 2, none⟩) hMW).trans mf
        have t2 : w2.drew.cell? ⟨T, 0, none⟩ = some (.func (.func (tellF way)) #[] #[]) := (b2.cell (p := ⟨T, 0, none⟩) (Nat.lt_of_lt_of_le hTw b0.size)).trans t0
        have bb : Below w.heap.size w w2.drew := (below_step b0 b2).drew
        have hLs : W.heap.size + 1 < w2.drew.heap.size := (Array.getElem?_eq_some_iff.1 l2).1
        have hGs : W.heap.size < w2.drew.heap.size := (Array.getElem?_eq_some_iff.1 g2).1
        have hRs : w.heap.size < w2.drew.heap.size := Nat.lt_of_lt_of_le s0 b2.size
        have hTs : T < w2.drew.heap.size := Nat.lt_of_lt_of_le hTw bb.size
        have hM2 : M < w2.drew.heap.size := Nat.lt_of_lt_of_le hMs bb.size
        have hne : M ≠ w.heap.size := Nat.ne_of_lt hMs
        have hne2 := hne.symm
        have hneL : W.heap.size + 1 ≠ M := by omega
        have hneG : W.heap.size ≠ M := by omega
        clear l2 g2 b2 m0 mf t0 q0 b0
        have HL := Lib.hid (show betw (inBall 2 way) ((-2), (-2)) (2, 2) = ballL 2 way from (ball_yes (ballOk_yes (by decide) HWAY.out)).symm)
        go_wp2_with fail
        go_region_held3 (fun w' => w'.cell? ⟨w.heap.size, 0, none⟩ = some (.int .i64 2) ∧ w'.cell? ⟨W.heap.size + 1, 0, none⟩ = some (.int .i64 ((-2))) ∧ w'.cell? ⟨W.heap.size + 1, 1, none⟩ = some (.int .i64 ((-2))) ∧ w'.cell? ⟨W.heap.size, 0, none⟩ = some (.int .i64 2) ∧ w'.cell? ⟨W.heap.size, 1, none⟩ = some (.int .i64 2)) (first | (refine ⟨?_, ?_, ?_, ?_, ?_⟩ <;> with_reducible assumption) | (refine ⟨keep1 ?_ ?_, keep1 ?_ ?_, keep1 ?_ ?_, keep1 ?_ ?_, keep1 ?_ ?_⟩ <;> with_reducible assumption))
          ((go_at_call 100; refine (betwBall_any (inBall 2 way) w.heap.size T ((-2)) ((-2)) 2 2 w2.drew (by decide) (by decide) (by decide) (by decide) (by decide) (by decide) (by decide) (by decide) (fun x y w1 hx1 hx2 hy1 hy2 hb1 => ballIn_any T w.heap.size x y 2 way w1 HWAY.out ⟨hx1, hx2, hy1, hy2⟩ (Nat.lt_of_lt_of_le hTs hb1.size) (Nat.lt_of_lt_of_le hRs hb1.size) ((hb1.cell (p := ⟨T, 0, none⟩) hTs).trans t2) ((hb1.cell (p := ⟨w.heap.size, 0, none⟩) hRs).trans q2))).mono ?_; rintro e w3 ⟨vn, rfl, o3, hb⟩; rw [HL.out] at o3; obtain ⟨A3, c3', rfl, _, _⟩ := o3.reads.slice; have bw3 := bb.trans (hb.mono bb.size); have q2 := (hb.cell (p := ⟨w.heap.size, 0, none⟩) hRs).trans q2; have c0 := (hb.cell (p := ⟨W.heap.size + 1, 0, none⟩) hLs).trans c0; have c1 := (hb.cell (p := ⟨W.heap.size + 1, 1, none⟩) hLs).trans c1; have c2 := (hb.cell (p := ⟨W.heap.size, 0, none⟩) hGs).trans c2; have c3 := (hb.cell (p := ⟨W.heap.size, 1, none⟩) hGs).trans c3; have m2 := (hb.cell (p := ⟨M, 2, none⟩) hM2).trans m2; have mf2 := (hb.frozen (p := ⟨M, 2, none⟩) hM2).trans mf2))
        have hrow3 := (bw3.block M hMs).trans HROW.out.1
        have hrow4 := heap_setCell_same _ M 2 _ _ (Value.slice A3 (ballL 2 way).length c3') hrow3
        have bt0 := setCell_but w3 M 2 (Value.slice A3 (ballL 2 way).length c3')
        have o4 := (o3.base (show M + 1 ≤ w2.drew.heap.size by omega)).setOther (a := ⟨M, 2, none⟩) (Nat.lt_succ_self _) (Value.slice A3 (ballL 2 way).length c3')
        have bt : But M w _ := (But.of bw3).trans bt0
        clear bt0 hrow3 bw3 hb q2 c0 c1 c2 c3 t2
        go_wp2
        go_ret
        exact ⟨_, rfl, o4, HM.out.set bt hrow4 (HROW.out.2.1.but bt) (HROW.out.2.2.1.but bt) (.inr o4) (HROW.out.2.2.2.but bt), bt⟩
    · obtain ⟨g, cap, rfl⟩ := kept_some HWAY.out (by decide) (by decide) ho
      have HO := Lib.hid ho
      have HROW := Lib.hid (And.intro hrow True.intro)
      clear hrow ho
      have hMs := HM.out.m
      have hTw := HM.out.t
      have hrowM := HROW.out.1
      have rowM := (cell_of_row w _ 2 _ _ _ hrowM).trans (show _ = some (Value.slice (some ⟨g, 0, none⟩) (ballL 2 way).length cap) from rfl)
      have hnil : ∀ W, (binOp .eql 23 (Value.slice (some ⟨g, 0, none⟩) (ballL 2 way).length cap) (.slice none 0 0)).run Try.prog W = .ok (.bool false) W := fun W => Lib.run_eql_slice_nil W _ _ _ _ _ 0 0 Try.underlying23
      have b0 := box_below w #[.int .i64 2] 3
      obtain ⟨W, hW⟩ : ∃ W, W = w.alloc (.cells #[.int .i64 2] 3) := ⟨_, rfl⟩
      have q0 : W.cell? ⟨w.heap.size, 0, none⟩ = some (.int .i64 2) := by rw [hW]; simp [go_sem]
      have s0 : w.heap.size < W.heap.size := by rw [hW]; simp
      rw [← hW] at b0
      have m0 := (b0.cell (p := ⟨M, 2, none⟩) hMs).trans rowM
      have mf := frozen_of_row W _ 2 _ _ ((b0.block M hMs).trans hrowM)
      have t0 := (b0.cell (p := ⟨T, 0, none⟩) hTw).trans HM.out.tell
      clear rowM hrowM
      have hwr : IntKind.i64.wrap (-2) = (-2) := by decide
      go_enter Try.func99, Try.ntmps99
      go_wp2_with (first | (rw [← hW]; clear hW) | fail)
      go_wp2
      go_ret
      exact ⟨_, rfl, HO.out.but (But.of b0), HM.out.below b0, But.of b0⟩
  · obtain ⟨v0, v1, v2, v3, hrow, k0, k1, k2, k3⟩ := hM.row
    have HM := Lib.hid hM
    have HWAY := Lib.hid hw
    clear hM hw hr
    rcases k3 with rfl | ho
    · have HROW := Lib.hid (And.intro hrow (And.intro k0 (And.intro k1 k2)))
      clear hrow
      have hMs := HM.out.m
      have hTw := HM.out.t
      have hrowM := HROW.out.1
      have rowM := (cell_of_row w _ 3 _ _ _ hrowM).trans (show _ = some (Value.slice none 0 0) from rfl)
      have hnil : ∀ W, (binOp .eql 23 (Value.slice none 0 0) (.slice none 0 0)).run Try.prog W = .ok (.bool true) W := fun W => Lib.run_eql_slice_nil W _ _ _ _ _ 0 0 Try.underlying23
      have b0 := box_below w #[.int .i64 3] 3
      obtain ⟨W, hW⟩ : ∃ W, W = w.alloc (.cells #[.int .i64 3] 3) := ⟨_, rfl⟩
      have q0 : W.cell? ⟨w.heap.size, 0, none⟩ = some (.int .i64 3) := by rw [hW]; simp [go_sem]
      have s0 : w.heap.size < W.heap.size := by rw [hW]; simp
      rw [← hW] at b0
      have m0 := (b0.cell (p := ⟨M, 3, none⟩) hMs).trans rowM
      have mf := frozen_of_row W _ 3 _ _ ((b0.block M hMs).trans hrowM)
      have t0 := (b0.cell (p := ⟨T, 0, none⟩) hTw).trans HM.out.tell
      clear rowM hrowM
      have hwr : IntKind.i64.wrap (-3) = (-3) := by decide
      go_enter Try.func99, Try.ntmps99
      go_wp2_with (first | (rw [← hW]; clear hW) | fail)
      go_wp2
      go_region_held3 (fun w' => w'.cell? ⟨w.heap.size, 0, none⟩ = some (.int .i64 3)) (go_keep) (fail)
      · obtain ⟨w2, hw2⟩ : ∃ w2, w2 = ((W.alloc (.cells #[.int .i64 (-3), .int .i64 (-3)] 25)).alloc (.cells #[.int .i64 3, .int .i64 3] 25)).drew := ⟨_, rfl⟩
        have b2 : Below W.heap.size W w2 := by rw [hw2]; exact (((Below.refl _ _).alloc (Nat.le_refl _) _).alloc (by simp) _).drew
        have l2 : w2.heap[W.heap.size]? = some (.cells #[.int .i64 ((-3)), .int .i64 ((-3))] 25 (0, 0)) := by rw [hw2]; exact first_block _ _ _
        have g2 : w2.heap[W.heap.size + 1]? = some (.cells #[.int .i64 3, .int .i64 3] 25 (0, 0)) := by rw [hw2]; exact second_block _ _ _
        rw [← hw2]
        clear hw2 hwr
        obtain ⟨c0, c1⟩ := cells_of_row l2
        obtain ⟨c2, c3⟩ := cells_of_row g2
        have c0 : w2.drew.cell? ⟨W.heap.size, 0, none⟩ = some (.int .i64 ((-3))) := c0
        have c1 : w2.drew.cell? ⟨W.heap.size, 1, none⟩ = some (.int .i64 ((-3))) := c1
        have c2 : w2.drew.cell? ⟨W.heap.size + 1, 0, none⟩ = some (.int .i64 3) := c2
        have c3 : w2.drew.cell? ⟨W.heap.size + 1, 1, none⟩ = some (.int .i64 3) := c3
        have q2 : w2.drew.cell? ⟨w.heap.size, 0, none⟩ = some (.int .i64 3) := (b2.cell (p := ⟨w.heap.size, 0, none⟩) s0).trans q0
        have hMW : M < W.heap.size := Nat.lt_trans hMs s0
        have m2 : w2.drew.cell? ⟨M, 3, none⟩ = some (.slice none 0 0) := (b2.cell (p := ⟨M, 3, none⟩) hMW).trans m0
        have mf2 : w2.drew.frozen? ⟨M, 3, none⟩ = false := (b2.frozen (p := ⟨M, 3, none⟩) hMW).trans mf
        have t2 : w2.drew.cell? ⟨T, 0, none⟩ = some (.func (.func (tellF way)) #[] #[]) := (b2.cell (p := ⟨T, 0, none⟩) (Nat.lt_of_lt_of_le hTw b0.size)).trans t0
        have bb : Below w.heap.size w w2.drew := (below_step b0 b2).drew
        have hLs : W.heap.size < w2.drew.heap.size := (Array.getElem?_eq_some_iff.1 l2).1
        have hGs : W.heap.size + 1 < w2.drew.heap.size := (Array.getElem?_eq_some_iff.1 g2).1
        have hRs : w.heap.size < w2.drew.heap.size := Nat.lt_of_lt_of_le s0 b2.size
        have hTs : T < w2.drew.heap.size := Nat.lt_of_lt_of_le hTw bb.size
        have hM2 : M < w2.drew.heap.size := Nat.lt_of_lt_of_le hMs bb.size
        have hne : M ≠ w.heap.size := Nat.ne_of_lt hMs
        have hne2 := hne.symm
        have hneL : W.heap.size ≠ M := by omega
        have hneG : W.heap.size + 1 ≠ M := by omega
        clear l2 g2 b2 m0 mf t0 q0 b0
        have HL := Lib.hid (show betw (inBall 3 way) ((-3), (-3)) (3, 3) = ballL 3 way from (ball_yes (ballOk_yes (by decide) HWAY.out)).symm)
        go_wp2_with fail
        go_region_held3 (fun w' => w'.cell? ⟨w.heap.size, 0, none⟩ = some (.int .i64 3) ∧ w'.cell? ⟨W.heap.size, 0, none⟩ = some (.int .i64 ((-3))) ∧ w'.cell? ⟨W.heap.size, 1, none⟩ = some (.int .i64 ((-3))) ∧ w'.cell? ⟨W.heap.size + 1, 0, none⟩ = some (.int .i64 3) ∧ w'.cell? ⟨W.heap.size + 1, 1, none⟩ = some (.int .i64 3)) (first | (refine ⟨?_, ?_, ?_, ?_, ?_⟩ <;> with_reducible assumption) | (refine ⟨keep1 ?_ ?_, keep1 ?_ ?_, keep1 ?_ ?_, keep1 ?_ ?_, keep1 ?_ ?_⟩ <;> with_reducible assumption))
          ((go_at_call 100; refine (betwBall_any (inBall 3 way) w.heap.size T ((-3)) ((-3)) 3 3 w2.drew (by decide) (by decide) (by decide) (by decide) (by decide) (by decide) (by decide) (by decide) (fun x y w1 hx1 hx2 hy1 hy2 hb1 => ballIn_any T w.heap.size x y 3 way w1 HWAY.out ⟨hx1, hx2, hy1, hy2⟩ (Nat.lt_of_lt_of_le hTs hb1.size) (Nat.lt_of_lt_of_le hRs hb1.size) ((hb1.cell (p := ⟨T, 0, none⟩) hTs).trans t2) ((hb1.cell (p := ⟨w.heap.size, 0, none⟩) hRs).trans q2))).mono ?_; rintro e w3 ⟨vn, rfl, o3, hb⟩; rw [HL.out] at o3; obtain ⟨A3, c3', rfl, _, _⟩ := o3.reads.slice; have bw3 := bb.trans (hb.mono bb.size); have q2 := (hb.cell (p := ⟨w.heap.size, 0, none⟩) hRs).trans q2; have c0 := (hb.cell (p := ⟨W.heap.size, 0, none⟩) hLs).trans c0; have c1 := (hb.cell (p := ⟨W.heap.size, 1, none⟩) hLs).trans c1; have c2 := (hb.cell (p := ⟨W.heap.size + 1, 0, none⟩) hGs).trans c2; have c3 := (hb.cell (p := ⟨W.heap.size + 1, 1, none⟩) hGs).trans c3; have m2 := (hb.cell (p := ⟨M, 3, none⟩) hM2).trans m2; have mf2 := (hb.frozen (p := ⟨M, 3, none⟩) hM2).trans mf2))
        have hrow3 := (bw3.block M hMs).trans HROW.out.1
        have hrow4 := heap_setCell_same _ M 3 _ _ (Value.slice A3 (ballL 3 way).length c3') hrow3
        have bt0 := setCell_but w3 M 3 (Value.slice A3 (ballL 3 way).length c3')
        have o4 := (o3.base (show M + 1 ≤ w2.drew.heap.size by omega)).setOther (a := ⟨M, 3, none⟩) (Nat.lt_succ_self _) (Value.slice A3 (ballL 3 way).length c3')
        have bt : But M w _ := (But.of bw3).trans bt0
        clear bt0 hrow3 bw3 hb q2 c0 c1 c2 c3 t2
        go_wp2
        go_ret
        exact ⟨_, rfl, o4, HM.out.set bt hrow4 (HROW.out.2.1.but bt) (HROW.out.2.2.1.but bt) (HROW.out.2.2.2.but bt) (.inr o4), bt⟩
      · obtain ⟨w2, hw2⟩ : ∃ w2, w2 = ((W.alloc (.cells #[.int .i64 3, .int .i64 3] 25)).alloc (.cells #[.int .i64 (-3), .int .i64 (-3)] 25)).drew := ⟨_, rfl⟩
        have b2 : Below W.heap.size W w2 := by rw [hw2]; exact (((Below.refl _ _).alloc (Nat.le_refl _) _).alloc (by simp) _).drew
        have l2 : w2.heap[W.heap.size + 1]? = some (.cells #[.int .i64 ((-3)), .int .i64 ((-3))] 25 (0, 0)) := by rw [hw2]; exact second_block _ _ _
        have g2 : w2.heap[W.heap.size]? = some (.cells #[.int .i64 3, .int .i64 3] 25 (0, 0)) := by rw [hw2]; exact first_block _ _ _
        rw [← hw2]
        clear hw2 hwr
        obtain ⟨c0, c1⟩ := cells_of_row l2
        obtain ⟨c2, c3⟩ := cells_of_row g2
        have c0 : w2.drew.cell? ⟨W.heap.size + 1, 0, none⟩ = some (.int .i64 ((-3))) := c0
        have c1 : w2.drew.cell? ⟨W.heap.size + 1, 1, none⟩ = some (.int .i64 ((-3))) := c1
        have c2 : w2.drew.cell? ⟨W.heap.size, 0, none⟩ = some (.int .i64 3) := c2
        have c3 : w2.drew.cell? ⟨W.heap.size, 1, none⟩ = some (.int .i64 3) := c3
        have q2 : w2.drew.cell? ⟨w.heap.size, 0, none⟩ = some (.int .i64 3) := (b2.cell (p := ⟨w.heap.size, 0, none⟩) s0).trans q0
        have hMW : M < W.heap.size := Nat.lt_trans hMs s0
        have m2 : w2.drew.cell? ⟨M, 3, none⟩ = some (.slice none 0 0) := (b2.cell (p := ⟨M, 3, none⟩) hMW).trans m0
        have mf2 : w2.drew.frozen? ⟨M, 3, none⟩ = false := (b2.frozen (p := ⟨M, 3, none⟩) hMW).trans mf
        have t2 : w2.drew.cell? ⟨T, 0, none⟩ = some (.func (.func (tellF way)) #[] #[]) := (b2.cell (p := ⟨T, 0, none⟩) (Nat.lt_of_lt_of_le hTw b0.size)).trans t0
        have bb : Below w.heap.size w w2.drew := (below_step b0 b2).drew
        have hLs : W.heap.size + 1 < w2.drew.heap.size := (Array.getElem?_eq_some_iff.1 l2).1
        have hGs : W.heap.size < w2.drew.heap.size := (Array.getElem?_eq_some_iff.1 g2).1
        have hRs : w.heap.size < w2.drew.heap.size := Nat.lt_of_lt_of_le s0 b2.size
        have hTs : T < w2.drew.heap.size := Nat.lt_of_lt_of_le hTw bb.size
        have hM2 : M < w2.drew.heap.size := Nat.lt_of_lt_of_le hMs bb.size
        have hne : M ≠ w.heap.size := Nat.ne_of_lt hMs
        have hne2 := hne.symm
        have hneL : W.heap.size + 1 ≠ M := by omega
        have hneG : W.heap.size ≠ M := by omega
        clear l2 g2 b2 m0 mf t0 q0 b0
        have HL := Lib.hid (show betw (inBall 3 way) ((-3), (-3)) (3, 3) = ballL 3 way from (ball_yes (ballOk_yes (by decide) HWAY.out)).symm)
        go_wp2_with fail
        go_region_held3 (fun w' => w'.cell? ⟨w.heap.size, 0, none⟩ = some (.int .i64 3) ∧ w'.cell? ⟨W.heap.size + 1, 0, none⟩ = some (.int .i64 ((-3))) ∧ w'.cell? ⟨W.heap.size + 1, 1, none⟩ = some (.int .i64 ((-3))) ∧ w'.cell? ⟨W.heap.size, 0, none⟩ = some (.int .i64 3) ∧ w'.cell? ⟨W.heap.size, 1, none⟩ = some (.int .i64 3)) (first | (refine ⟨?_, ?_, ?_, ?_, ?_⟩ <;> with_reducible assumption) | (refine ⟨keep1 ?_ ?_, keep1 ?_ ?_, keep1 ?_ ?_, keep1 ?_ ?_, keep1 ?_ ?_⟩ <;> with_reducible assumption))
          ((go_at_call 100; refine (betwBall_any (inBall 3 way) w.heap.size T ((-3)) ((-3)) 3 3 w2.drew (by decide) (by decide) (by decide) (by decide) (by decide) (by decide) (by decide) (by decide) (fun x y w1 hx1 hx2 hy1 hy2 hb1 => ballIn_any T w.heap.size x y 3 way w1 HWAY.out ⟨hx1, hx2, hy1, hy2⟩ (Nat.lt_of_lt_of_le hTs hb1.size) (Nat.lt_of_lt_of_le hRs hb1.size) ((hb1.cell (p := ⟨T, 0, none⟩) hTs).trans t2) ((hb1.cell (p := ⟨w.heap.size, 0, none⟩) hRs).trans q2))).mono ?_; rintro e w3 ⟨vn, rfl, o3, hb⟩; rw [HL.out] at o3; obtain ⟨A3, c3', rfl, _, _⟩ := o3.reads.slice; have bw3 := bb.trans (hb.mono bb.size); have q2 := (hb.cell (p := ⟨w.heap.size, 0, none⟩) hRs).trans q2; have c0 := (hb.cell (p := ⟨W.heap.size + 1, 0, none⟩) hLs).trans c0; have c1 := (hb.cell (p := ⟨W.heap.size + 1, 1, none⟩) hLs).trans c1; have c2 := (hb.cell (p := ⟨W.heap.size, 0, none⟩) hGs).trans c2; have c3 := (hb.cell (p := ⟨W.heap.size, 1, none⟩) hGs).trans c3; have m2 := (hb.cell (p := ⟨M, 3, none⟩) hM2).trans m2; have mf2 := (hb.frozen (p := ⟨M, 3, none⟩) hM2).trans mf2))
        have hrow3 := (bw3.block M hMs).trans HROW.out.1
        have hrow4 := heap_setCell_same _ M 3 _ _ (Value.slice A3 (ballL 3 way).length c3') hrow3
        have bt0 := setCell_but w3 M 3 (Value.slice A3 (ballL 3 way).length c3')
        have o4 := (o3.base (show M + 1 ≤ w2.drew.heap.size by omega)).setOther (a := ⟨M, 3, none⟩) (Nat.lt_succ_self _) (Value.slice A3 (ballL 3 way).length c3')
        have bt : But M w _ := (But.of bw3).trans bt0
        clear bt0 hrow3 bw3 hb q2 c0 c1 c2 c3 t2
        go_wp2
        go_ret
        exact ⟨_, rfl, o4, HM.out.set bt hrow4 (HROW.out.2.1.but bt) (HROW.out.2.2.1.but bt) (HROW.out.2.2.2.but bt) (.inr o4), bt⟩
    · obtain ⟨g, cap, rfl⟩ := kept_some HWAY.out (by decide) (by decide) ho
      have HO := Lib.hid ho
      have HROW := Lib.hid (And.intro hrow True.intro)
      clear hrow ho
      have hMs := HM.out.m
      have hTw := HM.out.t
      have hrowM := HROW.out.1
      have rowM := (cell_of_row w _ 3 _ _ _ hrowM).trans (show _ = some (Value.slice (some ⟨g, 0, none⟩) (ballL 3 way).length cap) from rfl)
      have hnil : ∀ W, (binOp .eql 23 (Value.slice (some ⟨g, 0, none⟩) (ballL 3 way).length cap) (.slice none 0 0)).run Try.prog W = .ok (.bool false) W := fun W => Lib.run_eql_slice_nil W _ _ _ _ _ 0 0 Try.underlying23
      have b0 := box_below w #[.int .i64 3] 3
      obtain ⟨W, hW⟩ : ∃ W, W = w.alloc (.cells #[.int .i64 3] 3) := ⟨_, rfl⟩
      have q0 : W.cell? ⟨w.heap.size, 0, none⟩ = some (.int .i64 3) := by rw [hW]; simp [go_sem]
      have s0 : w.heap.size < W.heap.size := by rw [hW]; simp
      rw [← hW] at b0
      have m0 := (b0.cell (p := ⟨M, 3, none⟩) hMs).trans rowM
      have mf := frozen_of_row W _ 3 _ _ ((b0.block M hMs).trans hrowM)
      have t0 := (b0.cell (p := ⟨T, 0, none⟩) hTw).trans HM.out.tell
      clear rowM hrowM
      have hwr : IntKind.i64.wrap (-3) = (-3) := by decide
      go_enter Try.func99, Try.ntmps99
      go_wp2_with (first | (rw [← hW]; clear hW) | fail)
      go_wp2
      go_ret
      exact ⟨_, rfl, HO.out.but (But.of b0), HM.out.below b0, But.of b0⟩
end Go.Proofs.Ytdfpgfnfoippmaa
