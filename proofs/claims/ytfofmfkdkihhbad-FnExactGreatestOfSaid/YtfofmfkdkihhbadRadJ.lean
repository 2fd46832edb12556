/- Texts of one kind, merged: BallK, RadI, RadJ. No conditions but those that stand in each theorem. -/
import Derived.Test.YtfofmfkdkihhbadBallI
import Derived.Test.YtfofmfkdkihhbadFitI
import Derived.Test.YtfofmfkdkihhbadGreats
import Derived.Test.YtfofmfkdkihhbadCents
import Derived.Test.YtfofmfkdkihhbadPicWalk
import Derived.Deep.RegionHeld3
namespace Go.Proofs.Ytfofmfkdkihhbad
/-! ### BallK -/
section
open Go.RowKit Go.Sort

/-- all old blocks but this one are as they were -/
abbrev But (M : Nat) (w w' : World) : Prop := w.grownBy w' (some M)
theorem But.refl (M : Nat) (w : World) : But M w w := ⟨rfl, rfl, rfl, Nat.le_refl _, fun _ _ _ => rfl⟩
theorem But.trans {M : Nat} {a b c : World} (h : But M a b) (k : But M b c) : But M a c :=
  ⟨k.os.trans h.os, k.tape.trans h.tape, k.output.trans h.output, Nat.le_trans h.size k.size, fun j hj hn => (k.block j (Nat.lt_of_lt_of_le hj h.size) hn).trans (h.block j hj hn)⟩
theorem But.of {M : Nat} {w w' : World} (h : Below w.heap.size w w') : But M w w' := ⟨h.os, h.tape, h.output, h.size, fun j hj _ => h.block j hj⟩
theorem But.then {M : Nat} {a b c : World} (h : But M a b) (k : Below b.heap.size b c) : But M a c := h.trans (But.of k)
theorem But.below {M B : Nat} {w w' : World} (h : But M w w') (hB : B ≤ M) (hw : B ≤ w.heap.size) : Below B w w' := (Below.refl _ _).grown h hw fun k hk => by cases hk; exact hB
theorem But.cell {M b o : Nat} {w w' : World} {v : Value} (h : But M w w') (hn : b ≠ M) (hc : w.cell? ⟨b, o, none⟩ = some v) : w'.cell? ⟨b, o, none⟩ = some v :=
  World.grownBy.cell h hc fun e => by injection e with e; exact hn e
theorem Owns.but {M : Nat} {w w' : World} {v : Value} {ps : List Sp} (h : Owns w (M + 1) v ps) (k : But M w w') : Owns w' (M + 1) v ps :=
  h.grown k (.inr fun e => by have := (h.lt M e).1; omega)

/-- a ball that is kept, or none so far -/
def Kept (way : Int) (M : Nat) (w : World) (r : Int) (v : Value) : Prop := v = .slice none 0 0 ∨ Owns w (M + 1) v (ballL r way)
theorem Kept.but {way : Int} {M : Nat} {w w' : World} {r : Int} {v : Value} (h : Kept way M w r v) (k : But M w w') : Kept way M w' r v := h.imp id fun h => h.but k
structure Making (M T : Nat) (way : Int) (w : World) : Prop where
  m : M < w.heap.size
  t : T < w.heap.size
  ne : M ≠ T
  row : ∃ v0 v1 v2 v3, w.heap[M]? = some (.cells #[v0, v1, v2, v3] 109 (0, 0)) ∧ Kept way M w 0 v0 ∧ Kept way M w 1 v1 ∧ Kept way M w 2 v2 ∧ Kept way M w 3 v3
  tell : w.cell? ⟨T, 0, none⟩ = some (.func (.func (tellF way)) #[] #[])
theorem Maker.making {M T : Nat} {way : Int} {w : World} (h : Maker M T way w) : Making M T way w :=
  ⟨h.m, h.t, h.ne, ⟨_, _, _, _, h.row, .inl rfl, .inl rfl, .inl rfl, .inl rfl⟩, h.tell⟩
theorem Making.below {M T : Nat} {way : Int} {w w' : World} (h : Making M T way w) (k : Below w.heap.size w w') : Making M T way w' := by
  obtain ⟨v0, v1, v2, v3, hr, h0, h1, h2, h3⟩ := h.row
  exact ⟨Nat.lt_of_lt_of_le h.m k.size, Nat.lt_of_lt_of_le h.t k.size, h.ne, ⟨v0, v1, v2, v3, (k.block M h.m).trans hr, h0.but (But.of k), h1.but (But.of k), h2.but (But.of k), h3.but (But.of k)⟩, (k.cell (p := ⟨T, 0, none⟩) h.t).trans h.tell⟩
/-- the ball of one radius is set, the other ones as they were -/
theorem Making.set {M T : Nat} {way : Int} {w w' : World} (h : Making M T way w) (k : But M w w') {v0 v1 v2 v3 : Value} (hr : w'.heap[M]? = some (.cells #[v0, v1, v2, v3] 109 (0, 0))) (h0 : Kept way M w' 0 v0) (h1 : Kept way M w' 1 v1) (h2 : Kept way M w' 2 v2) (h3 : Kept way M w' 3 v3) : Making M T way w' :=
  ⟨Nat.lt_of_lt_of_le h.m k.size, Nat.lt_of_lt_of_le h.t k.size, h.ne, ⟨v0, v1, v2, v3, hr, h0, h1, h2, h3⟩, k.cell h.ne.symm h.tell⟩
def BallPost (M T : Nat) (r way : Int) (w : World) (e : Ending) (w' : World) : Prop := ∃ v', e = .returned v' ∧ Owns w' (M + 1) v' (ballL r way) ∧ Making M T way w' ∧ But M w w'
theorem setCell_but (w : World) (M i : Nat) (v : Value) : But M w (w.setCell ⟨M, i, none⟩ v) :=
  ⟨rfl, rfl, rfl, by simp, fun j _ hn => heap_setCell_other _ _ _ _ fun e => hn (by rw [e])⟩
theorem kept_some {w : World} {M : Nat} {r way : Int} {v : Value} (hw : wayOk way = true) (h0 : 0 ≤ r) (h3 : r ≤ 3) (h : Owns w (M + 1) v (ballL r way)) : ∃ g cap, v = .slice (some ⟨g, 0, none⟩) (ballL r way).length cap := by
  have hp := ball_pos (show ballOk r way = true from ballOk_yes (decide_eq_true ⟨h0, h3⟩) hw)
  rcases h.2 with ⟨_, hn⟩ | ⟨g, cap, cur, hv, _⟩
  · omega
  · exact ⟨g, cap, hv⟩
set_option maxHeartbeats 1600000 in
set_option maxRecDepth 100000 in
theorem making_any (M T : Nat) (r way : Int) (w : World) (hw : wayOk way = true) (hr : 0 ≤ r ∧ r ≤ 3) (hM : Making M T way w) :
    Calls Try.prog 94 #[.int .i64 r, .pointer (some ⟨M, 0, none⟩), .pointer (some ⟨T, 0, none⟩)] w (BallPost M T r way w) := by
  obtain rfl | rfl | rfl | rfl : r = 0 ∨ r = 1 ∨ r = 2 ∨ r = 3 := by omega
  · obtain ⟨v0, v1, v2, v3, hrow, k0, k1, k2, k3⟩ := hM.row
    have HM := Lib.hid hM
    have HWAY := Lib.hid hw
    clear hM hw hr
    rcases k0 with rfl | ho
    · have HROW := Lib.hid (And.intro hrow (And.intro k1 (And.intro k2 k3)))
      clear hrow
      have hMs := HM.out.m
      have hTw := HM.out.t
      have hrowM := HROW.out.1
      have rowM := (cell_of_row w _ 0 _ _ _ hrowM).trans (show _ = some (Value.slice none 0 0) from rfl)
      have hnil : ∀ W, (binOp .eql 23 (Value.slice none 0 0) (.slice none 0 0)).run Try.prog W = .ok (.bool true) W := fun W => Lib.run_eql_slice_nil W _ _ _ _ _ 0 0 Try.underlying23
      have b0 := box_below w #[.int .i64 0] 3
      obtain ⟨W, hW⟩ : ∃ W, W = w.alloc (.cells #[.int .i64 0] 3) := ⟨_, rfl⟩
      have q0 : W.cell? ⟨w.heap.size, 0, none⟩ = some (.int .i64 0) := by rw [hW]; simp [go_sem]
      have s0 : w.heap.size < W.heap.size := by rw [hW]; simp
      rw [← hW] at b0
      have m0 := (b0.cell (p := ⟨M, 0, none⟩) hMs).trans rowM
      have mf := frozen_of_row W _ 0 _ _ ((b0.block M hMs).trans hrowM)
      have t0 := (b0.cell (p := ⟨T, 0, none⟩) hTw).trans HM.out.tell
      clear rowM hrowM
      have hwr : IntKind.i64.wrap 0 = 0 := by decide
      go_enter Try.func94, Try.ntmps94
      go_wp2_with (first | (rw [← hW]; clear hW) | fail)
      go_wp2
      go_region_held3 (fun w' => w'.cell? ⟨w.heap.size, 0, none⟩ = some (.int .i64 0)) (go_keep) (fail)
      · obtain ⟨w2, hw2⟩ : ∃ w2, w2 = ((W.alloc (.cells #[.int .i64 0, .int .i64 0] 25)).alloc (.cells #[.int .i64 0, .int .i64 0] 25)).drew := ⟨_, rfl⟩
        have b2 : Below W.heap.size W w2 := by rw [hw2]; exact (((Below.refl _ _).alloc (Nat.le_refl _) _).alloc (by simp) _).drew
        have l2 : w2.heap[W.heap.size]? = some (.cells #[.int .i64 (0), .int .i64 (0)] 25 (0, 0)) := by rw [hw2]; exact first_block _ _ _
        have g2 : w2.heap[W.heap.size + 1]? = some (.cells #[.int .i64 0, .int .i64 0] 25 (0, 0)) := by rw [hw2]; exact second_block _ _ _
        rw [← hw2]
        clear hw2 hwr
        obtain ⟨c0, c1⟩ := cells_of_row l2
        obtain ⟨c2, c3⟩ := cells_of_row g2
        have c0 : w2.drew.cell? ⟨W.heap.size, 0, none⟩ = some (.int .i64 (0)) := c0
        have c1 : w2.drew.cell? ⟨W.heap.size, 1, none⟩ = some (.int .i64 (0)) := c1
        have c2 : w2.drew.cell? ⟨W.heap.size + 1, 0, none⟩ = some (.int .i64 0) := c2
        have c3 : w2.drew.cell? ⟨W.heap.size + 1, 1, none⟩ = some (.int .i64 0) := c3
        have q2 : w2.drew.cell? ⟨w.heap.size, 0, none⟩ = some (.int .i64 0) := (b2.cell (p := ⟨w.heap.size, 0, none⟩) s0).trans q0
        have hMW : M < W.heap.size := Nat.lt_trans hMs s0
        have m2 : w2.drew.cell? ⟨M, 0, none⟩ = some (.slice none 0 0) := (b2.cell (p := ⟨M, 0, none⟩) hMW).trans m0
        have mf2 : w2.drew.frozen? ⟨M, 0, none⟩ = false := (b2.frozen (p := ⟨M, 0, none⟩) hMW).trans mf
        have t2 : w2.drew.cell? ⟨T, 0, none⟩ = some (.func (.func (tellF way)) #[] #[]) := (b2.cell (p := ⟨T, 0, none⟩) (Nat.lt_of_lt_of_le hTw b0.size)).trans t0
        have bb : Below w.heap.size w w2.drew := (below_step b0 b2).drew
        have hLs : W.heap.size < w2.drew.heap.size := (Array.getElem?_eq_some_iff.1 l2).1
        have hGs : W.heap.size + 1 < w2.drew.heap.size := (Array.getElem?_eq_some_iff.1 g2).1
        have hRs : w.heap.size < w2.drew.heap.size := Nat.lt_of_lt_of_le s0 b2.size
        have hTs : T < w2.drew.heap.size := Nat.lt_of_lt_of_le hTw bb.size
        have hM2 : M < w2.drew.heap.size := Nat.lt_of_lt_of_le hMs bb.size
        have hne : M ≠ w.heap.size := Nat.ne_of_lt hMs
        have hne2 := hne.symm
        have hneL : W.heap.size ≠ M := by omega
        have hneG : W.heap.size + 1 ≠ M := by omega
        clear l2 g2 b2 m0 mf t0 q0 b0
        have HL := Lib.hid (show betw (inBall 0 way) (0, 0) (0, 0) = ballL 0 way from (ball_yes (ballOk_yes (by decide) HWAY.out)).symm)
        go_wp2_with fail
        go_region_held3 (fun w' => w'.cell? ⟨w.heap.size, 0, none⟩ = some (.int .i64 0) ∧ w'.cell? ⟨W.heap.size, 0, none⟩ = some (.int .i64 (0)) ∧ w'.cell? ⟨W.heap.size, 1, none⟩ = some (.int .i64 (0)) ∧ w'.cell? ⟨W.heap.size + 1, 0, none⟩ = some (.int .i64 0) ∧ w'.cell? ⟨W.heap.size + 1, 1, none⟩ = some (.int .i64 0)) (first | (refine ⟨?_, ?_, ?_, ?_, ?_⟩ <;> with_reducible assumption) | (refine ⟨keep1 ?_ ?_, keep1 ?_ ?_, keep1 ?_ ?_, keep1 ?_ ?_, keep1 ?_ ?_⟩ <;> with_reducible assumption))
          ((go_at_call 95; refine (betwBall_any (inBall 0 way) w.heap.size T (0) (0) 0 0 w2.drew (by decide) (by decide) (by decide) (by decide) (by decide) (by decide) (by decide) (by decide) (fun x y w1 hx1 hx2 hy1 hy2 hb1 => ballIn_any T w.heap.size x y 0 way w1 HWAY.out ⟨hx1, hx2, hy1, hy2⟩ (Nat.lt_of_lt_of_le hTs hb1.size) (Nat.lt_of_lt_of_le hRs hb1.size) ((hb1.cell (p := ⟨T, 0, none⟩) hTs).trans t2) ((hb1.cell (p := ⟨w.heap.size, 0, none⟩) hRs).trans q2))).mono ?_; rintro e w3 ⟨vn, rfl, o3, hb⟩; rw [HL.out] at o3; obtain ⟨A3, c3', rfl, _, _⟩ := o3.reads.slice; have bw3 := bb.trans (hb.mono bb.size); have q2 := (hb.cell (p := ⟨w.heap.size, 0, none⟩) hRs).trans q2; have c0 := (hb.cell (p := ⟨W.heap.size, 0, none⟩) hLs).trans c0; have c1 := (hb.cell (p := ⟨W.heap.size, 1, none⟩) hLs).trans c1; have c2 := (hb.cell (p := ⟨W.heap.size + 1, 0, none⟩) hGs).trans c2; have c3 := (hb.cell (p := ⟨W.heap.size + 1, 1, none⟩) hGs).trans c3; have m2 := (hb.cell (p := ⟨M, 0, none⟩) hM2).trans m2; have mf2 := (hb.frozen (p := ⟨M, 0, none⟩) hM2).trans mf2))
        have hrow3 := (bw3.block M hMs).trans HROW.out.1
        have hrow4 := heap_setCell_same _ M 0 _ _ (Value.slice A3 (ballL 0 way).length c3') hrow3
        have bt0 := setCell_but w3 M 0 (Value.slice A3 (ballL 0 way).length c3')
        have o4 := (o3.base (show M + 1 ≤ w2.drew.heap.size by omega)).setOther (a := ⟨M, 0, none⟩) (Nat.lt_succ_self _) (Value.slice A3 (ballL 0 way).length c3')
        have bt : But M w _ := (But.of bw3).trans bt0
        clear bt0 hrow3 bw3 hb q2 c0 c1 c2 c3 t2
        go_wp2
        go_ret
        exact ⟨_, rfl, o4, HM.out.set bt hrow4 (.inr o4) (HROW.out.2.1.but bt) (HROW.out.2.2.1.but bt) (HROW.out.2.2.2.but bt), bt⟩
      · obtain ⟨w2, hw2⟩ : ∃ w2, w2 = ((W.alloc (.cells #[.int .i64 0, .int .i64 0] 25)).alloc (.cells #[.int .i64 0, .int .i64 0] 25)).drew := ⟨_, rfl⟩
        have b2 : Below W.heap.size W w2 := by rw [hw2]; exact (((Below.refl _ _).alloc (Nat.le_refl _) _).alloc (by simp) _).drew
        have l2 : w2.heap[W.heap.size + 1]? = some (.cells #[.int .i64 (0), .int .i64 (0)] 25 (0, 0)) := by rw [hw2]; exact second_block _ _ _
        have g2 : w2.heap[W.heap.size]? = some (.cells #[.int .i64 0, .int .i64 0] 25 (0, 0)) := by rw [hw2]; exact first_block _ _ _
        rw [← hw2]
        clear hw2 hwr
        obtain ⟨c0, c1⟩ := cells_of_row l2
        obtain ⟨c2, c3⟩ := cells_of_row g2
        have c0 : w2.drew.cell? ⟨W.heap.size + 1, 0, none⟩ = some (.int .i64 (0)) := c0
        have c1 : w2.drew.cell? ⟨W.heap.size + 1, 1, none⟩ = some (.int .i64 (0)) := c1
        have c2 : w2.drew.cell? ⟨W.heap.size, 0, none⟩ = some (.int .i64 0) := c2
        have c3 : w2.drew.cell? ⟨W.heap.size, 1, none⟩ = some (.int .i64 0) := c3
        have q2 : w2.drew.cell? ⟨w.heap.size, 0, none⟩ = some (.int .i64 0) := (b2.cell (p := ⟨w.heap.size, 0, none⟩) s0).trans q0
        have hMW : M < W.heap.size := Nat.lt_trans hMs s0
        have m2 : w2.drew.cell? ⟨M, 0, none⟩ = some (.slice none 0 0) := (b2.cell (p := ⟨M, 0, none⟩) hMW).trans m0
        have mf2 : w2.drew.frozen? ⟨M, 0, none⟩ = false := (b2.frozen (p := ⟨M, 0, none⟩) hMW).trans mf
        have t2 : w2.drew.cell? ⟨T, 0, none⟩ = some (.func (.func (tellF way)) #[] #[]) := (b2.cell (p := ⟨T, 0, none⟩) (Nat.lt_of_lt_of_le hTw b0.size)).trans t0
        have bb : Below w.heap.size w w2.drew := (below_step b0 b2).drew
        have hLs : W.heap.size + 1 < w2.drew.heap.size := (Array.getElem?_eq_some_iff.1 l2).1
        have hGs : W.heap.size < w2.drew.heap.size := (Array.getElem?_eq_some_iff.1 g2).1
        have hRs : w.heap.size < w2.drew.heap.size := Nat.lt_of_lt_of_le s0 b2.size
        have hTs : T < w2.drew.heap.size := Nat.lt_of_lt_of_le hTw bb.size
        have hM2 : M < w2.drew.heap.size := Nat.lt_of_lt_of_le hMs bb.size
        have hne : M ≠ w.heap.size := Nat.ne_of_lt hMs
        have hne2 := hne.symm
        have hneL : W.heap.size + 1 ≠ M := by omega
        have hneG : W.heap.size ≠ M := by omega
        clear l2 g2 b2 m0 mf t0 q0 b0
        have HL := Lib.hid (show betw (inBall 0 way) (0, 0) (0, 0) = ballL 0 way from (ball_yes (ballOk_yes (by decide) HWAY.out)).symm)
        go_wp2_with fail
        go_region_held3 (fun w' => w'.cell? ⟨w.heap.size, 0, none⟩ = some (.int .i64 0) ∧ w'.cell? ⟨W.heap.size + 1, 0, none⟩ = some (.int .i64 (0)) ∧ w'.cell? ⟨W.heap.size + 1, 1, none⟩ = some (.int .i64 (0)) ∧ w'.cell? ⟨W.heap.size, 0, none⟩ = some (.int .i64 0) ∧ w'.cell? ⟨W.heap.size, 1, none⟩ = some (.int .i64 0)) (first | (refine ⟨?_, ?_, ?_, ?_, ?_⟩ <;> with_reducible assumption) | (refine ⟨keep1 ?_ ?_, keep1 ?_ ?_, keep1 ?_ ?_, keep1 ?_ ?_, keep1 ?_ ?_⟩ <;> with_reducible assumption))
          ((go_at_call 95; refine (betwBall_any (inBall 0 way) w.heap.size T (0) (0) 0 0 w2.drew (by decide) (by decide) (by decide) (by decide) (by decide) (by decide) (by decide) (by decide) (fun x y w1 hx1 hx2 hy1 hy2 hb1 => ballIn_any T w.heap.size x y 0 way w1 HWAY.out ⟨hx1, hx2, hy1, hy2⟩ (Nat.lt_of_lt_of_le hTs hb1.size) (Nat.lt_of_lt_of_le hRs hb1.size) ((hb1.cell (p := ⟨T, 0, none⟩) hTs).trans t2) ((hb1.cell (p := ⟨w.heap.size, 0, none⟩) hRs).trans q2))).mono ?_; rintro e w3 ⟨vn, rfl, o3, hb⟩; rw [HL.out] at o3; obtain ⟨A3, c3', rfl, _, _⟩ := o3.reads.slice; have bw3 := bb.trans (hb.mono bb.size); have q2 := (hb.cell (p := ⟨w.heap.size, 0, none⟩) hRs).trans q2; have c0 := (hb.cell (p := ⟨W.heap.size + 1, 0, none⟩) hLs).trans c0; have c1 := (hb.cell (p := ⟨W.heap.size + 1, 1, none⟩) hLs).trans c1; have c2 := (hb.cell (p := ⟨W.heap.size, 0, none⟩) hGs).trans c2; have c3 := (hb.cell (p := ⟨W.heap.size, 1, none⟩) hGs).trans c3; have m2 := (hb.cell (p := ⟨M, 0, none⟩) hM2).trans m2; have mf2 := (hb.frozen (p := ⟨M, 0, none⟩) hM2).trans mf2))
        have hrow3 := (bw3.block M hMs).trans HROW.out.1
        have hrow4 := heap_setCell_same _ M 0 _ _ (Value.slice A3 (ballL 0 way).length c3') hrow3
        have bt0 := setCell_but w3 M 0 (Value.slice A3 (ballL 0 way).length c3')
        have o4 := (o3.base (show M + 1 ≤ w2.drew.heap.size by omega)).setOther (a := ⟨M, 0, none⟩) (Nat.lt_succ_self _) (Value.slice A3 (ballL 0 way).length c3')
        have bt : But M w _ := (But.of bw3).trans bt0
        clear bt0 hrow3 bw3 hb q2 c0 c1 c2 c3 t2
        go_wp2
        go_ret
        exact ⟨_, rfl, o4, HM.out.set bt hrow4 (.inr o4) (HROW.out.2.1.but bt) (HROW.out.2.2.1.but bt) (HROW.out.2.2.2.but bt), bt⟩
    · obtain ⟨g, cap, rfl⟩ := kept_some HWAY.out (by decide) (by decide) ho
      have HO := Lib.hid ho
      have HROW := Lib.hid (And.intro hrow True.intro)
      clear hrow ho
      have hMs := HM.out.m
      have hTw := HM.out.t
      have hrowM := HROW.out.1
      have rowM := (cell_of_row w _ 0 _ _ _ hrowM).trans (show _ = some (Value.slice (some ⟨g, 0, none⟩) (ballL 0 way).length cap) from rfl)
      have hnil : ∀ W, (binOp .eql 23 (Value.slice (some ⟨g, 0, none⟩) (ballL 0 way).length cap) (.slice none 0 0)).run Try.prog W = .ok (.bool false) W := fun W => Lib.run_eql_slice_nil W _ _ _ _ _ 0 0 Try.underlying23
      have b0 := box_below w #[.int .i64 0] 3
      obtain ⟨W, hW⟩ : ∃ W, W = w.alloc (.cells #[.int .i64 0] 3) := ⟨_, rfl⟩
      have q0 : W.cell? ⟨w.heap.size, 0, none⟩ = some (.int .i64 0) := by rw [hW]; simp [go_sem]
      have s0 : w.heap.size < W.heap.size := by rw [hW]; simp
      rw [← hW] at b0
      have m0 := (b0.cell (p := ⟨M, 0, none⟩) hMs).trans rowM
      have mf := frozen_of_row W _ 0 _ _ ((b0.block M hMs).trans hrowM)
      have t0 := (b0.cell (p := ⟨T, 0, none⟩) hTw).trans HM.out.tell
      clear rowM hrowM
      have hwr : IntKind.i64.wrap 0 = 0 := by decide
      go_enter Try.func94, Try.ntmps94
      go_wp2_with (first | (rw [← hW]; clear hW) | fail)
      go_wp2
      go_ret
      exact ⟨_, rfl, HO.out.but (But.of b0), HM.out.below b0, But.of b0⟩
  · obtain ⟨v0, v1, v2, v3, hrow, k0, k1, k2, k3⟩ := hM.row
    have HM := Lib.hid hM
    have HWAY := Lib.hid hw
    clear hM hw hr
    rcases k1 with rfl | ho
    · have HROW := Lib.hid (And.intro hrow (And.intro k0 (And.intro k2 k3)))
      clear hrow
      have hMs := HM.out.m
      have hTw := HM.out.t
      have hrowM := HROW.out.1
      have rowM := (cell_of_row w _ 1 _ _ _ hrowM).trans (show _ = some (Value.slice none 0 0) from rfl)
      have hnil : ∀ W, (binOp .eql 23 (Value.slice none 0 0) (.slice none 0 0)).run Try.prog W = .ok (.bool true) W := fun W => Lib.run_eql_slice_nil W _ _ _ _ _ 0 0 Try.underlying23
      have b0 := box_below w #[.int .i64 1] 3
      obtain ⟨W, hW⟩ : ∃ W, W = w.alloc (.cells #[.int .i64 1] 3) := ⟨_, rfl⟩
      have q0 : W.cell? ⟨w.heap.size, 0, none⟩ = some (.int .i64 1) := by rw [hW]; simp [go_sem]
      have s0 : w.heap.size < W.heap.size := by rw [hW]; simp
      rw [← hW] at b0
      have m0 := (b0.cell (p := ⟨M, 1, none⟩) hMs).trans rowM
      have mf := frozen_of_row W _ 1 _ _ ((b0.block M hMs).trans hrowM)
      have t0 := (b0.cell (p := ⟨T, 0, none⟩) hTw).trans HM.out.tell
      clear rowM hrowM
      have hwr : IntKind.i64.wrap (-1) = (-1) := by decide
      go_enter Try.func94, Try.ntmps94
      go_wp2_with (first | (rw [← hW]; clear hW) | fail)
      go_wp2
      go_region_held3 (fun w' => w'.cell? ⟨w.heap.size, 0, none⟩ = some (.int .i64 1)) (go_keep) (fail)
      · obtain ⟨w2, hw2⟩ : ∃ w2, w2 = ((W.alloc (.cells #[.int .i64 (-1), .int .i64 (-1)] 25)).alloc (.cells #[.int .i64 1, .int .i64 1] 25)).drew := ⟨_, rfl⟩
        have b2 : Below W.heap.size W w2 := by rw [hw2]; exact (((Below.refl _ _).alloc (Nat.le_refl _) _).alloc (by simp) _).drew
        have l2 : w2.heap[W.heap.size]? = some (.cells #[.int .i64 ((-1)), .int .i64 ((-1))] 25 (0, 0)) := by rw [hw2]; exact first_block _ _ _
        have g2 : w2.heap[W.heap.size + 1]? = some (.cells #[.int .i64 1, .int .i64 1] 25 (0, 0)) := by rw [hw2]; exact second_block _ _ _
        rw [← hw2]
        clear hw2 hwr
        obtain ⟨c0, c1⟩ := cells_of_row l2
        obtain ⟨c2, c3⟩ := cells_of_row g2
        have c0 : w2.drew.cell? ⟨W.heap.size, 0, none⟩ = some (.int .i64 ((-1))) := c0
        have c1 : w2.drew.cell? ⟨W.heap.size, 1, none⟩ = some (.int .i64 ((-1))) := c1
        have c2 : w2.drew.cell? ⟨W.heap.size + 1, 0, none⟩ = some (.int .i64 1) := c2
        have c3 : w2.drew.cell? ⟨W.heap.size + 1, 1, none⟩ = some (.int .i64 1) := c3
        have q2 : w2.drew.cell? ⟨w.heap.size, 0, none⟩ = some (.int .i64 1) := (b2.cell (p := ⟨w.heap.size, 0, none⟩) s0).trans q0
        have hMW : M < W.heap.size := Nat.lt_trans hMs s0
        have m2 : w2.drew.cell? ⟨M, 1, none⟩ = some (.slice none 0 0) := (b2.cell (p := ⟨M, 1, none⟩) hMW).trans m0
        have mf2 : w2.drew.frozen? ⟨M, 1, none⟩ = false := (b2.frozen (p := ⟨M, 1, none⟩) hMW).trans mf
        have t2 : w2.drew.cell? ⟨T, 0, none⟩ = some (.func (.func (tellF way)) #[] #[]) := (b2.cell (p := ⟨T, 0, none⟩) (Nat.lt_of_lt_of_le hTw b0.size)).trans t0
        have bb : Below w.heap.size w w2.drew := (below_step b0 b2).drew
        have hLs : W.heap.size < w2.drew.heap.size := (Array.getElem?_eq_some_iff.1 l2).1
        have hGs : W.heap.size + 1 < w2.drew.heap.size := (Array.getElem?_eq_some_iff.1 g2).1
        have hRs : w.heap.size < w2.drew.heap.size := Nat.lt_of_lt_of_le s0 b2.size
        have hTs : T < w2.drew.heap.size := Nat.lt_of_lt_of_le hTw bb.size
        have hM2 : M < w2.drew.heap.size := Nat.lt_of_lt_of_le hMs bb.size
        have hne : M ≠ w.heap.size := Nat.ne_of_lt hMs
        have hne2 := hne.symm
        have hneL : W.heap.size ≠ M := by omega
        have hneG : W.heap.size + 1 ≠ M := by omega
        clear l2 g2 b2 m0 mf t0 q0 b0
        have HL := Lib.hid (show betw (inBall 1 way) ((-1), (-1)) (1, 1) = ballL 1 way from (ball_yes (ballOk_yes (by decide) HWAY.out)).symm)
        go_wp2_with fail
        go_region_held3 (fun w' => w'.cell? ⟨w.heap.size, 0, none⟩ = some (.int .i64 1) ∧ w'.cell? ⟨W.heap.size, 0, none⟩ = some (.int .i64 ((-1))) ∧ w'.cell? ⟨W.heap.size, 1, none⟩ = some (.int .i64 ((-1))) ∧ w'.cell? ⟨W.heap.size + 1, 0, none⟩ = some (.int .i64 1) ∧ w'.cell? ⟨W.heap.size + 1, 1, none⟩ = some (.int .i64 1)) (first | (refine ⟨?_, ?_, ?_, ?_, ?_⟩ <;> with_reducible assumption) | (refine ⟨keep1 ?_ ?_, keep1 ?_ ?_, keep1 ?_ ?_, keep1 ?_ ?_, keep1 ?_ ?_⟩ <;> with_reducible assumption))
          ((go_at_call 95; refine (betwBall_any (inBall 1 way) w.heap.size T ((-1)) ((-1)) 1 1 w2.drew (by decide) (by decide) (by decide) (by decide) (by decide) (by decide) (by decide) (by decide) (fun x y w1 hx1 hx2 hy1 hy2 hb1 => ballIn_any T w.heap.size x y 1 way w1 HWAY.out ⟨hx1, hx2, hy1, hy2⟩ (Nat.lt_of_lt_of_le hTs hb1.size) (Nat.lt_of_lt_of_le hRs hb1.size) ((hb1.cell (p := ⟨T, 0, none⟩) hTs).trans t2) ((hb1.cell (p := ⟨w.heap.size, 0, none⟩) hRs).trans q2))).mono ?_; rintro e w3 ⟨vn, rfl, o3, hb⟩; rw [HL.out] at o3; obtain ⟨A3, c3', rfl, _, _⟩ := o3.reads.slice; have bw3 := bb.trans (hb.mono bb.size); have q2 := (hb.cell (p := ⟨w.heap.size, 0, none⟩) hRs).trans q2; have c0 := (hb.cell (p := ⟨W.heap.size, 0, none⟩) hLs).trans c0; have c1 := (hb.cell (p := ⟨W.heap.size, 1, none⟩) hLs).trans c1; have c2 := (hb.cell (p := ⟨W.heap.size + 1, 0, none⟩) hGs).trans c2; have c3 := (hb.cell (p := ⟨W.heap.size + 1, 1, none⟩) hGs).trans c3; have m2 := (hb.cell (p := ⟨M, 1, none⟩) hM2).trans m2; have mf2 := (hb.frozen (p := ⟨M, 1, none⟩) hM2).trans mf2))
        have hrow3 := (bw3.block M hMs).trans HROW.out.1
        have hrow4 := heap_setCell_same _ M 1 _ _ (Value.slice A3 (ballL 1 way).length c3') hrow3
        have bt0 := setCell_but w3 M 1 (Value.slice A3 (ballL 1 way).length c3')
        have o4 := (o3.base (show M + 1 ≤ w2.drew.heap.size by omega)).setOther (a := ⟨M, 1, none⟩) (Nat.lt_succ_self _) (Value.slice A3 (ballL 1 way).length c3')
        have bt : But M w _ := (But.of bw3).trans bt0
        clear bt0 hrow3 bw3 hb q2 c0 c1 c2 c3 t2
        go_wp2
        go_ret
        exact ⟨_, rfl, o4, HM.out.set bt hrow4 (HROW.out.2.1.but bt) (.inr o4) (HROW.out.2.2.1.but bt) (HROW.out.2.2.2.but bt), bt⟩
      · obtain ⟨w2, hw2⟩ : ∃ w2, w2 = ((W.alloc (.cells #[.int .i64 1, .int .i64 1] 25)).alloc (.cells #[.int .i64 (-1), .int .i64 (-1)] 25)).drew := ⟨_, rfl⟩
        have b2 : Below W.heap.size W w2 := by rw [hw2]; exact (((Below.refl _ _).alloc (Nat.le_refl _) _).alloc (by simp) _).drew
        have l2 : w2.heap[W.heap.size + 1]? = some (.cells #[.int .i64 ((-1)), .int .i64 ((-1))] 25 (0, 0)) := by rw [hw2]; exact second_block _ _ _
        have g2 : w2.heap[W.heap.size]? = some (.cells #[.int .i64 1, .int .i64 1] 25 (0, 0)) := by rw [hw2]; exact first_block _ _ _
        rw [← hw2]
        clear hw2 hwr
        obtain ⟨c0, c1⟩ := cells_of_row l2
        obtain ⟨c2, c3⟩ := cells_of_row g2
        have c0 : w2.drew.cell? ⟨W.heap.size + 1, 0, none⟩ = some (.int .i64 ((-1))) := c0
        have c1 : w2.drew.cell? ⟨W.heap.size + 1, 1, none⟩ = some (.int .i64 ((-1))) := c1
        have c2 : w2.drew.cell? ⟨W.heap.size, 0, none⟩ = some (.int .i64 1) := c2
        have c3 : w2.drew.cell? ⟨W.heap.size, 1, none⟩ = some (.int .i64 1) := c3
        have q2 : w2.drew.cell? ⟨w.heap.size, 0, none⟩ = some (.int .i64 1) := (b2.cell (p := ⟨w.heap.size, 0, none⟩) s0).trans q0
        have hMW : M < W.heap.size := Nat.lt_trans hMs s0
        have m2 : w2.drew.cell? ⟨M, 1, none⟩ = some (.slice none 0 0) := (b2.cell (p := ⟨M, 1, none⟩) hMW).trans m0
        have mf2 : w2.drew.frozen? ⟨M, 1, none⟩ = false := (b2.frozen (p := ⟨M, 1, none⟩) hMW).trans mf
        have t2 : w2.drew.cell? ⟨T, 0, none⟩ = some (.func (.func (tellF way)) #[] #[]) := (b2.cell (p := ⟨T, 0, none⟩) (Nat.lt_of_lt_of_le hTw b0.size)).trans t0
        have bb : Below w.heap.size w w2.drew := (below_step b0 b2).drew
        have hLs : W.heap.size + 1 < w2.drew.heap.size := (Array.getElem?_eq_some_iff.1 l2).1
        have hGs : W.heap.size < w2.drew.heap.size := (Array.getElem?_eq_some_iff.1 g2).1
        have hRs : w.heap.size < w2.drew.heap.size := Nat.lt_of_lt_of_le s0 b2.size
        have hTs : T < w2.drew.heap.size := Nat.lt_of_lt_of_le hTw bb.size
        have hM2 : M < w2.drew.heap.size := Nat.lt_of_lt_of_le hMs bb.size
        have hne : M ≠ w.heap.size := Nat.ne_of_lt hMs
        have hne2 := hne.symm
        have hneL : W.heap.size + 1 ≠ M := by omega
        have hneG : W.heap.size ≠ M := by omega
        clear l2 g2 b2 m0 mf t0 q0 b0
        have HL := Lib.hid (show betw (inBall 1 way) ((-1), (-1)) (1, 1) = ballL 1 way from (ball_yes (ballOk_yes (by decide) HWAY.out)).symm)
        go_wp2_with fail
        go_region_held3 (fun w' => w'.cell? ⟨w.heap.size, 0, none⟩ = some (.int .i64 1) ∧ w'.cell? ⟨W.heap.size + 1, 0, none⟩ = some (.int .i64 ((-1))) ∧ w'.cell? ⟨W.heap.size + 1, 1, none⟩ = some (.int .i64 ((-1))) ∧ w'.cell? ⟨W.heap.size, 0, none⟩ = some (.int .i64 1) ∧ w'.cell? ⟨W.heap.size, 1, none⟩ = some (.int .i64 1)) (first | (refine ⟨?_, ?_, ?_, ?_, ?_⟩ <;> with_reducible assumption) | (refine ⟨keep1 ?_ ?_, keep1 ?_ ?_, keep1 ?_ ?_, keep1 ?_ ?_, keep1 ?_ ?_⟩ <;> with_reducible assumption))
          ((go_at_call 95; refine (betwBall_any (inBall 1 way) w.heap.size T ((-1)) ((-1)) 1 1 w2.drew (by decide) (by decide) (by decide) (by decide) (by decide) (by decide) (by decide) (by decide) (fun x y w1 hx1 hx2 hy1 hy2 hb1 => ballIn_any T w.heap.size x y 1 way w1 HWAY.out ⟨hx1, hx2, hy1, hy2⟩ (Nat.lt_of_lt_of_le hTs hb1.size) (Nat.lt_of_lt_of_le hRs hb1.size) ((hb1.cell (p := ⟨T, 0, none⟩) hTs).trans t2) ((hb1.cell (p := ⟨w.heap.size, 0, none⟩) hRs).trans q2))).mono ?_; rintro e w3 ⟨vn, rfl, o3, hb⟩; rw [HL.out] at o3; obtain ⟨A3, c3', rfl, _, _⟩ := o3.reads.slice; have bw3 := bb.trans (hb.mono bb.size); have q2 := (hb.cell (p := ⟨w.heap.size, 0, none⟩) hRs).trans q2; have c0 := (hb.cell (p := ⟨W.heap.size + 1, 0, none⟩) hLs).trans c0; have c1 := (hb.cell (p := ⟨W.heap.size + 1, 1, none⟩) hLs).trans c1; have c2 := (hb.cell (p := ⟨W.heap.size, 0, none⟩) hGs).trans c2; have c3 := (hb.cell (p := ⟨W.heap.size, 1, none⟩) hGs).trans c3; have m2 := (hb.cell (p := ⟨M, 1, none⟩) hM2).trans m2; have mf2 := (hb.frozen (p := ⟨M, 1, none⟩) hM2).trans mf2))
        have hrow3 := (bw3.block M hMs).trans HROW.out.1
        have hrow4 := heap_setCell_same _ M 1 _ _ (Value.slice A3 (ballL 1 way).length c3') hrow3
        have bt0 := setCell_but w3 M 1 (Value.slice A3 (ballL 1 way).length c3')
        have o4 := (o3.base (show M + 1 ≤ w2.drew.heap.size by omega)).setOther (a := ⟨M, 1, none⟩) (Nat.lt_succ_self _) (Value.slice A3 (ballL 1 way).length c3')
        have bt : But M w _ := (But.of bw3).trans bt0
        clear bt0 hrow3 bw3 hb q2 c0 c1 c2 c3 t2
        go_wp2
        go_ret
        exact ⟨_, rfl, o4, HM.out.set bt hrow4 (HROW.out.2.1.but bt) (.inr o4) (HROW.out.2.2.1.but bt) (HROW.out.2.2.2.but bt), bt⟩
    · obtain ⟨g, cap, rfl⟩ := kept_some HWAY.out (by decide) (by decide) ho
      have HO := Lib.hid ho
      have HROW := Lib.hid (And.intro hrow True.intro)
      clear hrow ho
      have hMs := HM.out.m
      have hTw := HM.out.t
      have hrowM := HROW.out.1
      have rowM := (cell_of_row w _ 1 _ _ _ hrowM).trans (show _ = some (Value.slice (some ⟨g, 0, none⟩) (ballL 1 way).length cap) from rfl)
      have hnil : ∀ W, (binOp .eql 23 (Value.slice (some ⟨g, 0, none⟩) (ballL 1 way).length cap) (.slice none 0 0)).run Try.prog W = .ok (.bool false) W := fun W => Lib.run_eql_slice_nil W _ _ _ _ _ 0 0 Try.underlying23
      have b0 := box_below w #[.int .i64 1] 3
      obtain ⟨W, hW⟩ : ∃ W, W = w.alloc (.cells #[.int .i64 1] 3) := ⟨_, rfl⟩
      have q0 : W.cell? ⟨w.heap.size, 0, none⟩ = some (.int .i64 1) := by rw [hW]; simp [go_sem]
      have s0 : w.heap.size < W.heap.size := by rw [hW]; simp
      rw [← hW] at b0
      have m0 := (b0.cell (p := ⟨M, 1, none⟩) hMs).trans rowM
      have mf := frozen_of_row W _ 1 _ _ ((b0.block M hMs).trans hrowM)
      have t0 := (b0.cell (p := ⟨T, 0, none⟩) hTw).trans HM.out.tell
      clear rowM hrowM
      have hwr : IntKind.i64.wrap (-1) = (-1) := by decide
      go_enter Try.func94, Try.ntmps94
      go_wp2_with (first | (rw [← hW]; clear hW) | fail)
      go_wp2
      go_ret
      exact ⟨_, rfl, HO.out.but (But.of b0), HM.out.below b0, But.of b0⟩
  · obtain ⟨v0, v1, v2, v3, hrow, k0, k1, k2, k3⟩ := hM.row
    have HM := Lib.hid hM
    have HWAY := Lib.hid hw
    clear hM hw hr
    rcases k2 with rfl | ho
    · have HROW := Lib.hid (And.intro hrow (And.intro k0 (And.intro k1 k3)))
      clear hrow
      have hMs := HM.out.m
      have hTw := HM.out.t
      have hrowM := HROW.out.1
      have rowM := (cell_of_row w _ 2 _ _ _ hrowM).trans (show _ = some (Value.slice none 0 0) from rfl)
      have hnil : ∀ W, (binOp .eql 23 (Value.slice none 0 0) (.slice none 0 0)).run Try.prog W = .ok (.bool true) W := fun W => Lib.run_eql_slice_nil W _ _ _ _ _ 0 0 Try.underlying23
      have b0 := box_below w #[.int .i64 2] 3
      obtain ⟨W, hW⟩ : ∃ W, W = w.alloc (.cells #[.int .i64 2] 3) := ⟨_, rfl⟩
      have q0 : W.cell? ⟨w.heap.size, 0, none⟩ = some (.int .i64 2) := by rw [hW]; simp [go_sem]
      have s0 : w.heap.size < W.heap.size := by rw [hW]; simp
      rw [← hW] at b0
      have m0 := (b0.cell (p := ⟨M, 2, none⟩) hMs).trans rowM
      have mf := frozen_of_row W _ 2 _ _ ((b0.block M hMs).trans hrowM)
      have t0 := (b0.cell (p := ⟨T, 0, none⟩) hTw).trans HM.out.tell
      clear rowM hrowM
      have hwr : IntKind.i64.wrap (-2) = (-2) := by decide
      go_enter Try.func94, Try.ntmps94
      go_wp2_with (first | (rw [← hW]; clear hW) | fail)
      go_wp2
      go_region_held3 (fun w' => w'.cell? ⟨w.heap.size, 0, none⟩ = some (.int .i64 2)) (go_keep) (fail)
      · obtain ⟨w2, hw2⟩ : ∃ w2, w2 = ((W.alloc (.cells #[.int .i64 (-2), .int .i64 (-2)] 25)).alloc (.cells #[.int .i64 2, .int .i64 2] 25)).drew := ⟨_, rfl⟩
        have b2 : Below W.heap.size W w2 := by rw [hw2]; exact (((Below.refl _ _).alloc (Nat.le_refl _) _).alloc (by simp) _).drew
        have l2 : w2.heap[W.heap.size]? = some (.cells #[.int .i64 ((-2)), .int .i64 ((-2))] 25 (0, 0)) := by rw [hw2]; exact first_block _ _ _
        have g2 : w2.heap[W.heap.size + 1]? = some (.cells #[.int .i64 2, .int .i64 2] 25 (0, 0)) := by rw [hw2]; exact second_block _ _ _
        rw [← hw2]
        clear hw2 hwr
        obtain ⟨c0, c1⟩ := cells_of_row l2
        obtain ⟨c2, c3⟩ := cells_of_row g2
        have c0 : w2.drew.cell? ⟨W.heap.size, 0, none⟩ = some (.int .i64 ((-2))) := c0
        have c1 : w2.drew.cell? ⟨W.heap.size, 1, none⟩ = some (.int .i64 ((-2))) := c1
        have c2 : w2.drew.cell? ⟨W.heap.size + 1, 0, none⟩ = some (.int .i64 2) := c2
        have c3 : w2.drew.cell? ⟨W.heap.size + 1, 1, none⟩ = some (.int .i64 2) := c3
        have q2 : w2.drew.cell? ⟨w.heap.size, 0, none⟩ = some (.int .i64 2) := (b2.cell (p := ⟨w.heap.size, 0, none⟩) s0).trans q0
        have hMW : M < W.heap.size := Nat.lt_trans hMs s0
        have m2 : w2.drew.cell? ⟨M, 2, none⟩ = some (.slice none 0 0) := (b2.cell (p := ⟨M, 2, none⟩) hMW).trans m0
        have mf2 : w2.drew.frozen? ⟨M, 2, none⟩ = false := (b2.frozen (p := ⟨M, 2, none⟩) hMW).trans mf
        have t2 : w2.drew.cell? ⟨T, 0, none⟩ = some (.func (.func (tellF way)) #[] #[]) := (b2.cell (p := ⟨T, 0, none⟩) (Nat.lt_of_lt_of_le hTw b0.size)).trans t0
        have bb : Below w.heap.size w w2.drew := (below_step b0 b2).drew
        have hLs : W.heap.size < w2.drew.heap.size := (Array.getElem?_eq_some_iff.1 l2).1
        have hGs : W.heap.size + 1 < w2.drew.heap.size := (Array.getElem?_eq_some_iff.1 g2).1
        have hRs : w.heap.size < w2.drew.heap.size := Nat.lt_of_lt_of_le s0 b2.size
        have hTs : T < w2.drew.heap.size := Nat.lt_of_lt_of_le hTw bb.size
        have hM2 : M < w2.drew.heap.size := Nat.lt_of_lt_of_le hMs bb.size
        have hne : M ≠ w.heap.size := Nat.ne_of_lt hMs
        have hne2 := hne.symm
        have hneL : W.heap.size ≠ M := by omega
        have hneG : W.heap.size + 1 ≠ M := by omega
        clear l2 g2 b2 m0 mf t0 q0 b0
        have HL := Lib.hid (show betw (inBall 2 way) ((-2), (-2)) (2, 2) = ballL 2 way from (ball_yes (ballOk_yes (by decide) HWAY.out)).symm)
        go_wp2_with fail
        go_region_held3 (fun w' => w'.cell? ⟨w.heap.size, 0, none⟩ = some (.int .i64 2) ∧ w'.cell? ⟨W.heap.size, 0, none⟩ = some (.int .i64 ((-2))) ∧ w'.cell? ⟨W.heap.size, 1, none⟩ = some (.int .i64 ((-2))) ∧ w'.cell? ⟨W.heap.size + 1, 0, none⟩ = some (.int .i64 2) ∧ w'.cell? ⟨W.heap.size + 1, 1, none⟩ = some (.int .i64 2)) (first | (refine ⟨?_, ?_, ?_, ?_, ?_⟩ <;> with_reducible assumption) | (refine ⟨keep1 ?_ ?_, keep1 ?_ ?_, keep1 ?_ ?_, keep1 ?_ ?_, keep1 ?_ ?_⟩ <;> with_reducible assumption))
          ((go_at_call 95; refine (betwBall_any (inBall 2 way) w.heap.size T ((-2)) ((-2)) 2 2 w2.drew (by decide) (by decide) (by decide) (by decide) (by decide) (by decide) (by decide) (by decide) (fun x y w1 hx1 hx2 hy1 hy2 hb1 => ballIn_any T w.heap.size x y 2 way w1 HWAY.out ⟨hx1, hx2, hy1, hy2⟩ (Nat.lt_of_lt_of_le hTs hb1.size) (Nat.lt_of_lt_of_le hRs hb1.size) ((hb1.cell (p := ⟨T, 0, none⟩) hTs).trans t2) ((hb1.cell (p := ⟨w.heap.size, 0, none⟩) hRs).trans q2))).mono ?_; rintro e w3 ⟨vn, rfl, o3, hb⟩; rw [HL.out] at o3; obtain ⟨A3, c3', rfl, _, _⟩ := o3.reads.slice; have bw3 := bb.trans (hb.mono bb.size); have q2 := (hb.cell (p := ⟨w.heap.size, 0, none⟩) hRs).trans q2; have c0 := (hb.cell (p := ⟨W.heap.size, 0, none⟩) hLs).trans c0; have c1 := (hb.cell (p := ⟨W.heap.size, 1, none⟩) hLs).trans c1; have c2 := (hb.cell (p := ⟨W.heap.size + 1, 0, none⟩) hGs).trans c2; have c3 := (hb.cell (p := ⟨W.heap.size + 1, 1, none⟩) hGs).trans c3; have m2 := (hb.cell (p := ⟨M, 2, none⟩) hM2).trans m2; have mf2 := (hb.frozen (p := ⟨M, 2, none⟩) hM2).trans mf2))
        have hrow3 := (bw3.block M hMs).trans HROW.out.1
        have hrow4 := heap_setCell_same _ M 2 _ _ (Value.slice A3 (ballL 2 way).length c3') hrow3
        have bt0 := setCell_but w3 M 2 (Value.slice A3 (ballL 2 way).length c3')
        have o4 := (o3.base (show M + 1 ≤ w2.drew.heap.size by omega)).setOther (a := ⟨M, 2, none⟩) (Nat.lt_succ_self _) (Value.slice A3 (ballL 2 way).length c3')
        have bt : But M w _ := (But.of bw3).trans bt0
        clear bt0 hrow3 bw3 hb q2 c0 c1 c2 c3 t2
        go_wp2
        go_ret
        exact ⟨_, rfl, o4, HM.out.set bt hrow4 (HROW.out.2.1.but bt) (HROW.out.2.2.1.but bt) (.inr o4) (HROW.out.2.2.2.but bt), bt⟩
      · obtain ⟨w2, hw2⟩ : ∃ w2, w2 = ((W.alloc (.cells #[.int .i64 2, .int .i64 2] 25)).alloc (.cells #[.int .i64 (-2), .int .i64 (-2)] 25)).drew := ⟨_, rfl⟩
        have b2 : Below W.heap.size W w2 := by rw [hw2]; exact (((Below.refl _ _).alloc (Nat.le_refl _) _).alloc (by simp) _).drew
        have l2 : w2.heap[W.heap.size + 1]? = some (.cells #[.int .i64 ((-2)), .int .i64 ((-2))] 25 (0, 0)) := by rw [hw2]; exact second_block _ _ _
        have g2 : w2.heap[W.heap.size]? = some (.cells #[.int .i64 2, .int .i64 2] 25 (0, 0)) := by rw [hw2]; exact first_block _ _ _
        rw [← hw2]
        clear hw2 hwr
        obtain ⟨c0, c1⟩ := cells_of_row l2
        obtain ⟨c2, c3⟩ := cells_of_row g2
        have c0 : w2.drew.cell? ⟨W.heap.size + 1, 0, none⟩ = some (.int .i64 ((-2))) := c0
        have c1 : w2.drew.cell? ⟨W.heap.size + 1, 1, none⟩ = some (.int .i64 ((-2))) := c1
        have c2 : w2.drew.cell? ⟨W.heap.size, 0, none⟩ = some (.int .i64 2) := c2
        have c3 : w2.drew.cell? ⟨W.heap.size, 1, none⟩ = some (.int .i64 2) := c3
        have q2 : w2.drew.cell? ⟨w.heap.size, 0, none⟩ = some (.int .i64 2) := (b2.cell (p := ⟨w.heap.size, 0, none⟩) s0).trans q0
        have hMW : M < W.heap.size := Nat.lt_trans hMs s0
        have m2 : w2.drew.cell? ⟨M, 2, none⟩ = some (.slice none 0 0) := (b2.cell (p := ⟨M, 2, none⟩) hMW).trans m0
        have mf2 : w2.drew.frozen? ⟨M, 2, none⟩ = false := (b2.frozen (p := ⟨M, 2, none⟩) hMW).trans mf
        have t2 : w2.drew.cell? ⟨T, 0, none⟩ = some (.func (.func (tellF way)) #[] #[]) := (b2.cell (p := ⟨T, 0, none⟩) (Nat.lt_of_lt_of_le hTw b0.size)).trans t0
        have bb : Below w.heap.size w w2.drew := (below_step b0 b2).drew
        have hLs : W.heap.size + 1 < w2.drew.heap.size := (Array.getElem?_eq_some_iff.1 l2).1
        have hGs : W.heap.size < w2.drew.heap.size := (Array.getElem?_eq_some_iff.1 g2).1
        have hRs : w.heap.size < w2.drew.heap.size := Nat.lt_of_lt_of_le s0 b2.size
        have hTs : T < w2.drew.heap.size := Nat.lt_of_lt_of_le hTw bb.size
        have hM2 : M < w2.drew.heap.size := Nat.lt_of_lt_of_le hMs bb.size
        have hne : M ≠ w.heap.size := Nat.ne_of_lt hMs
        have hne2 := hne.symm
        have hneL : W.heap.size + 1 ≠ M := by omega
        have hneG : W.heap.size ≠ M := by omega
        clear l2 g2 b2 m0 mf t0 q0 b0
        have HL := Lib.hid (show betw (inBall 2 way) ((-2), (-2)) (2, 2) = ballL 2 way from (ball_yes (ballOk_yes (by decide) HWAY.out)).symm)
        go_wp2_with fail
        go_region_held3 (fun w' => w'.cell? ⟨w.heap.size, 0, none⟩ = some (.int .i64 2) ∧ w'.cell? ⟨W.heap.size + 1, 0, none⟩ = some (.int .i64 ((-2))) ∧ w'.cell? ⟨W.heap.size + 1, 1, none⟩ = some (.int .i64 ((-2))) ∧ w'.cell? ⟨W.heap.size, 0, none⟩ = some (.int .i64 2) ∧ w'.cell? ⟨W.heap.size, 1, none⟩ = some (.int .i64 2)) (first | (refine ⟨?_, ?_, ?_, ?_, ?_⟩ <;> with_reducible assumption) | (refine ⟨keep1 ?_ ?_, keep1 ?_ ?_, keep1 ?_ ?_, keep1 ?_ ?_, keep1 ?_ ?_⟩ <;> with_reducible assumption))
          ((go_at_call 95; refine (betwBall_any (inBall 2 way) w.heap.size T ((-2)) ((-2)) 2 2 w2.drew (by decide) (by decide) (by decide) (by decide) (by decide) (by decide) (by decide) (by decide) (fun x y w1 hx1 hx2 hy1 hy2 hb1 => ballIn_any T w.heap.size x y 2 way w1 HWAY.out ⟨hx1, hx2, hy1, hy2⟩ (Nat.lt_of_lt_of_le hTs hb1.size) (Nat.lt_of_lt_of_le hRs hb1.size) ((hb1.cell (p := ⟨T, 0, none⟩) hTs).trans t2) ((hb1.cell (p := ⟨w.heap.size, 0, none⟩) hRs).trans q2))).mono ?_; rintro e w3 ⟨vn, rfl, o3, hb⟩; rw [HL.out] at o3; obtain ⟨A3, c3', rfl, _, _⟩ := o3.reads.slice; have bw3 := bb.trans (hb.mono bb.size); have q2 := (hb.cell (p := ⟨w.heap.size, 0, none⟩) hRs).trans q2; have c0 := (hb.cell (p := ⟨W.heap.size + 1, 0, none⟩) hLs).trans c0; have c1 := (hb.cell (p := ⟨W.heap.size + 1, 1, none⟩) hLs).trans c1; have c2 := (hb.cell (p := ⟨W.heap.size, 0, none⟩) hGs).trans c2; have c3 := (hb.cell (p := ⟨W.heap.size, 1, none⟩) hGs).trans c3; have m2 := (hb.cell (p := ⟨M, 2, none⟩) hM2).trans m2; have mf2 := (hb.frozen (p := ⟨M, 2, none⟩) hM2).trans mf2))
        have hrow3 := (bw3.block M hMs).trans HROW.out.1
        have hrow4 := heap_setCell_same _ M 2 _ _ (Value.slice A3 (ballL 2 way).length c3') hrow3
        have bt0 := setCell_but w3 M 2 (Value.slice A3 (ballL 2 way).length c3')
        have o4 := (o3.base (show M + 1 ≤ w2.drew.heap.size by omega)).setOther (a := ⟨M, 2, none⟩) (Nat.lt_succ_self _) (Value.slice A3 (ballL 2 way).length c3')
        have bt : But M w _ := (But.of bw3).trans bt0
        clear bt0 hrow3 bw3 hb q2 c0 c1 c2 c3 t2
        go_wp2
        go_ret
        exact ⟨_, rfl, o4, HM.out.set bt hrow4 (HROW.out.2.1.but bt) (HROW.out.2.2.1.but bt) (.inr o4) (HROW.out.2.2.2.but bt), bt⟩
    · obtain ⟨g, cap, rfl⟩ := kept_some HWAY.out (by decide) (by decide) ho
      have HO := Lib.hid ho
      have HROW := Lib.hid (And.intro hrow True.intro)
      clear hrow ho
      have hMs := HM.out.m
      have hTw := HM.out.t
      have hrowM := HROW.out.1
      have rowM := (cell_of_row w _ 2 _ _ _ hrowM).trans (show _ = some (Value.slice (some ⟨g, 0, none⟩) (ballL 2 way).length cap) from rfl)
      have hnil : ∀ W, (binOp .eql 23 (Value.slice (some ⟨g, 0, none⟩) (ballL 2 way).length cap) (.slice none 0 0)).run Try.prog W = .ok (.bool false) W := fun W => Lib.run_eql_slice_nil W _ _ _ _ _ 0 0 Try.underlying23
      have b0 := box_below w #[.int .i64 2] 3
      obtain ⟨W, hW⟩ : ∃ W, W = w.alloc (.cells #[.int .i64 2] 3) := ⟨_, rfl⟩
      have q0 : W.cell? ⟨w.heap.size, 0, none⟩ = some (.int .i64 2) := by rw [hW]; simp [go_sem]
      have s0 : w.heap.size < W.heap.size := by rw [hW]; simp
      rw [← hW] at b0
      have m0 := (b0.cell (p := ⟨M, 2, none⟩) hMs).trans rowM
      have mf := frozen_of_row W _ 2 _ _ ((b0.block M hMs).trans hrowM)
      have t0 := (b0.cell (p := ⟨T, 0, none⟩) hTw).trans HM.out.tell
      clear rowM hrowM
      have hwr : IntKind.i64.wrap (-2) = (-2) := by decide
      go_enter Try.func94, Try.ntmps94
      go_wp2_with (first | (rw [← hW]; clear hW) | fail)
      go_wp2
      go_ret
      exact ⟨_, rfl, HO.out.but (But.of b0), HM.out.below b0, But.of b0⟩
  · obtain ⟨v0, v1, v2, v3, hrow, k0, k1, k2, k3⟩ := hM.row
    have HM := Lib.hid hM
    have HWAY := Lib.hid hw
    clear hM hw hr
    rcases k3 with rfl | ho
    · have HROW := Lib.hid (And.intro hrow (And.intro k0 (And.intro k1 k2)))
      clear hrow
      have hMs := HM.out.m
      have hTw := HM.out.t
      have hrowM := HROW.out.1
      have rowM := (cell_of_row w _ 3 _ _ _ hrowM).trans (show _ = some (Value.slice none 0 0) from rfl)
      have hnil : ∀ W, (binOp .eql 23 (Value.slice none 0 0) (.slice none 0 0)).run Try.prog W = .ok (.bool true) W := fun W => Lib.run_eql_slice_nil W _ _ _ _ _ 0 0 Try.underlying23
      have b0 := box_below w #[.int .i64 3] 3
      obtain ⟨W, hW⟩ : ∃ W, W = w.alloc (.cells #[.int .i64 3] 3) := ⟨_, rfl⟩
      have q0 : W.cell? ⟨w.heap.size, 0, none⟩ = some (.int .i64 3) := by rw [hW]; simp [go_sem]
      have s0 : w.heap.size < W.heap.size := by rw [hW]; simp
      rw [← hW] at b0
      have m0 := (b0.cell (p := ⟨M, 3, none⟩) hMs).trans rowM
      have mf := frozen_of_row W _ 3 _ _ ((b0.block M hMs).trans hrowM)
      have t0 := (b0.cell (p := ⟨T, 0, none⟩) hTw).trans HM.out.tell
      clear rowM hrowM
      have hwr : IntKind.i64.wrap (-3) = (-3) := by decide
      go_enter Try.func94, Try.ntmps94
      go_wp2_with (first | (rw [← hW]; clear hW) | fail)
      go_wp2
      go_region_held3 (fun w' => w'.cell? ⟨w.heap.size, 0, none⟩ = some (.int .i64 3)) (go_keep) (fail)
      · obtain ⟨w2, hw2⟩ : ∃ w2, w2 = ((W.alloc (.cells #[.int .i64 (-3), .int .i64 (-3)] 25)).alloc (.cells #[.int .i64 3, .int .i64 3] 25)).drew := ⟨_, rfl⟩
        have b2 : Below W.heap.size W w2 := by rw [hw2]; exact (((Below.refl _ _).alloc (Nat.le_refl _) _).alloc (by simp) _).drew
        have l2 : w2.heap[W.heap.size]? = some (.cells #[.int .i64 ((-3)), .int .i64 ((-3))] 25 (0, 0)) := by rw [hw2]; exact first_block _ _ _
        have g2 : w2.heap[W.heap.size + 1]? = some (.cells #[.int .i64 3, .int .i64 3] 25 (0, 0)) := by rw [hw2]; exact second_block _ _ _
        rw [← hw2]
        clear hw2 hwr
        obtain ⟨c0, c1⟩ := cells_of_row l2
        obtain ⟨c2, c3⟩ := cells_of_row g2
        have c0 : w2.drew.cell? ⟨W.heap.size, 0, none⟩ = some (.int .i64 ((-3))) := c0
        have c1 : w2.drew.cell? ⟨W.heap.size, 1, none⟩ = some (.int .i64 ((-3))) := c1
        have c2 : w2.drew.cell? ⟨W.heap.size + 1, 0, none⟩ = some (.int .i64 3) := c2
        have c3 : w2.drew.cell? ⟨W.heap.size + 1, 1, none⟩ = some (.int .i64 3) := c3
        have q2 : w2.drew.cell? ⟨w.heap.size, 0, none⟩ = some (.int .i64 3) := (b2.cell (p := ⟨w.heap.size, 0, none⟩) s0).trans q0
        have hMW : M < W.heap.size := Nat.lt_trans hMs s0
        have m2 : w2.drew.cell? ⟨M, 3, none⟩ = some (.slice none 0 0) := (b2.cell (p := ⟨M, 3, none⟩) hMW).trans m0
        have mf2 : w2.drew.frozen? ⟨M, 3, none⟩ = false := (b2.frozen (p := ⟨M, 3, none⟩) hMW).trans mf
        have t2 : w2.drew.cell? ⟨T, 0, none⟩ = some (.func (.func (tellF way)) #[] #[]) := (b2.cell (p := ⟨T, 0, none⟩) (Nat.lt_of_lt_of_le hTw b0.size)).trans t0
        have bb : Below w.heap.size w w2.drew := (below_step b0 b2).drew
        have hLs : W.heap.size < w2.drew.heap.size := (Array.getElem?_eq_some_iff.1 l2).1
        have hGs : W.heap.size + 1 < w2.drew.heap.size := (Array.getElem?_eq_some_iff.1 g2).1
        have hRs : w.heap.size < w2.drew.heap.size := Nat.lt_of_lt_of_le s0 b2.size
        have hTs : T < w2.drew.heap.size := Nat.lt_of_lt_of_le hTw bb.size
        have hM2 : M < w2.drew.heap.size := Nat.lt_of_lt_of_le hMs bb.size
        have hne : M ≠ w.heap.size := Nat.ne_of_lt hMs
        have hne2 := hne.symm
        have hneL : W.heap.size ≠ M := by omega
        have hneG : W.heap.size + 1 ≠ M := by omega
        clear l2 g2 b2 m0 mf t0 q0 b0
        have HL := Lib.hid (show betw (inBall 3 way) ((-3), (-3)) (3, 3) = ballL 3 way from (ball_yes (ballOk_yes (by decide) HWAY.out)).symm)
        go_wp2_with fail
        go_region_held3 (fun w' => w'.cell? ⟨w.heap.size, 0, none⟩ = some (.int .i64 3) ∧ w'.cell? ⟨W.heap.size, 0, none⟩ = some (.int .i64 ((-3))) ∧ w'.cell? ⟨W.heap.size, 1, none⟩ = some (.int .i64 ((-3))) ∧ w'.cell? ⟨W.heap.size + 1, 0, none⟩ = some (.int .i64 3) ∧ w'.cell? ⟨W.heap.size + 1, 1, none⟩ = some (.int .i64 3)) (first | (refine ⟨?_, ?_, ?_, ?_, ?_⟩ <;> with_reducible assumption) | (refine ⟨keep1 ?_ ?_, keep1 ?_ ?_, keep1 ?_ ?_, keep1 ?_ ?_, keep1 ?_ ?_⟩ <;> with_reducible assumption))
          ((go_at_call 95; refine (betwBall_any (inBall 3 way) w.heap.size T ((-3)) ((-3)) 3 3 w2.drew (by decide) (by decide) (by decide) (by decide) (by decide) (by decide) (by decide) (by decide) (fun x y w1 hx1 hx2 hy1 hy2 hb1 => ballIn_any T w.heap.size x y 3 way w1 HWAY.out ⟨hx1, hx2, hy1, hy2⟩ (Nat.lt_of_lt_of_le hTs hb1.size) (Nat.lt_of_lt_of_le hRs hb1.size) ((hb1.cell (p := ⟨T, 0, none⟩) hTs).trans t2) ((hb1.cell (p := ⟨w.heap.size, 0, none⟩) hRs).trans q2))).mono ?_; rintro e w3 ⟨vn, rfl, o3, hb⟩; rw [HL.out] at o3; obtain ⟨A3, c3', rfl, _, _⟩ := o3.reads.slice; have bw3 := bb.trans (hb.mono bb.size); have q2 := (hb.cell (p := ⟨w.heap.size, 0, none⟩) hRs).trans q2; have c0 := (hb.cell (p := ⟨W.heap.size, 0, none⟩) hLs).trans c0; have c1 := (hb.cell (p := ⟨W.heap.size, 1, none⟩) hLs).trans c1; have c2 := (hb.cell (p := ⟨W.heap.size + 1, 0, none⟩) hGs).trans c2; have c3 := (hb.cell (p := ⟨W.heap.size + 1, 1, none⟩) hGs).trans c3; have m2 := (hb.cell (p := ⟨M, 3, none⟩) hM2).trans m2; have mf2 := (hb.frozen (p := ⟨M, 3, none⟩) hM2).trans mf2))
        have hrow3 := (bw3.block M hMs).trans HROW.out.1
        have hrow4 := heap_setCell_same _ M 3 _ _ (Value.slice A3 (ballL 3 way).length c3') hrow3
        have bt0 := setCell_but w3 M 3 (Value.slice A3 (ballL 3 way).length c3')
        have o4 := (o3.base (show M + 1 ≤ w2.drew.heap.size by omega)).setOther (a := ⟨M, 3, none⟩) (Nat.lt_succ_self _) (Value.slice A3 (ballL 3 way).length c3')
        have bt : But M w _ := (But.of bw3).trans bt0
        clear bt0 hrow3 bw3 hb q2 c0 c1 c2 c3 t2
        go_wp2
        go_ret
        exact ⟨_, rfl, o4, HM.out.set bt hrow4 (HROW.out.2.1.but bt) (HROW.out.2.2.1.but bt) (HROW.out.2.2.2.but bt) (.inr o4), bt⟩
      · obtain ⟨w2, hw2⟩ : ∃ w2, w2 = ((W.alloc (.cells #[.int .i64 3, .int .i64 3] 25)).alloc (.cells #[.int .i64 (-3), .int .i64 (-3)] 25)).drew := ⟨_, rfl⟩
        have b2 : Below W.heap.size W w2 := by rw [hw2]; exact (((Below.refl _ _).alloc (Nat.le_refl _) _).alloc (by simp) _).drew
        have l2 : w2.heap[W.heap.size + 1]? = some (.cells #[.int .i64 ((-3)), .int .i64 ((-3))] 25 (0, 0)) := by rw [hw2]; exact second_block _ _ _
        have g2 : w2.heap[W.heap.size]? = some (.cells #[.int .i64 3, .int .i64 3] 25 (0, 0)) := by rw [hw2]; exact first_block _ _ _
        rw [← hw2]
        clear hw2 hwr
        obtain ⟨c0, c1⟩ := cells_of_row l2
        obtain ⟨c2, c3⟩ := cells_of_row g2
        have c0 : w2.drew.cell? ⟨W.heap.size + 1, 0, none⟩ = some (.int .i64 ((-3))) := c0
        have c1 : w2.drew.cell? ⟨W.heap.size + 1, 1, none⟩ = some (.int .i64 ((-3))) := c1
        have c2 : w2.drew.cell? ⟨W.heap.size, 0, none⟩ = some (.int .i64 3) := c2
        have c3 : w2.drew.cell? ⟨W.heap.size, 1, none⟩ = some (.int .i64 3) := c3
        have q2 : w2.drew.cell? ⟨w.heap.size, 0, none⟩ = some (.int .i64 3) := (b2.cell (p := ⟨w.heap.size, 0, none⟩) s0).trans q0
        have hMW : M < W.heap.size := Nat.lt_trans hMs s0
        have m2 : w2.drew.cell? ⟨M, 3, none⟩ = some (.slice none 0 0) := (b2.cell (p := ⟨M, 3, none⟩) hMW).trans m0
        have mf2 : w2.drew.frozen? ⟨M, 3, none⟩ = false := (b2.frozen (p := ⟨M, 3, none⟩) hMW).trans mf
        have t2 : w2.drew.cell? ⟨T, 0, none⟩ = some (.func (.func (tellF way)) #[] #[]) := (b2.cell (p := ⟨T, 0, none⟩) (Nat.lt_of_lt_of_le hTw b0.size)).trans t0
        have bb : Below w.heap.size w w2.drew := (below_step b0 b2).drew
        have hLs : W.heap.size + 1 < w2.drew.heap.size := (Array.getElem?_eq_some_iff.1 l2).1
        have hGs : W.heap.size < w2.drew.heap.size := (Array.getElem?_eq_some_iff.1 g2).1
        have hRs : w.heap.size < w2.drew.heap.size := Nat.lt_of_lt_of_le s0 b2.size
        have hTs : T < w2.drew.heap.size := Nat.lt_of_lt_of_le hTw bb.size
        have hM2 : M < w2.drew.heap.size := Nat.lt_of_lt_of_le hMs bb.size
        have hne : M ≠ w.heap.size := Nat.ne_of_lt hMs
        have hne2 := hne.symm
        have hneL : W.heap.size + 1 ≠ M := by omega
        have hneG : W.heap.size ≠ M := by omega
        clear l2 g2 b2 m0 mf t0 q0 b0
        have HL := Lib.hid (show betw (inBall 3 way) ((-3), (-3)) (3, 3) = ballL 3 way from (ball_yes (ballOk_yes (by decide) HWAY.out)).symm)
        go_wp2_with fail
        go_region_held3 (fun w' => w'.cell? ⟨w.heap.size, 0, none⟩ = some (.int .i64 3) ∧ w'.cell? ⟨W.heap.size + 1, 0, none⟩ = some (.int .i64 ((-3))) ∧ w'.cell? ⟨W.heap.size + 1, 1, none⟩ = some (.int .i64 ((-3))) ∧ w'.cell? ⟨W.heap.size, 0, none⟩ = some (.int .i64 3) ∧ w'.cell? ⟨W.heap.size, 1, none⟩ = some (.int .i64 3)) (first | (refine ⟨?_, ?_, ?_, ?_, ?_⟩ <;> with_reducible assumption) | (refine ⟨keep1 ?_ ?_, keep1 ?_ ?_, keep1 ?_ ?_, keep1 ?_ ?_, keep1 ?_ ?_⟩ <;> with_reducible assumption))
          ((go_at_call 95; refine (betwBall_any (inBall 3 way) w.heap.size T ((-3)) ((-3)) 3 3 w2.drew (by decide) (by decide) (by decide) (by decide) (by decide) (by decide) (by decide) (by decide) (fun x y w1 hx1 hx2 hy1 hy2 hb1 => ballIn_any T w.heap.size x y 3 way w1 HWAY.out ⟨hx1, hx2, hy1, hy2⟩ (Nat.lt_of_lt_of_le hTs hb1.size) (Nat.lt_of_lt_of_le hRs hb1.size) ((hb1.cell (p := ⟨T, 0, none⟩) hTs).trans t2) ((hb1.cell (p := ⟨w.heap.size, 0, none⟩) hRs).trans q2))).mono ?_; rintro e w3 ⟨vn, rfl, o3, hb⟩; rw [HL.out] at o3; obtain ⟨A3, c3', rfl, _, _⟩ := o3.reads.slice; have bw3 := bb.trans (hb.mono bb.size); have q2 := (hb.cell (p := ⟨w.heap.size, 0, none⟩) hRs).trans q2; have c0 := (hb.cell (p := ⟨W.heap.size + 1, 0, none⟩) hLs).trans c0; have c1 := (hb.cell (p := ⟨W.heap.size + 1, 1, none⟩) hLs).trans c1; have c2 := (hb.cell (p := ⟨W.heap.size, 0, none⟩) hGs).trans c2; have c3 := (hb.cell (p := ⟨W.heap.size, 1, none⟩) hGs).trans c3; have m2 := (hb.cell (p := ⟨M, 3, none⟩) hM2).trans m2; have mf2 := (hb.frozen (p := ⟨M, 3, none⟩) hM2).trans mf2))
        have hrow3 := (bw3.block M hMs).trans HROW.out.1
        have hrow4 := heap_setCell_same _ M 3 _ _ (Value.slice A3 (ballL 3 way).length c3') hrow3
        have bt0 := setCell_but w3 M 3 (Value.slice A3 (ballL 3 way).length c3')
        have o4 := (o3.base (show M + 1 ≤ w2.drew.heap.size by omega)).setOther (a := ⟨M, 3, none⟩) (Nat.lt_succ_self _) (Value.slice A3 (ballL 3 way).length c3')
        have bt : But M w _ := (But.of bw3).trans bt0
        clear bt0 hrow3 bw3 hb q2 c0 c1 c2 c3 t2
        go_wp2
        go_ret
        exact ⟨_, rfl, o4, HM.out.set bt hrow4 (HROW.out.2.1.but bt) (HROW.out.2.2.1.but bt) (HROW.out.2.2.2.but bt) (.inr o4), bt⟩
    · obtain ⟨g, cap, rfl⟩ := kept_some HWAY.out (by decide) (by decide) ho
      have HO := Lib.hid ho
      have HROW := Lib.hid (And.intro hrow True.intro)
      clear hrow ho
      have hMs := HM.out.m
      have hTw := HM.out.t
      have hrowM := HROW.out.1
      have rowM := (cell_of_row w _ 3 _ _ _ hrowM).trans (show _ = some (Value.slice (some ⟨g, 0, none⟩) (ballL 3 way).length cap) from rfl)
      have hnil : ∀ W, (binOp .eql 23 (Value.slice (some ⟨g, 0, none⟩) (ballL 3 way).length cap) (.slice none 0 0)).run Try.prog W = .ok (.bool false) W := fun W => Lib.run_eql_slice_nil W _ _ _ _ _ 0 0 Try.underlying23
      have b0 := box_below w #[.int .i64 3] 3
      obtain ⟨W, hW⟩ : ∃ W, W = w.alloc (.cells #[.int .i64 3] 3) := ⟨_, rfl⟩
      have q0 : W.cell? ⟨w.heap.size, 0, none⟩ = some (.int .i64 3) := by rw [hW]; simp [go_sem]
      have s0 : w.heap.size < W.heap.size := by rw [hW]; simp
      rw [← hW] at b0
      have m0 := (b0.cell (p := ⟨M, 3, none⟩) hMs).trans rowM
      have mf := frozen_of_row W _ 3 _ _ ((b0.block M hMs).trans hrowM)
      have t0 := (b0.cell (p := ⟨T, 0, none⟩) hTw).trans HM.out.tell
      clear rowM hrowM
      have hwr : IntKind.i64.wrap (-3) = (-3) := by decide
      go_enter Try.func94, Try.ntmps94
      go_wp2_with (first | (rw [← hW]; clear hW) | fail)
      go_wp2
      go_ret
      exact ⟨_, rfl, HO.out.but (But.of b0), HM.out.below b0, But.of b0⟩
end
/-! ### RadI -/
section
open Go.RowKit Go.Sort

theorem way2_ok {way : Int} (h : way2 way = true) : wayOk way = true := by
  have := way2_cases h
  unfold wayOk; rw [decide_eq_true_eq]; omega
theorem summed_yes {way : Int} (w : World) (h : way2 way = true) : Calls Try.prog 41 #[.int .i64 way] w (GivesTell (tellF way) w) := by
  have hd := distanceIn_yes w (way2_ok h)
  have hlt : way < 2 := by have := way2_cases h; omega
  have HW := Lib.hid h
  clear h
  go_enter Try.func41, Try.ntmps41
  go_wp2_with fail
  refine hd.mono ?_
  rintro e w1 ⟨rfl, b1⟩
  go_wp2
  go_ret2
  exact ⟨rfl, b1⟩
theorem summed_no {way : Int} (w : World) (h : way2 way = false) : Calls Try.prog 41 #[.int .i64 way] w (GivesNone w) := by
  unfold way2 at h
  rw [decide_eq_false_iff_not] at h
  by_cases h2 : 2 ≤ way
  · clear h
    go_enter Try.func41, Try.ntmps41
    go_wp2
    go_ret2
    exact ⟨rfl, Below.refl _ _⟩
  · have hd := distanceIn_no w (show wayOk way = false by unfold wayOk; rw [decide_eq_false_iff_not]; omega)
    clear h
    go_enter Try.func41, Try.ntmps41
    go_wp2_with fail
    refine hd.mono ?_
    rintro e w1 ⟨rfl, b1⟩
    go_wp2
    go_ret2
    exact ⟨rfl, b1⟩

theorem ballNear {r way : Int} : ∀ d ∈ ballL r way, NearS d := fun d hd => by
  unfold NearS
  rcases h : ballOk r way with _ | _
  · rw [ball_no h] at hd; cases hd
  · have := far_coord ((mem_ball h).1 hd)
    unfold ballOk at h
    rw [Bool.and_eq_true, decide_eq_true_eq] at h
    omega
def RulePost (v u : Value) (w : World) (e : Ending) (w' : World) : Prop := ∃ Q P : Nat, e = .returned (.func (.func 97) #[] #[.pointer (some ⟨Q, 0, none⟩), .pointer (some ⟨P, 0, none⟩)]) ∧ P < w'.heap.size ∧ Q < w'.heap.size ∧ w'.cell? ⟨P, 0, none⟩ = some v ∧ w'.cell? ⟨Q, 0, none⟩ = some u ∧ Below w.heap.size w w'
theorem fitRule_any (A A' : Option Addr) (n c n' c' : Nat) (w : World) : Calls Try.prog 74 #[.slice A n c, .slice A' n' c'] w (RulePost (.slice A n c) (.slice A' n' c') w) := by
  have b0 := (box_below w #[.slice A n c] 23).alloc (by simp) (.cells #[.slice A' n' c'] 23)
  go_enter Try.func74, Try.ntmps74
  go_wp2
  go_ret
  exact ⟨w.heap.size + 1, w.heap.size, rfl, by simp; omega, by simp, by simp [go_sem, World.cell?_alloc_past], by simp [go_sem], b0⟩

/-- what the closures of radiusIn keep: the picture, and the maker of balls -/
structure RadBoxes (Pb Bl M T : Nat) (v : Value) (w : World) : Prop where
  p : Pb < w.heap.size
  b : Bl < w.heap.size
  pM : Pb ≠ M
  bM : Bl ≠ M
  pc : w.cell? ⟨Pb, 0, none⟩ = some v
  bc : w.cell? ⟨Bl, 0, none⟩ = some (.func (.func 94) #[] #[.pointer (some ⟨M, 0, none⟩), .pointer (some ⟨T, 0, none⟩)])
theorem RadBoxes.but {Pb Bl M T : Nat} {v : Value} {w w' : World} (h : RadBoxes Pb Bl M T v w) (k : But M w w') : RadBoxes Pb Bl M T v w' :=
  ⟨Nat.lt_of_lt_of_le h.p k.size, Nat.lt_of_lt_of_le h.b k.size, h.pM, h.bM, k.cell h.pM h.pc, k.cell h.bM h.bc⟩
def FitPost (b : Bool) (M T : Nat) (way : Int) (w : World) (e : Ending) (w' : World) : Prop := e = .returned (.bool b) ∧ Making M T way w' ∧ But M w w'
set_option maxHeartbeats 800000 in
theorem radFit_any (ps : List Sp) (v : Value) (Pb Bl Ab M T : Nat) (r way ax ay : Int) (w : World) (hw : wayOk way = true) (hr : 0 ≤ r ∧ r ≤ 3) (hM : Making M T way w) (hB : RadBoxes Pb Bl M T v w) (hv : Reads w M v ps) (hs : Sorted ps) (hl : ps.length ≤ 60) (ha : NearS (ax, ay))
    (hAM : Ab ≠ M) (a0 : w.cell? ⟨Ab, 0, none⟩ = some (.int .i64 ax)) (a1 : w.cell? ⟨Ab, 1, none⟩ = some (.int .i64 ay)) :
    Calls Try.prog 73 #[.int .i64 r, .pointer (some ⟨Pb, 0, none⟩), .pointer (some ⟨Bl, 0, none⟩), .pointer (some ⟨Ab, 0, none⟩)] w (FitPost (fitAt ps (ballL r way) (ax, ay)) M T way w) := by
  obtain ⟨A, c, rfl, hc, hm⟩ := hv.slice
  unfold maxLen at hm
  have kd : But M w w.drew := But.of (Below.refl _ _).drew
  have HW := Lib.hid hw
  have HA := Lib.hid ha
  have HR := Lib.hid hr
  have hMd : Making M T way w.drew := hM.below (Below.refl _ _).drew
  have p0 : w.drew.cell? ⟨Pb, 0, none⟩ = some (.slice A ps.length c) := hB.pc
  have b0 : w.drew.cell? ⟨Bl, 0, none⟩ = some (.func (.func 94) #[] #[.pointer (some ⟨M, 0, none⟩), .pointer (some ⟨T, 0, none⟩)]) := hB.bc
  have a0 : w.drew.cell? ⟨Ab, 0, none⟩ = some (.int .i64 ax) := a0
  have a1 : w.drew.cell? ⟨Ab, 1, none⟩ = some (.int .i64 ay) := a1
  have hpM := hB.pM
  have hbM := hB.bM
  have hp := hB.p
  have hb := hB.b
  have hMm := hM.m
  have hnear : ∀ d ∈ ballL r way, NearS d := ballNear
  have hlen := ball_len r way
  have HN := Lib.hid hnear
  clear hw ha hr hB hM hnear
  go_enter Try.func73, Try.ntmps73
  go_wp2
  go_region_held3 (fun w' => w'.cell? ⟨Pb, 0, none⟩ = some (.slice A ps.length c) ∧ w'.cell? ⟨Bl, 0, none⟩ = some (.func (.func 94) #[] #[.pointer (some ⟨M, 0, none⟩), .pointer (some ⟨T, 0, none⟩)]) ∧ w'.cell? ⟨Ab, 0, none⟩ = some (.int .i64 ax) ∧ w'.cell? ⟨Ab, 1, none⟩ = some (.int .i64 ay)) (refine ⟨?_, ?_, ?_, ?_⟩ <;> with_reducible assumption)
    (first
      | (go_at_call 94; refine (making_any M T r way _ HW.out HR.out hMd).mono ?_; rintro e w1 ⟨vq, rfl, oq, hM1, k1⟩; obtain ⟨A1, c1, rfl, _, _⟩ := oq.reads.slice; have p0 := k1.cell hpM p0; have b0 := k1.cell hbM b0; have a0 := k1.cell hAM a0; have a1 := k1.cell hAM a1)
      | (go_at_call 74; refine (fitRule_any _ _ _ _ _ _ _).mono ?_; rintro e w2 ⟨Q, P, rfl, hP, hQ, cP, cQ, b2⟩; have p0 := (But.of (M := M) b2).cell hpM p0; have b0 := (But.of (M := M) b2).cell hbM b0; have a0 := (But.of (M := M) b2).cell hAM a0; have a1 := (But.of (M := M) b2).cell hAM a1; have rq := oq.reads.kept b2; have k2 := (kd.trans k1).then b2; have hM2 := hM1.below b2; have rp := (hv.below (k2.below (Nat.le_refl M) (Nat.le_of_lt hMm))).more (show M ≤ w2.heap.size from Nat.le_trans (Nat.le_of_lt hMm) k2.size))
      | (go_at_call 97; refine (fitRule1_any ps (ballL r way) _ _ P Q ax ay _ rp rq hs hl (by omega) HA.out HN.out hP hQ cP cQ).mono ?_; rintro e w3 ⟨rfl, b3⟩; have p0 := (But.of (M := M) b3).cell hpM p0; have b0 := (But.of (M := M) b3).cell hbM b0; have a0 := (But.of (M := M) b3).cell hAM a0; have a1 := (But.of (M := M) b3).cell hAM a1))
  all_goals
    go_wp2
    go_ret
    exact ⟨rfl, hM2.below b3, k2.then b3⟩
theorem ballIn_fit (p : List Sp) (a : Sp) (r way : Int) : ballIn p a r way = fitAt p (ballL r way) a := rfl
theorem rad_stop {p : List Sp} {a : Sp} {way k : Int} (h : way2 way = true) (h0 : 0 ≤ k) (h3 : k ≤ 3) (hin : k = 0 ∨ ballIn p a k way = true) (hout : k = 3 ∨ ballIn p a (k + 1) way = false) : radN p a way = k := by
  have i32 : ballIn p a 3 way = true → ballIn p a 2 way = true := ballIn_less h (by omega) (by omega) (by omega)
  have i21 : ballIn p a 2 way = true → ballIn p a 1 way = true := ballIn_less h (by omega) (by omega) (by omega)
  unfold radN
  obtain rfl | rfl | rfl | rfl : k = 0 ∨ k = 1 ∨ k = 2 ∨ k = 3 := by omega
  all_goals
    cases b3 : ballIn p a 3 way <;> cases b2 : ballIn p a 2 way <;> cases b1 : ballIn p a 1 way <;> simp_all
def NumPost (n : Int) (M T : Nat) (way : Int) (w : World) (e : Ending) (w' : World) : Prop := e = .returned (.int .i64 n) ∧ Making M T way w' ∧ But M w w'
set_option maxHeartbeats 800000 in
theorem greatestRadius_any (ps : List Sp) (v : Value) (Pb Bl Ab M T : Nat) (way ax ay : Int) (w : World) (h2 : way2 way = true) (hM : Making M T way w) (hB : RadBoxes Pb Bl M T v w) (hv : Reads w M v ps) (hs : Sorted ps) (hl : ps.length ≤ 60) (ha : NearS (ax, ay))
    (hAM : Ab ≠ M) (a0 : w.cell? ⟨Ab, 0, none⟩ = some (.int .i64 ax)) (a1 : w.cell? ⟨Ab, 1, none⟩ = some (.int .i64 ay)) :
    Calls Try.prog 72 #[.func (.func 73) #[] #[.pointer (some ⟨Pb, 0, none⟩), .pointer (some ⟨Bl, 0, none⟩), .pointer (some ⟨Ab, 0, none⟩)]] w (NumPost (radN ps (ax, ay) way) M T way w) := by
  have H2 := Lib.hid h2
  have HA := Lib.hid ha
  have hMm := hM.m
  clear h2 ha
  go_enter Try.func72, Try.ntmps72
  go_wp2
  go_loopw [3] (fun i wr => ∃ k : Nat, k ≤ 3 ∧ i = .int .i64 k ∧ ((k : Int) = 0 ∨ ballIn ps (ax, ay) k way = true) ∧ Making M T way wr ∧ But M w wr) (fun i _ => 3 - (intOf i).toNat)
  case atStart => exact ⟨0, by omega, rfl, Or.inl rfl, hM, But.refl _ _⟩
  case round =>
    clear hM
    obtain ⟨k, hk, rfl, hin, hM, kb⟩ := hrel
    have HIN := Lib.hid hin
    clear hin
    by_cases hlt : k < 3
    · have hltI : (k : Int) < 3 := by omega
      have hltD : decide ((k : Int) < 3) = true := decide_eq_true hltI
      have hc := radFit_any ps v Pb Bl Ab M T ((k : Int) + 1) way ax ay wr (way2_ok H2.out) (by omega) hM (hB.but kb) (hv.below (kb.below (Nat.le_refl M) (Nat.le_of_lt hMm))) hs hl HA.out hAM (kb.cell hAM a0) (kb.cell hAM a1)
      rw [← ballIn_fit] at hc
      rcases hb : ballIn ps (ax, ay) ((k : Int) + 1) way with _ | _
      · have HN := Lib.hid (rad_stop H2.out (by omega) (by omega) HIN.out (Or.inr hb))
        rw [hb] at hc
        clear hb a0 a1
        go_wp2_with fail
        refine hc.mono ?_
        rintro e w1 ⟨rfl, hM1, k1⟩
        go_wp2
        go_ret
        exact ⟨ret_int HN.out.symm, hM1, kb.trans k1⟩
      · have HN := Lib.hid hb
        rw [hb] at hc
        clear hb a0 a1
        go_wp2_with fail
        refine hc.mono ?_
        rintro e w1 ⟨rfl, hM1, k1⟩
        go_wp2
        go_roundw
        case rel => exact ⟨k + 1, by omega, by go_num, Or.inr (by rw [Int.natCast_add]; exact HN.out), hM1, kb.trans k1⟩
        case measure => simp [intOf]; omega
    · obtain rfl : k = 3 := by omega
      have HN := Lib.hid (rad_stop H2.out (by omega) (by omega) HIN.out (Or.inl rfl))
      go_wp2
      go_ret
      exact ⟨ret_int HN.out.symm, hM, kb⟩
theorem radAt_any (ps : List Sp) (v : Value) (Pb Bl M T : Nat) (way ax ay : Int) (w : World) (h2 : way2 way = true) (hM : Making M T way w) (hB : RadBoxes Pb Bl M T v w) (hv : Reads w M v ps) (hs : Sorted ps) (hl : ps.length ≤ 60) (ha : NearS (ax, ay)) :
    Calls Try.prog 71 #[.agg #[.int .i64 ax, .int .i64 ay], .pointer (some ⟨Pb, 0, none⟩), .pointer (some ⟨Bl, 0, none⟩)] w (NumPost (radN ps (ax, ay) way) M T way w) := by
  have b0 := box_below w #[.int .i64 ax, .int .i64 ay] 25
  obtain ⟨W, hW⟩ : ∃ W, W = w.alloc (.cells #[.int .i64 ax, .int .i64 ay] 25) := ⟨_, rfl⟩
  have g0 : W.cell? ⟨w.heap.size, 0, none⟩ = some (.int .i64 ax) := by rw [hW]; simp [go_sem]
  have g1 : W.cell? ⟨w.heap.size, 1, none⟩ = some (.int .i64 ay) := by rw [hW]; simp [go_sem]
  rw [← hW] at b0
  have kb : But M w W := But.of b0
  have hMm := hM.m
  have hc := greatestRadius_any ps v Pb Bl w.heap.size M T way ax ay W h2 (hM.below b0) (hB.but kb) (hv.below (kb.below (Nat.le_refl M) (Nat.le_of_lt hMm))) hs hl ha (by omega) g0 g1
  clear g0 g1
  go_enter Try.func71, Try.ntmps71
  go_wp2_with (first | (rw [← hW]; clear hW) | fail)
  refine hc.mono ?_
  rintro e w1 ⟨rfl, hM1, k1⟩
  go_wp2
  go_ret
  exact ⟨rfl, hM1, kb.trans k1⟩
def RadPost (v : Value) (way : Int) (w : World) (e : Ending) (w' : World) : Prop := ∃ Pb Bl M T : Nat, e = .returned (.func (.func 71) #[] #[.pointer (some ⟨Pb, 0, none⟩), .pointer (some ⟨Bl, 0, none⟩)]) ∧ w.heap.size ≤ M ∧ Making M T way w' ∧ RadBoxes Pb Bl M T v w' ∧ Below w.heap.size w w'
theorem radiusIn_any (A : Option Addr) (n c : Nat) (way : Int) (w : World) : Calls Try.prog 42 #[.slice A n c, .func (.func (tellF way)) #[] #[]] w (RadPost (.slice A n c) way w) := by
  have b0 := box_below w #[.slice A n c] 23
  obtain ⟨W, hW⟩ : ∃ W, W = w.alloc (.cells #[.slice A n c] 23) := ⟨_, rfl⟩
  have p0 : W.cell? ⟨w.heap.size, 0, none⟩ = some (.slice A n c) := by rw [hW]; simp [go_sem]
  have s0 : w.heap.size < W.heap.size := by rw [hW]; simp
  rw [← hW] at b0
  go_enter Try.func42, Try.ntmps42
  go_wp2_with (first | (rw [← hW]; clear hW) | fail)
  refine (ballsBy_any way W).mono ?_
  rintro e w1 ⟨M, T, rfl, hMW, hM, b1⟩
  have p1 := (b1.cell (p := ⟨w.heap.size, 0, none⟩) s0).trans p0
  have hMs := hM.m
  have b2 := box_below w1 #[.func (.func 94) #[] #[.pointer (some ⟨M, 0, none⟩), .pointer (some ⟨T, 0, none⟩)]] 90
  go_wp2
  go_ret
  exact ⟨w.heap.size, w1.heap.size, M, T, rfl, by omega, hM.making.below b2, ⟨by simp; omega, by simp, by omega, by omega, (b2.cell (p := ⟨w.heap.size, 0, none⟩) (by simp only []; omega)).trans p1, by simp [go_sem]⟩, below_step (below_step b0 b1) b2⟩
end
/-! ### RadJ -/
section
open Go.RowKit Go.Sort

theorem implHas_lit {b : Bool} {ps : List Sp} {v : Value} {ax ay : Int} {w : World} (hk : hasB ps (ax, ay) = b) (h : Reads w w.heap.size v ps) : Calls Try.prog 14 #[v, .agg #[.int .i64 ax, .int .i64 ay]] w (Gives (.bool b) w) := by
  subst hk; exact implHas_any ps v ax ay w h
theorem nearS_of {a : Sp} (h : InR a) : NearS a := by unfold InR at h; unfold NearS; omega
set_option maxHeartbeats 800000 in
theorem implRadius_any (ps : List Sp) (v : Value) (ax ay way : Int) (w : World) (h : Reads w w.heap.size v ps) :
    Calls Try.prog 11 #[v, .agg #[.int .i64 ax, .int .i64 ay], .int .i64 way] w (Gives (.int .i64 (radI ps (ax, ay) way)) w) := by
  obtain ⟨A, c, rfl, hc, hm⟩ := h.slice
  unfold maxLen at hm
  rcases h2 : way2 way with _ | _
  · rw [rad_no (show radOk ps (ax, ay) way = false by unfold radOk; rw [h2, Bool.and_false])]
    have b0 := box_below w #[.int .i64 ax, .int .i64 ay] 25
    obtain ⟨W, hW⟩ : ∃ W, W = w.alloc (.cells #[.int .i64 ax, .int .i64 ay] 25) := ⟨_, rfl⟩
    have q0 : W.cell? ⟨w.heap.size, 0, none⟩ = some (.int .i64 ax) := by rw [hW]; simp [go_sem]
    have q1 : W.cell? ⟨w.heap.size, 1, none⟩ = some (.int .i64 ay) := by rw [hW]; simp [go_sem]
    have s0 : w.heap.size < W.heap.size := by rw [hW]; simp
    rw [← hW] at b0
    have hr := h.kept b0
    go_enter Try.func11, Try.ntmps11
    go_wp2_with (first | (rw [← hW]; clear hW) | fail)
    refine (summed_no _ h2).mono ?_
    rintro e w1 ⟨rfl, bn⟩
    go_wp2
    go_ret
    exact ⟨rfl, below_step b0 bn⟩
  rcases h1 : hasB ps (ax, ay) with _ | _
  · rw [rad_no (show radOk ps (ax, ay) way = false by unfold radOk; rw [h1]; rfl)]
    have H1 := Lib.hid h1
    clear h1
    have b0 := box_below w #[.int .i64 ax, .int .i64 ay] 25
    obtain ⟨W, hW⟩ : ∃ W, W = w.alloc (.cells #[.int .i64 ax, .int .i64 ay] 25) := ⟨_, rfl⟩
    have q0 : W.cell? ⟨w.heap.size, 0, none⟩ = some (.int .i64 ax) := by rw [hW]; simp [go_sem]
    have q1 : W.cell? ⟨w.heap.size, 1, none⟩ = some (.int .i64 ay) := by rw [hW]; simp [go_sem]
    have s0 : w.heap.size < W.heap.size := by rw [hW]; simp
    rw [← hW] at b0
    have hr := h.kept b0
    go_enter Try.func11, Try.ntmps11
    go_wp2_with (first | (rw [← hW]; clear hW) | fail)
    refine (summed_yes _ h2).mono ?_
    rintro e w1 ⟨rfl, bn⟩
    have q0 := (bn.cell (p := ⟨w.heap.size, 0, none⟩) s0).trans q0
    have q1 := (bn.cell (p := ⟨w.heap.size, 1, none⟩) s0).trans q1
    have s0 := Nat.lt_of_lt_of_le s0 bn.size
    have b0 := below_step b0 bn
    have hr := hr.kept bn
    clear bn
    clear h2
    go_wp2_with fail
    refine (implHas_lit H1.out hr).mono ?_
    rintro e w2 ⟨rfl, bn⟩
    go_wp2
    go_ret
    exact ⟨rfl, below_step b0 bn⟩
  · have hk : radOk ps (ax, ay) way = true := by unfold radOk; rw [h1, h2]; rfl
    have k := radOk_iff.1 hk
    have HE := Lib.hid (rad_yes hk)
    have hpic := picB_pic k.pp
    have hn := nearS_of (hpic.2.1 _ k.pa)
    have hs := hpic.2.2
    have hl := hpic.1
    have H1 := Lib.hid h1
    have H2 := Lib.hid h2
    have HNN := Lib.hid hn
    clear h1 hk k hpic hn
    have b0 := box_below w #[.int .i64 ax, .int .i64 ay] 25
    obtain ⟨W, hW⟩ : ∃ W, W = w.alloc (.cells #[.int .i64 ax, .int .i64 ay] 25) := ⟨_, rfl⟩
    have q0 : W.cell? ⟨w.heap.size, 0, none⟩ = some (.int .i64 ax) := by rw [hW]; simp [go_sem]
    have q1 : W.cell? ⟨w.heap.size, 1, none⟩ = some (.int .i64 ay) := by rw [hW]; simp [go_sem]
    have s0 : w.heap.size < W.heap.size := by rw [hW]; simp
    rw [← hW] at b0
    have hr := h.kept b0
    go_enter Try.func11, Try.ntmps11
    go_wp2_with (first | (rw [← hW]; clear hW) | fail)
    refine (summed_yes _ h2).mono ?_
    rintro e w1 ⟨rfl, bn⟩
    have q0 := (bn.cell (p := ⟨w.heap.size, 0, none⟩) s0).trans q0
    have q1 := (bn.cell (p := ⟨w.heap.size, 1, none⟩) s0).trans q1
    have s0 := Nat.lt_of_lt_of_le s0 bn.size
    have b0 := below_step b0 bn
    have hr := hr.kept bn
    clear bn
    clear h2
    go_wp2_with fail
    refine (implHas_lit H1.out hr).mono ?_
    rintro e w2 ⟨rfl, bn⟩
    have q0 := (bn.cell (p := ⟨w.heap.size, 0, none⟩) s0).trans q0
    have q1 := (bn.cell (p := ⟨w.heap.size, 1, none⟩) s0).trans q1
    have s0 := Nat.lt_of_lt_of_le s0 bn.size
    have b0 := below_step b0 bn
    have hr := hr.kept bn
    clear bn
    have b0 := b0.drew
    have q0 : w2.drew.cell? ⟨w.heap.size, 0, none⟩ = some (.int .i64 ax) := q0
    have q1 : w2.drew.cell? ⟨w.heap.size, 1, none⟩ = some (.int .i64 ay) := q1
    have s0 : w.heap.size < w2.drew.heap.size := s0
    go_wp2
    go_region_held3 (fun w' => w'.cell? ⟨w.heap.size, 0, none⟩ = some (.int .i64 ax) ∧ w'.cell? ⟨w.heap.size, 1, none⟩ = some (.int .i64 ay)) (refine ⟨?_, ?_⟩ <;> with_reducible assumption)
      (first
        | (go_at_call 42; refine (radiusIn_any _ _ _ way _).mono ?_; rintro e w3 ⟨Pb, Bl, M, T, rfl, hMw, hM, hB, b3⟩; have q0 := (b3.cell (p := ⟨w.heap.size, 0, none⟩) s0).trans q0; have q1 := (b3.cell (p := ⟨w.heap.size, 1, none⟩) s0).trans q1; have bb := below_step b0 b3; have hwM : w.heap.size < M := Nat.lt_of_lt_of_le s0 hMw; have rp := (h.below bb).more (Nat.le_of_lt hwM))
        | (go_at_call 71; refine (radAt_any ps _ Pb Bl M T way ax ay _ H2.out hM hB rp hs hl HNN.out).mono ?_; rintro e w4 ⟨rfl, hM4, k4⟩; have q0 := k4.cell (Nat.ne_of_lt hwM) q0; have q1 := k4.cell (Nat.ne_of_lt hwM) q1))
    all_goals
      go_wp2
      go_ret
      exact ⟨ret_int HE.out.symm, bb.trans (k4.below (Nat.le_of_lt hwM) bb.size)⟩

/-! ### the centres of a picture -/
theorem keep3 {w : World} {g a b c k o : Nat} {x y z v : Value} (h : k ≠ g) (hc : w.cell? ⟨k, o, none⟩ = some v) : (((w.setCell ⟨g, a, none⟩ x).setCell ⟨g, b, none⟩ y).setCell ⟨g, c, none⟩ z).cell? ⟨k, o, none⟩ = some v :=
  keep1 h (keep1 h (keep1 h hc))
theorem Kept.apart {way : Int} {M g : Nat} {w w' : World} {r : Int} {v : Value} {cs : Array Value} {m : Nat × Nat} (h : Kept way M w r v) (hg : w.heap[g]? = some (.cells cs 45 m)) (k : w.grownBy w' (some g)) : Kept way M w' r v := h.imp id fun h =>
  h.grown k (by
    rcases h.2 with ⟨rfl, _⟩ | ⟨g', cap, cur, rfl, _, hg', _⟩
    · exact .inl rfl
    · refine .inr fun e => ?_
      have e : some g' = some g := e
      injection e with e
      subst e
      rw [hg] at hg'
      injection hg' with hg'
      injection hg' with _ ht
      exact absurd ht (by decide))
/-- a centre is stored into a slice of the call's own: the maker of balls is as it was -/
theorem Making.apart {M T g : Nat} {way : Int} {w w' : World} {cs : Array Value} {m : Nat × Nat} (h : Making M T way w) (hg : w.heap[g]? = some (.cells cs 45 m)) (k : w.grownBy w' (some g)) (hM : M ≠ g) (hT : T ≠ g) : Making M T way w' := by
  obtain ⟨v0, v1, v2, v3, hr, h0, h1, h2, h3⟩ := h.row
  exact ⟨Nat.lt_of_lt_of_le h.m k.size, Nat.lt_of_lt_of_le h.t k.size, h.ne, ⟨v0, v1, v2, v3, (k.block M h.m fun e => hM (Option.some.inj e)).trans hr, h0.apart hg k, h1.apart hg k, h2.apart hg k, h3.apart hg k⟩, But.cell (M := g) k hT h.tell⟩
theorem RadBoxes.apart {Pb Bl M T g : Nat} {v : Value} {w w' : World} (h : RadBoxes Pb Bl M T v w) (k : But g w w') (hg : Pb ≠ g ∧ Bl ≠ g) : RadBoxes Pb Bl M T v w' :=
  ⟨Nat.lt_of_lt_of_le h.p k.size, Nat.lt_of_lt_of_le h.b k.size, h.pM, h.bM, k.cell hg.1 h.pc, k.cell hg.2 h.bc⟩
theorem COwns.row {w : World} {base g n cap : Nat} {l : List Cn} (h : COwns w base (.slice (some ⟨g, 0, none⟩) n cap) l) : ∃ cs, w.heap[g]? = some (.cells cs 45 (0, 0)) := by
  rcases h.2 with ⟨e, _⟩ | ⟨g', cap', cur, e, _, hg, _⟩
  · cases e
  · cases e; exact ⟨_, hg⟩
theorem set3_but (w : World) (g i j l : Nat) (x y z : Value) : But g w (((w.setCell ⟨g, i, none⟩ x).setCell ⟨g, j, none⟩ y).setCell ⟨g, l, none⟩ z) :=
  ((setCell_but _ _ _ _).trans (setCell_but _ _ _ _)).trans (setCell_but _ _ _ _)
set_option maxRecDepth 100000 in
set_option maxHeartbeats 1600000 in
theorem implCentres_any (ps : List Sp) (v : Value) (way : Int) (w : World) (h : Reads w w.heap.size v ps) :
    Calls Try.prog 20 #[v, .int .i64 way] w (GivesC (centresL ps way) w) := by
  obtain ⟨A, c, rfl, hc, hm, hA, hr⟩ := h.is
  unfold maxLen at hm
  rcases h2 : way2 way with _ | _
  · rw [centres_no (by rw [h2, Bool.and_false])]
    go_enter Try.func20, Try.ntmps20
    go_wp2_with fail
    refine (summed_no _ h2).mono ?_
    rintro e w1 ⟨rfl, b1⟩
    go_wp2
    go_ret
    exact ⟨_, rfl, COwns.nil _ _, b1⟩
  rcases hp : picB ps with _ | _
  · rw [centres_no (by rw [hp]; rfl)]
    have HP := Lib.hid hp
    clear hp
    go_enter Try.func20, Try.ntmps20
    go_wp2_with fail
    refine (summed_yes _ h2).mono ?_
    rintro e w1 ⟨rfl, b1⟩
    clear h2
    go_wp2_with fail
    refine (gives_is HP.out (implPicture_any ps _ _ (h.kept b1))).mono ?_
    rintro e w2 ⟨rfl, b2⟩
    go_wp2
    go_ret
    exact ⟨_, rfl, COwns.nil _ _, below_step b1 b2⟩
  · rw [centres_yes hp h2]
    obtain ⟨L, hL⟩ : ∃ L, L = ps.map fun a => (a, radN ps a way) := ⟨_, rfl⟩
    have hLl : L.length = ps.length := by rw [hL, List.length_map]
    have HLA := Lib.hid (show ∀ (k : Nat) (a : Sp), ps[k]? = some a → L[k]? = some (a, radN ps a way) from fun k a e => by rw [hL, List.getElem?_map, e]; rfl)
    rw [← hL]
    have hpic := picB_pic hp
    have hs := hpic.2.2
    have hl := hpic.1
    have HIN := Lib.hid hpic.2.1
    have HP := Lib.hid hp
    have H2 := Lib.hid h2
    have HLL := Lib.hid hLl
    clear hp hL hLl hpic
    go_enter Try.func20, Try.ntmps20
    go_wp2_with fail
    refine (summed_yes _ h2).mono ?_
    rintro e w1 ⟨rfl, b1⟩
    clear h2
    go_wp2_with fail
    refine (gives_is HP.out (implPicture_any ps _ _ (h.kept b1))).mono ?_
    rintro e w2 ⟨rfl, b2⟩
    go_wp2_with fail
    refine (radiusIn_any _ _ _ way _).mono ?_
    rintro e w3 ⟨Pb, Bl, M, T, rfl, hMw, hM, hB, b3⟩
    have b12 := below_step b1 b2
    have bb := below_step b12 b3
    have hMs := hM.m
    have hTs := hM.t
    have hPs := hB.p
    have hBs := hB.b
    have hwM : w.heap.size ≤ M := Nat.le_trans b12.size hMw
    have rp := (h.below bb).more hwM
    clear b1 b2 b12 b3
    go_wp2_with (at_make; refine wpList_make_cents ps.length (by omega) rfl _ _ rfl _ _ rfl rfl rfl rfl ?_)
    intro w4 ho hg
    have b4 : Below w3.heap.size w3 w4 := (Below.refl _ _).grown hg (Nat.le_refl _) (by simp)
    have hM4 := hM.below b4
    have hB4 := hB.but (But.of b4)
    have rp4 := rp.below (b4.mono (Nat.le_of_lt hMs))
    have bb4 := below_step bb b4
    have s34 : w3.heap.size ≤ w4.heap.size := b4.size
    have HO := Lib.hid ho
    clear ho hg hM hB rp b4
    by_cases h0 : ps.length = 0
    · obtain rfl := List.eq_nil_of_length_eq_zero h0
      have hL0 : L = [] := List.eq_nil_of_length_eq_zero HLL.out
      subst hL0
      have hO := HO.out.base bb.size
      go_wp2
      refine wp_loop_rounds 1 ?_
      rw [rounds_succ]
      go_wp2
      go_ret
      exact ⟨_, rfl, hO, bb4⟩
    · obtain ⟨b, off, rfl, hb, hcell⟩ := hr (by omega)
      go_wp2
      go_loopw [31] (fun i wr => ∃ (k : Nat) (cur : List Cn), k ≤ ps.length ∧ i = .int .i64 k ∧ cur.length = ps.length ∧ AgreeC cur L k ∧ COwns wr w3.heap.size (.slice (some ⟨w3.heap.size, 0, none⟩) ps.length ps.length) cur ∧ Making M T way wr ∧ RadBoxes Pb Bl M T (.slice (some ⟨b, off, none⟩) ps.length c) wr ∧ Below M w4 wr) (fun i _ => ps.length - (intOf i).toNat)
      case atStart => exact ⟨0, _, Nat.zero_le _, rfl, List.length_replicate, fun j hj => by omega, HO.out, hM4, hB4, Below.refl _ _⟩
      case round =>
        clear hM4 hB4
        obtain ⟨k, cur, hk, rfl, hcl, hag, hown, hM, hB, hbw⟩ := hrel
        have hcl1 : cur.length ≤ ps.length := by omega
        have hcl2 : ps.length ≤ cur.length := by omega
        have hCL := Lib.hid hcl
        clear hcl
        by_cases hlt : k < ps.length
        · obtain ⟨⟨x, y⟩, hxy⟩ : ∃ a, ps[k]? = some a := ⟨_, List.getElem?_eq_getElem hlt⟩
          obtain ⟨c0, c1⟩ := hcell k x y hxy
          have HN := Lib.hid (nearS_of (HIN.out _ (List.mem_of_getElem? hxy)))
          have hH := Lib.hid (HLA.out k _ hxy)
          have bbr := bb4.trans (hbw.mono hwM)
          have d0 := (bbr.cell (p := ⟨b, off + k * 2, none⟩) hb).trans c0
          have d1 := (bbr.cell (p := ⟨b, off + k * 2 + 1, none⟩) hb).trans c1
          have hwr : w3.heap.size < wr.heap.size := (hown.lt _ rfl).2
          obtain ⟨wb, hwb⟩ : ∃ wb, wb = wr.alloc (.cells #[.int .i64 x, .int .i64 y] 25) := ⟨_, rfl⟩
          have bal : Below wr.heap.size wr wb := by rw [hwb]; exact box_below _ _ _
          have g0 : wb.drew.cell? ⟨wr.heap.size, 0, none⟩ = some (.int .i64 x) := by rw [hwb]; simp [go_sem]
          have g1 : wb.drew.cell? ⟨wr.heap.size, 1, none⟩ = some (.int .i64 y) := by rw [hwb]; simp [go_sem]
          have bd : Below wr.heap.size wr wb.drew := bal.drew
          have hMwr := hM.m
          have oT := hown.below bd
          have hMd := hM.below bd
          have hBd := hB.but (But.of bd)
          have bM := hbw.trans (bd.mono (Nat.le_of_lt hMwr))
          have rpd := rp4.below bM
          obtain ⟨G, hG⟩ : ∃ G, G = wr.heap.size := ⟨_, rfl⟩
          have nG : G ≠ w3.heap.size := by omega
          have nM : G ≠ M := by omega
          have nL : w3.heap.size ≠ M := by omega
          have m3 : (0 : Int) ≤ (k : Int) := Int.natCast_nonneg _
          have m4 : (k : Int) < (ps.length : Int) := by omega
          have fz := oT.free
          obtain ⟨px, py, pr, _, t0, t1, t2⟩ := oT.there (k := k) (by omega)
          clear c0 c1 hxy
          go_wp2_with fail
          rw [← hwb]
          rw [← hG] at g0 g1 ⊢
          clear hwb hG bal hown hM hB bbr d0 d1 hbw
          go_region_held3 (fun w' => w'.cell? ⟨G, 0, none⟩ = some (.int .i64 x) ∧ w'.cell? ⟨G, 1, none⟩ = some (.int .i64 y)) (first | (refine ⟨?_, ?_⟩ <;> with_reducible assumption) | (refine ⟨keep3 ?_ ?_, keep3 ?_ ?_⟩ <;> with_reducible assumption))
            ((go_at_call 71; refine (radAt_any ps _ Pb Bl M T way x y _ H2.out hMd hBd rpd hs hl HN.out).mono ?_; rintro e w5 ⟨rfl, hM5, k5⟩; have g0 := k5.cell nM g0; have g1 := k5.cell nM g1; have oT := oT.grown k5 (.inr fun e => nL (Option.some.inj e)); have fz := oT.free; obtain ⟨px, py, pr, _, t0, t1, t2⟩ := oT.there (k := k) (by omega); have bM := bM.trans (k5.below (Nat.le_refl M) (Nat.le_of_lt hMd.m)); have hBd := hBd.but k5))
          all_goals
            obtain ⟨cs, hrow⟩ := oT.row
            have bt := set3_but w5 w3.heap.size (k * 3) (k * 3 + 1) (k * 3 + 2) (.int .i64 x) (.int .i64 y) (.int .i64 (radN ps (x, y) way))
            have hM5s := hM5.m
            have hM6 := hM5.apart hrow bt nL.symm (by omega)
            go_wp2
            go_roundw
            case rel => exact ⟨k + 1, cur.set k ((x, y), radN ps (x, y) way), by omega, by go_num, by rw [List.length_set]; exact hCL.out, agreeC_set hag (by omega) hH.out, oT.set k x y _ (by omega), hM6, hBd.apart bt (And.intro (by omega) (by omega)), bM.trans (But.below bt (by omega) (Nat.le_of_lt hM5s))⟩
            case measure => simp [intOf]; omega
        · have hE := Lib.hid (agreeC_all (hCL.out.trans HLL.out.symm) (fun j hj => hag j (by omega)))
          have e := hE.out
          rw [e] at hown
          clear e
          have bbr := bb4.trans (hbw.mono hwM)
          have hO := hown.base bb.size
          go_wp2
          go_ret
          exact ⟨_, rfl, hO, bbr⟩
end
end Go.Proofs.Ytfofmfkdkihhbad
