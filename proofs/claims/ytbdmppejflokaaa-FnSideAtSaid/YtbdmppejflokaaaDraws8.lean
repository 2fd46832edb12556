/- What the draws of chapter 8 hand back. No conditions but those typed. -/
import Derived.Test.YtbdmppejflokaaaBlocks
import Derived.Test.YtbdmppejflokaaaDraws1
import Derived.Test.YtbdmppejflokaaaTwo
import Derived.Deep.RegionWith
namespace Go.Proofs.Ytbdmppejflokaaa
open Go.RowKit Go.Sort

set_option maxRecDepth 100000 in
theorem drawSquareOf_any (A : Option Addr) (n c : Nat) (w : World) (hb : Bytes w w.heap.size A n) (hn : n ≤ c) (hc : c ≤ 9223372036854775807) :
    Calls Try.prog 13 #[.slice A n c] w fun e w' => ∃ s : Int, e = .returned (.int .i64 s) ∧ (-1 ≤ s ∧ s ≤ 6) ∧ Below w.heap.size w w' := by
  go_enter Try.func13, Try.ntmps13
  go_wp2_with fail
  refine (open_any A n c _ hb hn hc).mono ?_
  rintro e w1 ⟨n', rfl, r1, b1⟩
  go_wp2_with fail
  refine (pick_any _ n' c 0 A 8 _ r1 (by omega) (by omega) (by omega)).mono ?_
  rintro e w2 ⟨z, rfl, za, zb, r2, g2⟩
  go_wp2
  go_ret
  exact ⟨_, rfl, ⟨by omega, by omega⟩, Below.of_grown b1 g2 (Nat.le_refl _)⟩
set_option maxRecDepth 100000 in
theorem drawSizesOf_any (A : Option Addr) (n c : Nat) (w : World) (hb : Bytes w w.heap.size A n) (hn : n ≤ c) (hc : c ≤ 9223372036854775807) :
    Calls Try.prog 23 #[.slice A n c] w fun e w' => ∃ v ps, e = .returned v ∧ Owns w' w.heap.size v ps ∧ ps.length ≤ 60 ∧ Below w.heap.size w w' := by
  go_enter Try.func23, Try.ntmps23
  go_wp2_with fail
  refine (open_any A n c _ hb hn hc).mono ?_
  rintro e w1 ⟨n', rfl, r1, b1⟩
  go_wp2_with fail
  refine (blocks_any _ n' c 0 A 6 _ r1 (by omega) (by omega) (by omega)).mono ?_
  rintro e w2 ⟨v, ps, q, rfl, I, hl, _⟩
  go_wp2
  go_ret
  exact ⟨v, ps, rfl, I.own.base b1.size, hl, Below.of_grown b1 I.grown (Nat.le_refl _)⟩
set_option maxRecDepth 100000 in
theorem drawGoneOf_any (A : Option Addr) (n c : Nat) (w : World) (hb : Bytes w w.heap.size A n) (hn : n ≤ c) (hc : c ≤ 9223372036854775807) :
    Calls Try.prog 27 #[.slice A n c] w fun e w' => ∃ v ps, e = .returned v ∧ Owns w' w.heap.size v ps ∧ ps.length ≤ 60 ∧ Below w.heap.size w w' := by
  go_enter Try.func27, Try.ntmps27
  go_wp2_with fail
  refine (open_any A n c _ hb hn hc).mono ?_
  rintro e w1 ⟨n', rfl, r1, b1⟩
  go_wp2_with fail
  refine (blocks_any _ n' c 0 A 6 _ r1 (by omega) (by omega) (by omega)).mono ?_
  rintro e w2 ⟨v, ps, q, rfl, I, hl, _⟩
  go_wp2
  go_ret
  exact ⟨v, ps, rfl, I.own.base b1.size, hl, Below.of_grown b1 I.grown (Nat.le_refl _)⟩
set_option maxRecDepth 100000 in
theorem drawSievedBy_any (A : Option Addr) (n c : Nat) (w : World) (hb : Bytes w w.heap.size A n) (hn : n ≤ c) (hc : c ≤ 9223372036854775807) :
    Calls Try.prog 19 #[.slice A n c] w fun e w' => ∃ v ps, ∃ s : Int, e = .returned (.tuple #[v, .int .i64 s]) ∧ Owns w' w.heap.size v ps ∧ ps.length ≤ 60 ∧ Below w.heap.size w w' := by
  go_enter Try.func19, Try.ntmps19
  go_wp2_with fail
  refine (open_any A n c _ hb hn hc).mono ?_
  rintro e w1 ⟨n', rfl, r1, b1⟩
  go_wp2_with fail
  refine (blocks_any _ n' c 0 A 9 _ r1 (by omega) (by omega) (by omega)).mono ?_
  rintro e w2 ⟨v, ps, q, rfl, I, hl, hq⟩
  have hg := r1.lt
  go_wp2_with fail
  refine (pick_any _ n' c q A 3 _ I.rd (by omega) (by omega) (by omega)).mono ?_
  rintro e w3 ⟨z3, rfl, z3a, z3b, r3, g3⟩
  have I3 := I.pick hg r3 g3
  clear I r3 g3
  go_wp2_with fail
  refine (pick_any _ n' c (q + 1) A 20 _ I3.rd (by omega) (by omega) (by omega)).mono ?_
  rintro e w4 ⟨z4, rfl, z4a, z4b, r4, g4⟩
  have I4 := I3.pick hg r4 g4
  clear I3 r4 g4
  go_wp2_with fail
  refine (pick_any _ n' c (q + 1 + 1) A 30 _ I4.rd (by omega) (by omega) (by omega)).mono ?_
  rintro e w5 ⟨z5, rfl, z5a, z5b, r5, g5⟩
  have I5 := I4.pick hg r5 g5
  clear I4 r5 g5
  obtain ⟨A2, c2, rfl, _, _⟩ := I5.own.reads.slice
  go_wp2
  go_ret2
  exact ⟨_, ps, _, rfl, I5.own.base b1.size, hl, Below.of_grown b1 I5.grown (Nat.le_refl _)⟩

/-- the state in the draw of SideAt: the picture, the empty result in its box, the reader in g -/
structure SInv (w w1 wr : World) (g n c : Nat) (A : Option Addr) (v : Value) (ps : List Sp) (p : Nat) : Prop where
  own : Owns wr w1.heap.size v ps
  box : wr.heap[w.heap.size]? = some (.cells #[.int .i64 0, .int .i64 0] 39 (0, 0))
  rd : Rd wr g A n c p
  below : Below w.heap.size w wr
theorem SInv.pick {w w1 wr w' : World} {g n c p q : Nat} {A : Option Addr} {v : Value} {ps : List Sp} (I : SInv w w1 wr g n c A v ps p) (h1 : w.heap.size < g) (h2 : g < w1.heap.size) (hr : Rd w' g A n c q) (h : wr.grownBy w' (some g)) : SInv w w1 w' g n c A v ps q :=
  ⟨I.own.grown h (by cases hv : v.ownBlock with | none => exact .inl rfl | some k => exact .inr (fun e => by have := (I.own.lt k hv).1; injection e with e; omega)), (h.block _ (Array.getElem?_eq_some_iff.1 I.box).1 (fun e => by injection e with e; omega)).trans I.box, hr, Below.of_grown I.below h (by omega)⟩
theorem SInv.drew {w w1 wr : World} {g n c p : Nat} {A : Option Addr} {v : Value} {ps : List Sp} (I : SInv w w1 wr g n c A v ps p) : SInv w w1 wr.drew g n c A v ps p :=
  ⟨I.own.below (Below.refl _ _).drew, I.box, I.rd.below (Below.refl _ _).drew, I.below.drew⟩
/-- the picture and a spot are handed back -/
def GivesSide (w : World) (e : Ending) (w' : World) : Prop := ∃ v ps, ∃ x y : Int, e = .returned (.tuple #[v, .agg #[.int .i64 x, .int .i64 y]]) ∧ Owns w' w.heap.size v ps ∧ ps.length ≤ 60 ∧ Below w.heap.size w w'
theorem SInv.put {w w1 wr : World} {g n c p : Nat} {A : Option Addr} {v : Value} {ps : List Sp} (I : SInv w w1 wr g n c A v ps p) (h1 : w.heap.size < w1.heap.size) (x y : Int) (hl : ps.length ≤ 60) :
    GivesSide w (.returned (.tuple #[v, .agg #[.int .i64 x, .int .i64 y]])) ((wr.setCell ⟨w.heap.size, 0, none⟩ (.int .i64 x)).setCell ⟨w.heap.size, 1, none⟩ (.int .i64 y)) :=
  ⟨v, ps, x, y, rfl, Owns.base (base := w1.heap.size) (ownsRow_setCell_below (ownsRow_setCell_below I.own h1 _) h1 _) (by omega), hl, (I.below.setCell (p := ⟨w.heap.size, 0, none⟩) (Nat.le_refl _) _).setCell (p := ⟨w.heap.size, 1, none⟩) (Nat.le_refl _) _⟩
set_option maxRecDepth 100000 in
set_option maxHeartbeats 1600000 in
theorem drawSideAt_any (A : Option Addr) (n c : Nat) (w : World) (hb : Bytes w w.heap.size A n) (hn : n ≤ c) (hc : c ≤ 9223372036854775807) :
    Calls Try.prog 30 #[.slice A n c] w (GivesSide w) := by
  go_enter Try.func30, Try.ntmps30
  go_wp2_with fail
  refine (open_any A n c _ (hb.below ((Below.refl _ _).alloc (Nat.le_refl _) _) |>.more (by simp)) hn hc).mono ?_
  rintro e w1 ⟨n', rfl, r1, b1⟩
  simp only [World.size_alloc] at r1 b1 ⊢
  have hB1 := (b1.block w.heap.size (by omega)).trans (heap_alloc_new w (.cells #[.int .i64 0, .int .i64 0] 39))
  have hbw : Below w.heap.size w w1 := (box_below w #[.int .i64 0, .int .i64 0] 39).trans (b1.mono (by omega))
  have h2 := r1.lt
  obtain ⟨g, hg⟩ : ∃ g, w.heap.size + 1 = g := ⟨_, rfl⟩
  rw [hg] at r1 h2 ⊢
  have h1 : w.heap.size < g := by omega
  clear hg b1
  go_wp2_with fail
  refine (blocks_any g n' c 0 A 9 _ r1 (by omega) (by omega) (by omega)).mono ?_
  rintro e w2 ⟨v, ps, q, rfl, I, hl, hq⟩
  have J : SInv w w1 w2 g n' c A v ps q := ⟨I.own, (I.grown.block _ (by omega) (fun e => by injection e with e; omega)).trans hB1, I.rd, Below.of_grown hbw I.grown (by omega)⟩
  obtain ⟨Ap, cp, rfl, hcp, hmp⟩ := I.own.reads.slice
  unfold maxLen at hmp
  have I2 := I.own.2
  clear I r1 hB1 hbw
  by_cases h0 : 0 < ps.length
  · have hd0 : decide (0 < (ps.length : Int)) = true := decide_eq_true (by omega)
    obtain ⟨G, rfl⟩ : ∃ G, Ap = some ⟨G, 0, none⟩ := by
      rcases I2 with ⟨_, hz⟩ | ⟨G, cap, cur0, e, _⟩
      · omega
      · injection e with e _ _
        exact ⟨G, e⟩
    clear I2
    go_wp2_with fail
    refine (pick_any g n' c q A 4 _ J.rd (by omega) (by omega) (by omega)).mono ?_
    rintro e w3 ⟨z3, rfl, z3a, z3b, r3, g3⟩
    have J3 := J.pick h1 h2 r3 g3
    clear J r3 g3
    by_cases hz : 0 < z3
    · have hdz : decide (0 < z3) = true := decide_eq_true hz
      have J4 := J3.drew
      clear J3
      go_wp2_with fail
      go_region_with (first
        | (go_at_call 44; refine (pick_any g n' c (q + 1) A (ps.length : Int) _ J4.rd (by omega) (by omega) (by omega)).mono ?_; rintro e w5 ⟨z5, rfl, za, zb, r5, g5⟩; have J5 := J4.pick h1 h2 r5 g5; clear r5 g5; obtain ⟨m5, rfl⟩ := Int.eq_ofNat_of_zero_le za; obtain ⟨x, y, _, p0, p1⟩ := J5.own.there (show m5 < ps.length by omega); have hi0 : (0 : Int) ≤ (m5 : Int) := Int.natCast_nonneg _; have hi1 : (m5 : Int) < (ps.length : Int) := zb; obtain ⟨k0, k1⟩ := cells_of_row J5.box; have kf0 := frozen_of_row _ _ 0 _ _ J5.box; have kf1 := frozen_of_row _ _ 1 _ _ J5.box))
      all_goals
        go_wp2
        exact bodyPost_ret (v := .tuple #[.slice (some ⟨G, 0, none⟩) ps.length cp, .agg #[.int .i64 x, .int .i64 y]]) (by simp [results, Try.results30, go_sem, k0, k1]) rfl (J5.put (by omega) x y hl)
    · have hdz : decide (0 < z3) = false := decide_eq_false hz
      go_wp2_with fail
      refine (spot_any g n' c (q + 1) A _ J3.rd (by omega)).mono ?_
      rintro e w9 ⟨x, y, rfl, hxy, r9, g9⟩
      have J9 := J3.pick h1 h2 r9 g9
      clear r9 g9
      have hc0 := cell_of_row w9 _ 0 _ _ _ J9.box
      have hc1 := cell_of_row w9 _ 1 _ _ _ J9.box
      have hf0 := frozen_of_row w9 _ 0 _ _ J9.box
      have hf1 := frozen_of_row w9 _ 1 _ _ J9.box
      simp only [List.getElem?_toArray, List.getElem?_cons_zero, List.getElem?_cons_succ] at hc0 hc1
      go_wp2
      exact bodyPost_ret (v := .tuple #[.slice (some ⟨G, 0, none⟩) ps.length cp, .agg #[.int .i64 x, .int .i64 y]]) (by simp [results, Try.results30, go_sem, hc0, hc1]) rfl (J9.put (by omega) x y hl)
  · have hd0 : decide (0 < (ps.length : Int)) = false := decide_eq_false (by omega)
    clear I2
    go_wp2_with fail
    refine (spot_any g n' c q A _ J.rd (by omega)).mono ?_
    rintro e w9 ⟨x, y, rfl, hxy, r9, g9⟩
    have J9 := J.pick h1 h2 r9 g9
    clear r9 g9
    have hc0 := cell_of_row w9 _ 0 _ _ _ J9.box
    have hc1 := cell_of_row w9 _ 1 _ _ _ J9.box
    have hf0 := frozen_of_row w9 _ 0 _ _ J9.box
    have hf1 := frozen_of_row w9 _ 1 _ _ J9.box
    simp only [List.getElem?_toArray, List.getElem?_cons_zero, List.getElem?_cons_succ] at hc0 hc1
    go_wp2
    exact bodyPost_ret (v := .tuple #[.slice Ap ps.length cp, .agg #[.int .i64 x, .int .i64 y]]) (by simp [results, Try.results30, go_sem, hc0, hc1]) rfl (J9.put (by omega) x y hl)
end Go.Proofs.Ytbdmppejflokaaa
