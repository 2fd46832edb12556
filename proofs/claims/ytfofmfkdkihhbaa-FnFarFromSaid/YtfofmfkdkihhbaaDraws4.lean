/- What the draws of chapter 4 hand back: numbers within bounds, and short lists of spots in new memory. No conditions but those typed. -/
import Derived.Test.YtfofmfkdkihhbaaDraws2
import Derived.Test.YtfofmfkdkihhbaaBox
namespace Go.Proofs.Ytfofmfkdkihhbaa
open Go.RowKit Go.Sort

theorem way_any (g n c p : Nat) (A : Option Addr) (w : World) (hr : Rd w g A n c p) (hp : p ≤ 60000) :
    Calls Try.prog 56 #[.pointer (some ⟨g, 0, none⟩)] w fun e w' => ∃ r way : Int, e = .returned (.tuple #[.int .i64 r, .int .i64 way]) ∧ (-10 ≤ r ∧ r ≤ 10) ∧ (0 ≤ way ∧ way ≤ 10) ∧ Rd w' g A n c (p + 6) ∧ w.grownBy w' (some g) := by
  go_enter Try.func56, Try.ntmps56
  go_wp2_with fail
  refine (pick_any g n c p A 3 _ hr (by omega) (by omega) (by omega)).mono ?_
  rintro e w1 ⟨z1, rfl, z1a, z1b, r1, g1⟩
  go_wp2_with fail
  refine (pick_any g n c (p + 1) A 10 _ r1 (by omega) (by omega) (by omega)).mono ?_
  rintro e w2 ⟨z2, rfl, z2a, z2b, r2, g2⟩
  have g2 := grown_trans g1 g2
  go_wp2_with fail
  refine (pick_any g n c (p + 1 + 1) A 30 _ r2 (by omega) (by omega) (by omega)).mono ?_
  rintro e w3 ⟨z3, rfl, z3a, z3b, r3, g3⟩
  have g3 := grown_trans g2 g3
  go_wp2_with fail
  refine (pick_any g n c (p + 1 + 1 + 1) A 40 _ r3 (by omega) (by omega) (by omega)).mono ?_
  rintro e w4 ⟨z4, rfl, z4a, z4b, r4, g4⟩
  have g4 := grown_trans g3 g4
  go_wp2_with fail
  refine (pick_any g n c (p + 1 + 1 + 1 + 1) A 3 _ r4 (by omega) (by omega) (by omega)).mono ?_
  rintro e w5 ⟨z5, rfl, z5a, z5b, r5, g5⟩
  have g5 := grown_trans g4 g5
  go_wp2_with fail
  refine (pick_any g n c (p + 1 + 1 + 1 + 1 + 1) A 30 _ r5 (by omega) (by omega) (by omega)).mono ?_
  rintro e w6 ⟨z6, rfl, z6a, z6b, r6, g6⟩
  have g6 := grown_trans g5 g6
  clear g1 g2 g3 g4 g5
  go_wp2
  go_ret2
  exact ⟨_, _, rfl, by omega, by omega, r6, g6⟩

theorem drawBallOf_any (A : Option Addr) (n c : Nat) (w : World) (hb : Bytes w w.heap.size A n) (hn : n ≤ c) (hc : c ≤ 9223372036854775807) :
    Calls Try.prog 31 #[.slice A n c] w fun e w' => ∃ r way : Int, e = .returned (.tuple #[.int .i64 r, .int .i64 way]) ∧ (-10 ≤ r ∧ r ≤ 10) ∧ (0 ≤ way ∧ way ≤ 10) ∧ Below w.heap.size w w' := by
  go_enter Try.func31, Try.ntmps31
  go_wp2_with fail
  refine (open_any A n c _ hb hn hc).mono ?_
  rintro e w1 ⟨n', rfl, r1, b1⟩
  go_wp2_with fail
  refine (way_any _ n' c 0 A _ r1 (by omega)).mono ?_
  rintro e w2 ⟨r, way, rfl, hr, hw, _, g2⟩
  go_wp2
  go_ret2
  exact ⟨r, way, rfl, hr, hw, Below.of_grown b1 g2 (Nat.le_refl _)⟩
def GivesDist (w : World) (e : Ending) (w' : World) : Prop := ∃ x y u v way : Int, e = .returned (.tuple #[.agg #[.int .i64 x, .int .i64 y], .agg #[.int .i64 u, .int .i64 v], .int .i64 way]) ∧ (-10 ≤ x ∧ x ≤ 10 ∧ -10 ≤ y ∧ y ≤ 10) ∧ (-200 ≤ u ∧ u ≤ 200 ∧ -200 ≤ v ∧ v ≤ 200) ∧ (0 ≤ way ∧ way ≤ 10) ∧ Below w.heap.size w w'
def GivesFar (w : World) (e : Ending) (w' : World) : Prop := ∃ (v : Value) (ps : List Sp) (x y way : Int), e = .returned (.tuple #[v, .agg #[.int .i64 x, .int .i64 y], .int .i64 way]) ∧ Owns w' w.heap.size v ps ∧ ps.length ≤ 60 ∧ (-200 ≤ x ∧ x ≤ 200 ∧ -200 ≤ y ∧ y ≤ 200) ∧ (0 ≤ way ∧ way ≤ 10) ∧ Below w.heap.size w w'
set_option maxHeartbeats 800000 in
theorem drawFarFrom_any (A : Option Addr) (n c : Nat) (w : World) (hb : Bytes w w.heap.size A n) (hn : n ≤ c) (hc : c ≤ 9223372036854775807) :
    Calls Try.prog 36 #[.slice A n c] w (GivesFar w) := by
  have b0 := box_below w #[.int .i64 0, .int .i64 0] 25
  obtain ⟨W, hW⟩ : ∃ W, W = w.alloc (.cells #[.int .i64 0, .int .i64 0] 25) := ⟨_, rfl⟩
  have q0 : W.heap[w.heap.size]? = some (.cells #[.int .i64 0, .int .i64 0] 25 (0, 0)) := by rw [hW]; exact heap_alloc_new w _
  have hsz : w.heap.size + 1 ≤ W.heap.size := by rw [hW]; simp
  rw [← hW] at b0
  have hb' := (hb.below b0).more b0.size
  go_enter Try.func36, Try.ntmps36
  go_wp2_with (first | (rw [← hW]; clear hW) | fail)
  refine (open_any A n c _ hb' hn hc).mono ?_
  rintro e w1 ⟨n', rfl, r1, b1⟩
  have bw := below_step b0 b1
  have q0 := (b1.block w.heap.size (by omega)).trans q0
  have hs1 := b1.size
  go_wp2_with fail
  refine (way_any _ n' c 0 A _ r1 (by omega)).mono ?_
  rintro e w2 ⟨r, way, rfl, hr, hw, r2, g2⟩
  go_wp2_with fail
  refine (spots_any _ n' c _ A 7 12 _ r2 (by omega) (by omega) (by omega) (by omega) (by omega)).mono ?_
  rintro e w3 ⟨v, ps, q, rfl, I, hl, hq⟩
  have hgl := r2.lt
  have o3 := I.own
  have r3 := I.rd
  have g3 := grown_trans g2 I.grown
  have s2 := g2.size
  have hl' : ps.length ≤ 60 := Nat.le_trans hl (by decide)
  clear I hl
  go_wp2_with fail
  refine (pick_any _ n' c _ A 11 _ r3 (by omega) (by omega) (by omega)).mono ?_
  rintro e w4 ⟨z1, rfl, z1a, z1b, r4, g4⟩
  have o4 : Owns w4 w2.heap.size v ps := o3.grown g4 (by cases hv : v.ownBlock with | none => exact .inl rfl | some k => exact .inr (fun e => by have := (o3.lt k hv).1; injection e with e; omega))
  have g4 := grown_trans g3 g4
  go_wp2_with fail
  refine (pick_any _ n' c _ A 11 _ r4 (by omega) (by omega) (by omega)).mono ?_
  rintro e w5 ⟨z2, rfl, z2a, z2b, _, g5⟩
  have o5 : Owns w5 w2.heap.size v ps := o4.grown g5 (by cases hv : v.ownBlock with | none => exact .inl rfl | some k => exact .inr (fun e => by have := (o4.lt k hv).1; injection e with e; omega))
  have g5 := grown_trans g4 g5
  clear g2 g3 g4 o3 o4 r1 r2 r3 r4
  have bw5 := Below.of_grown bw g5 b0.size
  have l0 := (g5.block w.heap.size (by omega) (fun e => by injection e with e; omega)).trans q0
  obtain ⟨c0, c1⟩ := cells_of_row l0
  have f0 := fun j => frozen_of_row w5 _ j _ _ l0
  clear q0 l0 hb hb' b1 bw g5
  go_wp2
  refine bodyPost_ret (v := .tuple #[v, .agg #[.int .i64 (z1 - 5), .int .i64 (z2 - 5)], .int .i64 way]) (by simp [results, Try.results36, go_sem, c0, c1]) rfl ⟨v, ps, _, _, _, rfl, ?_, hl', ⟨by omega, by omega, by omega, by omega⟩, hw, below_set2 bw5 (Nat.le_refl _)⟩
  have hne : ∀ j u (wa : World), Owns wa w2.heap.size v ps → Owns (wa.setCell ⟨w.heap.size, j, none⟩ u) w2.heap.size v ps := fun j u wa o => o.grown (grown_set wa w.heap.size j u) (by cases hv : v.ownBlock with | none => exact .inl rfl | some k => exact .inr (fun e => by have := (o.lt k hv).1; injection e with e; omega))
  exact (hne 1 _ _ (hne 0 _ _ o5)).base (by omega)

def GivesGrown (w : World) (e : Ending) (w' : World) : Prop := ∃ (v : Value) (ps : List Sp) (r way : Int), e = .returned (.tuple #[v, .int .i64 r, .int .i64 way]) ∧ Owns w' w.heap.size v ps ∧ ps.length ≤ 60 ∧ (-10 ≤ r ∧ r ≤ 10) ∧ (0 ≤ way ∧ way ≤ 10) ∧ Below w.heap.size w w'
set_option maxHeartbeats 800000 in
theorem drawGrownBall_any (A : Option Addr) (n c : Nat) (w : World) (hb : Bytes w w.heap.size A n) (hn : n ≤ c) (hc : c ≤ 9223372036854775807) :
    Calls Try.prog 39 #[.slice A n c] w (GivesGrown w) := by
  go_enter Try.func39, Try.ntmps39
  go_wp2_with fail
  refine (open_any A n c _ hb hn hc).mono ?_
  rintro e w1 ⟨n', rfl, r1, b1⟩
  have hs1 := b1.size
  go_wp2_with fail
  refine (way_any _ n' c 0 A _ r1 (by omega)).mono ?_
  rintro e w2 ⟨r, way, rfl, hr, hw, r2, g2⟩
  go_wp2_with fail
  refine (spots_any _ n' c _ A 6 12 _ r2 (by omega) (by omega) (by omega) (by omega) (by omega)).mono ?_
  rintro e w3 ⟨v, ps, q, rfl, I, hl, hq⟩
  have hgl := r2.lt
  have o3 := I.own
  have r3 := I.rd
  have g3 := grown_trans g2 I.grown
  have s2 := g2.size
  have hl' : ps.length ≤ 60 := Nat.le_trans hl (by decide)
  clear I hl
  go_wp2_with fail
  refine (pick_any _ n' c _ A 2 _ r3 (by omega) (by omega) (by omega)).mono ?_
  rintro e w4 ⟨z1, rfl, z1a, z1b, _, g4⟩
  have o4 : Owns w4 w2.heap.size v ps := o3.grown g4 (by cases hv : v.ownBlock with | none => exact .inl rfl | some k => exact .inr (fun e => by have := (o3.lt k hv).1; injection e with e; omega))
  have g4 := grown_trans g3 g4
  have bw4 := Below.of_grown b1 g4 (Nat.le_refl _)
  clear g2 g3 o3 r1 r2 r3
  have o5 := o4.base (show w.heap.size ≤ w2.heap.size by omega)
  go_wp2
  all_goals
    first
      | (refine bodyPost_ret (v := .tuple #[v, .int .i64 r, .int .i64 way]) ?_ rfl ⟨v, ps, r, way, rfl, o5, hl', hr, hw, bw4⟩; simp [results, Try.results39, go_sem]; done)
      | (refine bodyPost_ret (v := .tuple #[v, .int .i64 (1 + z1), .int .i64 way]) ?_ rfl ⟨v, ps, _, way, rfl, o5, hl', ⟨Int.le_trans (by decide) (Int.add_le_add (Int.le_refl 1) z1a), Int.le_trans (Int.add_le_add (Int.le_refl 1) (Int.le_of_lt z1b)) (by decide)⟩, hw, bw4⟩; simp [results, Try.results39, go_sem]; done)
end Go.Proofs.Ytfofmfkdkihhbaa
