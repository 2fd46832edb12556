/- What the draws of chapter 1 hand back: short lists of near spots in new memory. And 'alive'. No conditions but those typed. -/
import Derived.Test.YtfofmfkdkihhbadSpots
import Derived.Test.YtfofmfkdkihhbadPicWalk
namespace Go.Proofs.Ytfofmfkdkihhbad
open Go.RowKit Go.Sort

/-- one drawn list, in new memory -/
structure Drawn (w w' : World) (v : Value) (ps : List Sp) (m : Nat) : Prop where
  own : Owns w' w.heap.size v ps
  small : Small ps
  len : ps.length ≤ m
  below : Below w.heap.size w w'

theorem Below.of_grown {w w1 w2 : World} {g : Nat} (hb : Below w.heap.size w w1) (h : w1.grownBy w2 (some g)) (hg : w.heap.size ≤ g) : Below w.heap.size w w2 :=
  hb.grown h hb.size fun k hk => by cases hk; exact hg

theorem litB (w : World) (ps : List Sp) (cs : Array Value) (hcs : cs.toList = flat ps) (hl : ps.length ≤ 1000) : Owns (w.alloc (.cells cs 25)) w.heap.size (.slice (some ⟨w.heap.size, 0, none⟩) ps.length ps.length) ps := by
  have h := World.ownsRow_lit (base := w.heap.size) (e := 25) (size := 2) w cs ps.length (Nat.le_refl _) (by simp only [maxLen]; omega) (by rw [← flat_length, ← hcs, Array.length_toList])
  rw [hcs] at h
  exact h

theorem alive_any (w : World) : Calls Try.prog 13 #[] w (Gives (.bool true) w) := by
  have l1 := litB w [(0, 0)] #[.int .i64 0, .int .i64 0] rfl (by simp)
  go_enter Try.func13, Try.ntmps13
  go_wp2_with fail
  refine (gives_is (show picB [(0, 0)] = true by decide) (implPicture_any [(0, 0)] _ _ l1.reads)).mono ?_
  rintro e w1 ⟨rfl, b1⟩
  have l2 := litB w1 [(0, 0), (0, 0)] #[.int .i64 0, .int .i64 0, .int .i64 0, .int .i64 0] rfl (by simp)
  go_wp2_with fail
  refine (gives_is (show picB [(0, 0), (0, 0)] = false by decide) (implPicture_any [(0, 0), (0, 0)] _ _ l2.reads)).mono ?_
  rintro e w2 ⟨rfl, b2⟩
  go_wp2
  go_ret
  exact ⟨rfl, below_step (below_step ((Below.refl _ _).alloc (Nat.le_refl _) _) b1) (below_step ((Below.refl _ _).alloc (Nat.le_refl _) _) b2)⟩

theorem spot_any (g n c p : Nat) (A : Option Addr) (w : World) (hr : Rd w g A n c p) (hp : p ≤ 90000) :
    Calls Try.prog 39 #[.pointer (some ⟨g, 0, none⟩)] w fun e w' => ∃ x y : Int, e = .returned (.agg #[.int .i64 x, .int .i64 y]) ∧ (-200 ≤ x ∧ x ≤ 200 ∧ -200 ≤ y ∧ y ≤ 200) ∧ Rd w' g A n c (p + 3) ∧ w.grownBy w' (some g) := by
  have r0 := hr.below ((Below.refl _ _).alloc (Nat.le_refl _) (.cells #[.int .i64 0, .int .i64 0] 25))
  go_enter Try.func39, Try.ntmps39
  go_wp2_with fail
  refine (pick_any g n c p A 5 _ r0 (by omega) (by omega) (by omega)).mono ?_
  rintro e w1 ⟨z1, rfl, z1a, z1b, r1, g1⟩
  go_wp2_with fail
  refine (pick_any g n c (p + 1) A 40 _ r1 (by omega) (by omega) (by omega)).mono ?_
  rintro e w2 ⟨z2, rfl, z2a, z2b, r2, g2⟩
  go_wp2_with fail
  refine (pick_any g n c (p + 2) A 5 _ r2 (by omega) (by omega) (by omega)).mono ?_
  rintro e w3 ⟨z3, rfl, z3a, z3b, r3, g3⟩
  have g123 := grown_trans (grown_trans g1 g2) g3
  have hB : w3.heap[w.heap.size]? = some (.cells #[.int .i64 0, .int .i64 0] 25 (0, 0)) := (g123.block w.heap.size (by simp) (fun e => by cases e; exact absurd hr.lt (Nat.lt_irrefl _))).trans (heap_alloc_new w _)
  have hc0 := cell_of_row w3 _ 0 _ _ _ hB
  have hc1 := cell_of_row w3 _ 1 _ _ _ hB
  have hf := fun j => frozen_of_row w3 _ j _ _ hB
  simp only [List.getElem?_toArray, List.getElem?_cons_zero, List.getElem?_cons_succ] at hc0 hc1
  clear hB
  have hgl := hr.lt
  have gw := grown_trans (World.grownBy_alloc w (.cells #[.int .i64 0, .int .i64 0] 25) (some g)) g123
  go_wp2
  refine bodyPost_ret (v := .agg #[.int .i64 (z1 - 2 + z2 / 39 * 100), .int .i64 (z3 - 2)]) (by simp [results, Try.results39, go_sem, hc0, hc1]) rfl ⟨_, _, rfl, ⟨by omega, by omega, by omega, by omega⟩, ?_, ?_⟩
  · exact (r3.app (grown_set w3 w.heap.size 0 _) (fun k hk => by cases hk; exact hgl)).app (grown_set _ w.heap.size 1 _) (fun k hk => by cases hk; exact hgl)
  · exact grown_app (grown_app gw (grown_set w3 w.heap.size 0 _) (fun k hk => by cases hk; exact Nat.le_refl _)) (grown_set _ w.heap.size 1 _) (fun k hk => by cases hk; exact Nat.le_refl _)

end Go.Proofs.Ytfofmfkdkihhbad
