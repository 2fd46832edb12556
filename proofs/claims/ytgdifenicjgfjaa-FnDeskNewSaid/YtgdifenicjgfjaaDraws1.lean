/- What the draws of chapter 1 hand back: short lists of near spots in new memory. And 'alive'. No conditions but those typed. -/
import Derived.Test.YtgdifenicjgfjaaSpots
import Derived.Test.YtgdifenicjgfjaaPicWalk
namespace Go.Proofs.Ytgdifenicjgfjaa
open Go.RowKit Go.Sort

/-- one drawn list, in new memory -/
structure Drawn (w w' : World) (v : Value) (ps : List Sp) (m : Nat) : Prop where
  own : Owns w' w.heap.size v ps
  small : Small ps
  len : ps.length ≤ m
  below : Below w.heap.size w w'

theorem Below.of_grown {w w1 w2 : World} {g : Nat} (hb : Below w.heap.size w w1) (h : w1.grownBy w2 (some g)) (hg : w.heap.size ≤ g) : Below w.heap.size w w2 :=
  hb.grown h hb.size fun k hk => by cases hk; exact hg

theorem litB (w : World) (ps : List Sp) (cs : Array Value) (hcs : cs.toList = flat ps) (hl : ps.length ≤ 1000) : Owns (w.alloc (.cells cs 30)) w.heap.size (.slice (some ⟨w.heap.size, 0, none⟩) ps.length ps.length) ps := by
  have h := World.ownsRow_lit (base := w.heap.size) (e := 30) (size := 2) w cs ps.length (Nat.le_refl _) (by simp only [maxLen]; omega) (by rw [← flat_length, ← hcs, Array.length_toList])
  rw [hcs] at h
  exact h

theorem alive_any (w : World) : Calls Try.prog 10 #[] w (Gives (.bool true) w) := by
  have l1 := litB w [(0, 0)] #[.int .i64 0, .int .i64 0] rfl (by simp)
  go_enter Try.func10, Try.ntmps10
  go_wp2_with fail
  refine (gives_is (show picB [(0, 0)] = true by decide) (implPicture_any [(0, 0)] _ _ l1.reads)).mono ?_
  rintro e w1 ⟨rfl, b1⟩
  have l2 := litB w1 [(0, 0), (0, 0)] #[.int .i64 0, .int .i64 0, .int .i64 0, .int .i64 0] rfl (by simp)
  go_wp2_with fail
  refine (gives_is (show picB [(0, 0), (0, 0)] = false by decide) (implPicture_any [(0, 0), (0, 0)] _ _ l2.reads)).mono ?_
  rintro e w2 ⟨rfl, b2⟩
  go_wp2
  go_ret
  exact ⟨rfl, below_step (below_step ((Below.refl _ _).alloc (Nat.le_refl _) _) b1) (below_step ((Below.refl _ _).alloc (Nat.le_refl _) _) b2)⟩

end Go.Proofs.Ytgdifenicjgfjaa
