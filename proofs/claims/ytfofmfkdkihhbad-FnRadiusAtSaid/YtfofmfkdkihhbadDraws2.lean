/- What the draws of chapter 2 hand back: short lists of spots in new memory. No conditions but those typed. -/
import Derived.Test.YtfofmfkdkihhbadDraws1
import Derived.Test.YtfofmfkdkihhbadMoveS
namespace Go.Proofs.Ytfofmfkdkihhbad
open Go.RowKit Go.Sort

/-- a list in new memory, no longer than m -/
structure Got (w w' : World) (v : Value) (ps : List Sp) (m : Nat) : Prop where
  own : Owns w' w.heap.size v ps
  len : ps.length ≤ m
  below : Below w.heap.size w w'

theorem moveL_le (ps : List Sp) (a : Sp) : (moveL ps a).length ≤ ps.length := by
  unfold moveL; split
  · rw [length_moved]; exact Nat.le_refl _
  · simp
end Go.Proofs.Ytfofmfkdkihhbad
