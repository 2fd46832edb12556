/- What the draws of chapter 2 hand back: short lists of spots in new memory. No conditions but those typed. -/
import Derived.Test.YtfofmfkdkihhbabDraws1
import Derived.Test.YtfofmfkdkihhbabMoveS
namespace Go.Proofs.Ytfofmfkdkihhbab
open Go.RowKit Go.Sort

theorem drawDoubledOf_any (A : Option Addr) (n c : Nat) (w : World) (hb : Bytes w w.heap.size A n) (hn : n ≤ c) (hc : c ≤ 9223372036854775807) :
    Calls Try.prog 16 #[.slice A n c] w fun e w' => ∃ v ps, e = .returned v ∧ Drawn w w' v ps (6 + 1) := by
  go_enter Try.func16, Try.ntmps16
  go_wp2_with fail
  refine (open_any A n c _ hb hn hc).mono ?_
  rintro e w1 ⟨n', rfl, r1, b1⟩
  go_wp2_with fail
  refine (spots_any _ n' c 0 A 6 12 _ r1 (by omega) (by omega) (by omega) (by omega) (by omega)).mono ?_
  rintro e w2 ⟨v, ps, q, rfl, I, hl, _⟩
  go_wp2
  go_ret
  exact ⟨v, ps, rfl, I.own.base b1.size, I.small, hl, Below.of_grown b1 I.grown (Nat.le_refl _)⟩
/-- a list in new memory, no longer than m -/
structure Got (w w' : World) (v : Value) (ps : List Sp) (m : Nat) : Prop where
  own : Owns w' w.heap.size v ps
  len : ps.length ≤ m
  below : Below w.heap.size w w'

theorem moveL_le (ps : List Sp) (a : Sp) : (moveL ps a).length ≤ ps.length := by
  unfold moveL; split
  · rw [length_moved]; exact Nat.le_refl _
  · simp
end Go.Proofs.Ytfofmfkdkihhbab
