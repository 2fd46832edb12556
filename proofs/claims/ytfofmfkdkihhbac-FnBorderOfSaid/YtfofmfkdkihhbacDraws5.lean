/- What the draws of chapter 5 hand back: short lists of spots, and patterns, in new memory. No conditions but those typed. -/
import Derived.Test.YtfofmfkdkihhbacDraws1
namespace Go.Proofs.Ytfofmfkdkihhbac
open Go.RowKit Go.Sort

theorem drawLoneSpots_any (A : Option Addr) (n c : Nat) (w : World) (hb : Bytes w w.heap.size A n) (hn : n ≤ c) (hc : c ≤ 9223372036854775807) :
    Calls Try.prog 32 #[.slice A n c] w fun e w' => ∃ v ps, e = .returned v ∧ Drawn w w' v ps (9 + 1) := by
  go_enter Try.func32, Try.ntmps32
  go_wp2_with fail
  refine (open_any A n c _ hb hn hc).mono ?_
  rintro e w1 ⟨n', rfl, r1, b1⟩
  go_wp2_with fail
  refine (spots_any _ n' c 0 A 9 9 _ r1 (by omega) (by omega) (by omega) (by omega) (by omega)).mono ?_
  rintro e w2 ⟨v, ps, q, rfl, I, hl, _⟩
  go_wp2
  go_ret
  exact ⟨v, ps, rfl, I.own.base b1.size, I.small, hl, Below.of_grown b1 I.grown (Nat.le_refl _)⟩
theorem drawBorderOf_any (A : Option Addr) (n c : Nat) (w : World) (hb : Bytes w w.heap.size A n) (hn : n ≤ c) (hc : c ≤ 9223372036854775807) :
    Calls Try.prog 37 #[.slice A n c] w fun e w' => ∃ v ps, e = .returned v ∧ Drawn w w' v ps (14 + 1) := by
  go_enter Try.func37, Try.ntmps37
  go_wp2_with fail
  refine (open_any A n c _ hb hn hc).mono ?_
  rintro e w1 ⟨n', rfl, r1, b1⟩
  go_wp2_with fail
  refine (spots_any _ n' c 0 A 14 9 _ r1 (by omega) (by omega) (by omega) (by omega) (by omega)).mono ?_
  rintro e w2 ⟨v, ps, q, rfl, I, hl, _⟩
  go_wp2
  go_ret
  exact ⟨v, ps, rfl, I.own.base b1.size, I.small, hl, Below.of_grown b1 I.grown (Nat.le_refl _)⟩
end Go.Proofs.Ytfofmfkdkihhbac
