/- slices.Clone at spots: a slice of its own. No conditions but those typed. -/
import Derived.Test.YtgdifenicjgfjaaOnes
import Derived.Test.YtgdifenicjgfjaaHas
import Derived.Lib.SliceRun
namespace Go.Proofs.Ytgdifenicjgfjaa
open Go.RowKit Go.Sort

set_option maxRecDepth 100000 in
theorem clone_any (ps : List Sp) (v : Value) (w : World) (h : Reads w w.heap.size v ps) (hl : ps.length ≤ 1000000) :
    Calls Try.prog 54 #[v] w (GivesOwn ps w) := by
  obtain ⟨A, c, rfl, hc, hm, hA, _⟩ := h.is
  unfold maxLen at hm
  have hnil : ∀ W, (binOp .eql 23 (.slice A ps.length c) (.slice none 0 0)).run Try.prog W = .ok (.bool A.isNone) W := fun W => Lib.run_eql_slice_nil W _ _ _ _ _ 0 0 Try.underlying23
  cases A with
  | none =>
    have hnil : ∀ W, (binOp .eql 23 (.slice none ps.length c) (.slice none 0 0)).run Try.prog W = .ok (.bool true) W := hnil
    have h0 : ps.length = 0 := by have := hA rfl; omega
    obtain rfl := List.eq_nil_of_length_eq_zero h0
    have hc0 : c = 0 := hA rfl
    subst hc0
    have hnil : ∀ W, (binOp .eql 23 (.slice none 0 0) (.slice none 0 0)).run Try.prog W = .ok (.bool true) W := hnil
    go_enter Try.func54, Try.ntmps54
    go_wp2
    go_ret
    exact ⟨_, rfl, Owns.nil _ _, Below.refl _ _⟩
  | some ad =>
    have hnil : ∀ W, (binOp .eql 23 (.slice (some ad) ps.length c) (.slice none 0 0)).run Try.prog W = .ok (.bool false) W := hnil
    have b0 : Below w.heap.size w (w.alloc (.cells #[] 30)) := box_below _ _ _
    have oE := Owns.empty w w.heap.size (Nat.le_refl _)
    go_enter Try.func54, Try.ntmps54
    go_wp2_with (at_builtin; refine wpList_append_spots (qs := ps) oE (h.kept b0) (by simp only [List.length_nil]; omega) b0.size rfl (.tmp 5) (.tmp 6) rfl rfl rfl ?_)
    intro v4 w4 o4 g4 hv4
    have b4 := oE.below_app b0 b0.size g4
    go_wp2
    go_ret
    exact ⟨_, rfl, by simpa using o4, b4⟩
end Go.Proofs.Ytgdifenicjgfjaa
