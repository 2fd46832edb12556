/- The program's told: what it is handed, and true, or nothing and false. No conditions but those typed. -/
import Derived.Test.YtkiidmdgdjphjaaGreatPicWalk
import Derived.Test.YtkiidmdgdjphjaaGreatMem
namespace Go.Proofs.YtkiidmdgdjphjaaGreat
open Go.RowKit Go.Sort

theorem told_yes {ps : List Sp} {v : Value} {w : World} {base : Nat} (hp : picB ps = true) (h : Owns w base v ps) :
    Calls Tryz.prog 79 #[v] w fun e w' => e = .returned (.tuple #[v, .bool true]) ∧ Below w.heap.size w w' := by
  obtain ⟨A, c, rfl, _, _⟩ := h.reads.slice
  go_enter Tryz.func79, Tryz.ntmps79
  go_wp2_with fail
  refine (gives_is hp (implPicture_any ps _ _ h.reads)).mono ?_
  rintro e w1 ⟨rfl, b1⟩
  go_wp2
  go_ret2
  exact ⟨rfl, b1⟩
theorem told_no {ps : List Sp} {v : Value} {w : World} {base : Nat} (hp : picB ps = false) (h : Owns w base v ps) :
    Calls Tryz.prog 79 #[v] w fun e w' => e = .returned (.tuple #[.slice none 0 0, .bool false]) ∧ Below w.heap.size w w' := by
  obtain ⟨A, c, rfl, _, _⟩ := h.reads.slice
  go_enter Tryz.func79, Tryz.ntmps79
  go_wp2_with fail
  refine (gives_is hp (implPicture_any ps _ _ h.reads)).mono ?_
  rintro e w1 ⟨rfl, b1⟩
  go_wp2
  go_ret2
  exact ⟨rfl, b1⟩
end Go.Proofs.YtkiidmdgdjphjaaGreat
