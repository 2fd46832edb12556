/- The program's lessSpot and boxOfFits. No conditions but those typed. -/
import Derived.Test.YtbbeinhjkfjipaaBox
import Derived.Test.YtbbeinhjkfjipaaPlain
namespace Go.Proofs.Ytbbeinhjkfjipaa
open Go.RowKit Go.Sort

theorem box_is {ps : List Sp} {v : Value} {w : World} {b : Bool} {c : Sp × Sp} (h : Reads w w.heap.size v ps) (hb : boxOk ps = b) (hc : boxR ps = c) : Calls Try.prog 57 #[v] w (GivesBox c b w) := by
  subst hb hc; exact implBox_any ps v w h
theorem box_yes {p : List Sp} (h : picB p = true) (h0 : p ≠ []) : boxOk p = true ∧ boxR p = boxL p := by
  have e : boxOk p = true := by unfold boxOk; rw [h, decide_eq_true h0]; rfl
  exact ⟨e, by unfold boxR; rw [e, if_pos rfl]⟩

theorem keep2 {w : World} {g k o : Nat} {a b v : Value} (h : k ≠ g) (hc : w.cell? ⟨k, o, none⟩ = some v) : ((w.setCell ⟨g, 0, none⟩ a).setCell ⟨g, 1, none⟩ b).cell? ⟨k, o, none⟩ = some v := by
  rw [World.cell?_setCell_far _ _ _ _ (fun e => h e.symm), World.cell?_setCell_far _ _ _ _ (fun e => h e.symm), hc]

def GivesTwo (a b : Sp) (w : World) (e : Ending) (w' : World) : Prop := e = .returned (.tuple #[.agg #[.int .i64 a.1, .int .i64 a.2], .agg #[.int .i64 b.1, .int .i64 b.2]]) ∧ Below w.heap.size w w'
end Go.Proofs.Ytbbeinhjkfjipaa
