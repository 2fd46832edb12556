/- What the draws of chapter 4 hand back: numbers within bounds, and short lists of spots in new memory. No conditions but those typed. -/
import Derived.Test.YtfofmfkdkihhbadDraws2
import Derived.Test.YtfofmfkdkihhbadBox
namespace Go.Proofs.Ytfofmfkdkihhbad
open Go.RowKit Go.Sort

def GivesDist (w : World) (e : Ending) (w' : World) : Prop := ∃ x y u v way : Int, e = .returned (.tuple #[.agg #[.int .i64 x, .int .i64 y], .agg #[.int .i64 u, .int .i64 v], .int .i64 way]) ∧ (-10 ≤ x ∧ x ≤ 10 ∧ -10 ≤ y ∧ y ≤ 10) ∧ (-200 ≤ u ∧ u ≤ 200 ∧ -200 ≤ v ∧ v ≤ 200) ∧ (0 ≤ way ∧ way ≤ 10) ∧ Below w.heap.size w w'
def GivesFar (w : World) (e : Ending) (w' : World) : Prop := ∃ (v : Value) (ps : List Sp) (x y way : Int), e = .returned (.tuple #[v, .agg #[.int .i64 x, .int .i64 y], .int .i64 way]) ∧ Owns w' w.heap.size v ps ∧ ps.length ≤ 60 ∧ (-200 ≤ x ∧ x ≤ 200 ∧ -200 ≤ y ∧ y ≤ 200) ∧ (0 ≤ way ∧ way ≤ 10) ∧ Below w.heap.size w w'
def GivesGrown (w : World) (e : Ending) (w' : World) : Prop := ∃ (v : Value) (ps : List Sp) (r way : Int), e = .returned (.tuple #[v, .int .i64 r, .int .i64 way]) ∧ Owns w' w.heap.size v ps ∧ ps.length ≤ 60 ∧ (-10 ≤ r ∧ r ≤ 10) ∧ (0 ≤ way ∧ way ≤ 10) ∧ Below w.heap.size w w'
end Go.Proofs.Ytfofmfkdkihhbad
