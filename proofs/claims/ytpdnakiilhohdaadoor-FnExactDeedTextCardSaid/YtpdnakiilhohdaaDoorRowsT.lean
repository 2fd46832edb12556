/- The model's rows of pictures, as texts. No conditions but those typed. -/
import Derived.Test.YtpdnakiilhohdaaDoorTextS
import Derived.Test.YtpdnakiilhohdaaDoorHas
import Derived.Test.YtpdnakiilhohdaaDoorBoxS
import Derived.Test.YtpdnakiilhohdaaDoorParts
namespace Go.Proofs.YtpdnakiilhohdaaDoor
open Go.RowKit Go.Sort

theorem int_is {a b : Int} (h : a = b) : Value.int .i64 a = .int .i64 b := by rw [h]
def strZ (r : List Bs) : List Value := r.map strV
theorem strZ_len (r : List Bs) : (strZ r).length = r.length := List.length_map _
theorem strZ_snoc (r : List Bs) (l : Bs) : strZ (r ++ [l]) = strZ r ++ [strV l] := by unfold strZ; rw [List.map_append]; rfl
def GivesStrs (r : List Bs) (w : World) (e : Ending) (w' : World) : Prop := ∃ v', e = .returned v' ∧ VOwns 9 w' w.heap.size v' (strZ r) ∧ Below w.heap.size w w'
end Go.Proofs.YtpdnakiilhohdaaDoor
