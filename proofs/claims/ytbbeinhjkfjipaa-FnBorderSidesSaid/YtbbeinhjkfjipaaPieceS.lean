/- PiecesOf and CountPieces of the model. No conditions but those typed. -/
import Derived.Test.YtbbeinhjkfjipaaMarkS
import Derived.Test.YtbbeinhjkfjipaaParts
namespace Go.Proofs.Ytbbeinhjkfjipaa
open Go.RowKit Go.Sort

theorem l1Has_is {b : Bool} {ps : List Sp} {v : Value} {ax ay : Int} {w : World} (hk : decide ((ax, ay) ∈ ps) = b) (h : Reads w w.heap.size v ps) (hs : Sorted ps) (hl : ps.length ≤ 1000000) : Calls Try.prog 100 #[v, .agg #[.int .i64 ax, .int .i64 ay]] w (Gives (.bool b) w) := by
  subst hk; exact l1Has_any ps v ax ay w h hs hl
/-- whether one of the first j lists has a spot -/
def anyUpto (ls : List (List Sp)) (a : Sp) (j : Nat) : Bool := (ls.take j).any fun q => decide (a ∈ q)
theorem anyUpto_zero (ls : List (List Sp)) (a : Sp) : anyUpto ls a 0 = false := rfl
theorem anyUpto_succ {ls : List (List Sp)} {a : Sp} {j : Nat} {q : List Sp} (h : ls[j]? = some q) : anyUpto ls a (j + 1) = (anyUpto ls a j || decide (a ∈ q)) := by
  unfold anyUpto
  rw [List.take_add_one, h, List.any_append]
  simp
theorem anyUpto_all (ls : List (List Sp)) (a : Sp) : anyUpto ls a ls.length = ls.any fun q => decide (a ∈ q) := by unfold anyUpto; rw [List.take_length]
theorem anyUpto_yes {ls : List (List Sp)} {a : Sp} {j : Nat} {q : List Sp} (h : ls[j]? = some q) (k : anyUpto ls a j = true) : anyUpto ls a (j + 1) = true := by rw [anyUpto_succ h, k]; rfl
theorem anyUpto_no {ls : List (List Sp)} {a : Sp} {j : Nat} {q : List Sp} {b : Bool} (h : ls[j]? = some q) (k : anyUpto ls a j = false) (hb : decide (a ∈ q) = b) : anyUpto ls a (j + 1) = b := by rw [anyUpto_succ h, k, hb]; rfl
theorem piecesR_yes {e : Bool} {p : List Sp} (h : picB p = true) : piecesR e p = piecesL e p := by unfold piecesR; rw [h]; rfl
theorem piecesR_no {e : Bool} {p : List Sp} (h : picB p = false) : piecesR e p = [] := by unfold piecesR; rw [h]; rfl
theorem countR_yes {e : Bool} {p : List Sp} (h : picB p = true) : countR e p = (piecesL e p).length := by unfold countR; rw [h]; rfl
theorem countR_no {e : Bool} {p : List Sp} (h : picB p = false) : countR e p = -1 := by unfold countR; rw [h]; rfl
end Go.Proofs.Ytbbeinhjkfjipaa
