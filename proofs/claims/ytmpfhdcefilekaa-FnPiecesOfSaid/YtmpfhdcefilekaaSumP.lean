/- Plain facts on how many spots lists have together. No program is named. No conditions but those that stand in each theorem. -/
import Derived.Test.YtmpfhdcefilekaaPlain
namespace Go.Proofs.Ytmpfhdcefilekaa
/-- how many spots the first k lists have -/
def sumUpTo (ls : List (List Sp)) (k : Nat) : Nat := ((ls.take k).map List.length).sum
theorem sumUpTo_succ {ls : List (List Sp)} {k : Nat} {q : List Sp} (h : ls[k]? = some q) : sumUpTo ls (k + 1) = sumUpTo ls k + q.length := by
  unfold sumUpTo
  rw [List.take_add_one, h, List.map_append, List.sum_append]
  simp
theorem sumUpTo_le (ls : List (List Sp)) (k : Nat) : sumUpTo ls k ≤ (ls.map List.length).sum := by
  unfold sumUpTo
  have : (ls.map List.length).sum = ((ls.take k).map List.length).sum + ((ls.drop k).map List.length).sum := by
    rw [← List.sum_append, ← List.map_append, List.take_append_drop]
  omega
theorem sumUpTo_all (ls : List (List Sp)) : sumUpTo ls ls.length = (ls.map List.length).sum := by unfold sumUpTo; rw [List.take_length]
theorem flat_upto {ls : List (List Sp)} {k : Nat} {q : List Sp} (h : ls[k]? = some q) : (ls.take k).flatten ++ q = (ls.take (k + 1)).flatten := by
  rw [List.take_add_one, h, List.flatten_append]
  simp
theorem flat_length_upto (ls : List (List Sp)) (k : Nat) : (ls.take k).flatten.length = sumUpTo ls k := by
  unfold sumUpTo; rw [List.length_flatten]
end Go.Proofs.Ytmpfhdcefilekaa
