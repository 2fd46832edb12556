/- The model's sums: l2Sum and SumOf. No conditions but those typed. -/
import Derived.Test.YtfofmfkdkihhbacPlain
import Derived.Test.YtfofmfkdkihhbacMove
import Derived.Test.YtfofmfkdkihhbacPut
import Derived.Test.YtfofmfkdkihhbacPicWalk
namespace Go.Proofs.Ytfofmfkdkihhbac
open Go.RowKit Go.Sort

theorem puts_snoc (p l : List Sp) (x : Sp) : puts p (l ++ [x]) = put (puts p l) x := by unfold puts; rw [List.foldl_append]; rfl
def putAcc (ps qs : List Sp) (k : Nat) (a : Sp) (j : Nat) : List Sp := puts [] (accum (sumUpto ps qs k) qs a j)
theorem putAcc_zero (ps qs : List Sp) (k : Nat) (a : Sp) : putAcc ps qs k a 0 = puts [] (sumUpto ps qs k) := by unfold putAcc; rw [accum_zero]
theorem putAcc_succ {ps qs : List Sp} {k j : Nat} {ax ay x y : Int} (h : qs[j]? = some (x, y)) : put (putAcc ps qs k (ax, ay) j) (ax + x, ay + y) = putAcc ps qs k (ax, ay) (j + 1) := by
  unfold putAcc
  rw [← accum_succ h, puts_snoc]
theorem putAcc_all {ps qs : List Sp} {k : Nat} {a : Sp} (h : ps[k]? = some a) : putAcc ps qs k a qs.length = puts [] (sumUpto ps qs (k + 1)) := by
  unfold putAcc
  rw [accum_all, sumUpto_succ h]
theorem length_putAcc (ps qs : List Sp) (k : Nat) (a : Sp) (j : Nat) (hk : k ≤ ps.length) (hp : ps.length ≤ 60) (hq : qs.length ≤ 60) : (putAcc ps qs k a j).length ≤ 100000 := by
  unfold putAcc
  have h1 := length_puts_le (accum (sumUpto ps qs k) qs a j) []
  have h2 := length_accum (sumUpto ps qs k) qs a j
  have h3 := length_sumUpto ps qs k hk
  have h4 := Nat.mul_le_mul hp hq
  simp at h1
  omega

end Go.Proofs.Ytfofmfkdkihhbac
