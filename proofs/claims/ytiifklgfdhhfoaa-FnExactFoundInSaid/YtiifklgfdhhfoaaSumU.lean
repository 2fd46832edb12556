/- Plain facts on sums gathered spot by spot. No program is named. No conditions but those that stand in each theorem. -/
import Derived.Test.YtiifklgfdhhfoaaAns
namespace Go.Proofs.Ytiifklgfdhhfoaa

/-- a is in reach of an int's exact sums -/
def Near (a : Sp) : Prop := -1000 ≤ a.1 ∧ a.1 ≤ 1000 ∧ -1000 ≤ a.2 ∧ a.2 ≤ 1000
theorem near_of {a : Sp} (h : InR a) : Near a := by unfold InR at h; unfold Near; omega
/-- what has been added behind acc when k spots have been gone through -/
def accum (acc qs : List Sp) (a : Sp) (k : Nat) : List Sp := acc ++ (qs.take k).map (addS a)
theorem accum_zero (acc qs : List Sp) (a : Sp) : accum acc qs a 0 = acc := by simp [accum]
theorem accum_all (acc qs : List Sp) (a : Sp) : accum acc qs a qs.length = acc ++ qs.map (addS a) := by simp [accum]
theorem accum_succ {acc qs : List Sp} {a : Sp} {k : Nat} {x y : Int} (h : qs[k]? = some (x, y)) : accum acc qs a k ++ [(a.1 + x, a.2 + y)] = accum acc qs a (k + 1) := by
  unfold accum
  rw [List.take_add_one, h, List.append_assoc]; simp [addS]
theorem length_accum (acc qs : List Sp) (a : Sp) (k : Nat) : (accum acc qs a k).length ≤ acc.length + qs.length := by
  unfold accum; simp; omega
def sumUpto (ps qs : List Sp) (k : Nat) : List Sp := sumRaw (ps.take k) qs
theorem sumUpto_all (ps qs : List Sp) : sumUpto ps qs ps.length = sumRaw ps qs := by unfold sumUpto; rw [List.take_length]
theorem sumUpto_succ {ps qs : List Sp} {k : Nat} {a : Sp} (h : ps[k]? = some a) : sumUpto ps qs k ++ qs.map (addS a) = sumUpto ps qs (k + 1) := by
  unfold sumUpto sumRaw
  rw [List.take_add_one, h, List.flatMap_append]; simp
theorem length_sumUpto (ps qs : List Sp) (k : Nat) (hk : k ≤ ps.length) : (sumUpto ps qs k).length ≤ ps.length * qs.length := by
  unfold sumUpto
  rw [length_sumRaw, List.length_take]
  exact Nat.mul_le_mul_right _ (by omega)
end Go.Proofs.Ytiifklgfdhhfoaa
