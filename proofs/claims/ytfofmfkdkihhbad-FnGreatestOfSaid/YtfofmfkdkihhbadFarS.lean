/- The model's l4Far. No conditions but those typed. -/
import Derived.Test.YtfofmfkdkihhbadPlain
import Derived.Test.YtfofmfkdkihhbadDraws1
import Derived.IntWalk
import Derived.Laws.Cover1
namespace Go.Proofs.Ytfofmfkdkihhbad
open Go.RowKit Go.Sort

theorem absI_is (x y : Int) : absI (x - y) = max (x - y) (y - x) := by unfold absI; split <;> omega
theorem maxI_is (x y : Int) : maxI x y = max x y := by unfold maxI; split <;> omega
theorem farI_0 (x y u v : Int) : farI (x, y) (u, v) 0 = max (x - u) (u - x) + max (y - v) (v - y) := by
  unfold farI; rw [if_pos rfl, absI_is, absI_is]
theorem farI_1 (x y u v : Int) : farI (x, y) (u, v) 1 = max (max (x - u) (u - x)) (max (y - v) (v - y)) := by
  unfold farI; rw [if_neg (by decide), if_pos rfl, absI_is, absI_is, maxI_is]
theorem farI_2 (x y u v : Int) {way : Int} (h0 : ¬ way = 0) (h1 : ¬ way = 1) : farI (x, y) (u, v) way = max (max (max (x - u) (u - x)) (max (y - v) (v - y))) ((2 * (max (x - u) (u - x) + max (y - v) (v - y)) + 2) / 3) := by
  unfold farI; rw [if_neg h0, if_neg h1, absI_is, absI_is, maxI_is, maxI_is]
set_option maxHeartbeats 800000 in
theorem l4Far_any (x y u v way : Int) (w : World) (h : -1000 ≤ x ∧ x ≤ 1000 ∧ -1000 ≤ y ∧ y ≤ 1000) (k : -1000 ≤ u ∧ u ≤ 1000 ∧ -1000 ≤ v ∧ v ≤ 1000) :
    Calls Try.prog 61 #[.agg #[.int .i64 x, .int .i64 y], .agg #[.int .i64 u, .int .i64 v], .int .i64 way] w (Gives (.int .i64 (farI (x, y) (u, v) way)) w) := by
  obtain ⟨h1, h2, h3, h4⟩ := h
  obtain ⟨k1, k2, k3, k4⟩ := k
  by_cases w0 : way = 0
  · subst w0
    rw [farI_0]
    go_enter Try.func61, Try.ntmps61
    go_wp2
    all_goals go_ret
    all_goals exact ⟨ret_int (by omega), ((Below.refl _ _).alloc (Nat.le_refl _) _).alloc (by simp) _⟩
  by_cases w1 : way = 1
  · subst w1
    rw [farI_1]
    go_enter Try.func61, Try.ntmps61
    go_wp2
    all_goals go_ret
    all_goals exact ⟨ret_int (by omega), ((Below.refl _ _).alloc (Nat.le_refl _) _).alloc (by simp) _⟩
  · rw [farI_2 x y u v w0 w1]
    have b0 : (way == 0) = false := beq_eq_false_iff_ne.2 w0
    have b1 : (way == 1) = false := beq_eq_false_iff_ne.2 w1
    clear w0 w1
    go_enter Try.func61, Try.ntmps61
    go_wp2
    all_goals go_ret
    all_goals exact ⟨ret_int (by omega), ((Below.refl _ _).alloc (Nat.le_refl _) _).alloc (by simp) _⟩

end Go.Proofs.Ytfofmfkdkihhbad
