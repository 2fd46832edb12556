/- The contract of the program's 'added'. No conditions but those typed. -/
import Derived.Test.YtbdmppejflokaaaBasic
namespace Go.Proofs.Ytbdmppejflokaaa
open Go.RowKit
theorem added_any (x y u v : Int) (w : World) : Calls Try.prog 51 #[.agg #[.int .i64 x, .int .i64 y], .agg #[.int .i64 u, .int .i64 v]] w (Gives (.agg #[.int .i64 (wrap64 (x + u)), .int .i64 (wrap64 (y + v))]) w) := by
  go_enter Try.func51, Try.ntmps51
  go_wp2
  refine bodyPost_ret (v := .agg #[.int .i64 (wrap64 (x + u)), .int .i64 (wrap64 (y + v))]) (by simp [results, Try.results51, go_sem]) rfl ⟨rfl, ?_⟩
  exact (((Below.refl _ _).alloc (Nat.le_refl _) _).alloc (by simp) _).alloc (by simp; omega) _
theorem added_in (x y u v : Int) (w : World) (h : -1000 ≤ x ∧ x ≤ 1000 ∧ -1000 ≤ y ∧ y ≤ 1000) (k : -1000 ≤ u ∧ u ≤ 1000 ∧ -1000 ≤ v ∧ v ≤ 1000) : Calls Try.prog 51 #[.agg #[.int .i64 x, .int .i64 y], .agg #[.int .i64 u, .int .i64 v]] w (Gives (.agg #[.int .i64 (x + u), .int .i64 (y + v)]) w) := by
  have c := added_any x y u v w
  rwa [IntWalk.wrap64_in _ (by omega), IntWalk.wrap64_in _ (by omega)] at c
theorem added_sw (x y u v : Int) (w : World) (h : -1000 ≤ x ∧ x ≤ 1000 ∧ -1000 ≤ y ∧ y ≤ 1000) (k : -1000 ≤ u ∧ u ≤ 1000 ∧ -1000 ≤ v ∧ v ≤ 1000) : Calls Try.prog 51 #[.agg #[.int .i64 x, .int .i64 y], .agg #[.int .i64 u, .int .i64 v]] w (Gives (.agg #[.int .i64 (u + x), .int .i64 (v + y)]) w) := by
  have c := added_in x y u v w h k
  rwa [Int.add_comm x u, Int.add_comm y v] at c
end Go.Proofs.Ytbdmppejflokaaa
