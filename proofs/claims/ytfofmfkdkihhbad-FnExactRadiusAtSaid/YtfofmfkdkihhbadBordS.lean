/- LoneSpots and BorderOf of the model. No conditions but those typed. -/
import Derived.Test.YtfofmfkdkihhbadPlain
import Derived.Test.YtfofmfkdkihhbadFarS
import Derived.Test.YtfofmfkdkihhbadPicWalk
import Derived.Test.YtfofmfkdkihhbadHas
namespace Go.Proofs.Ytfofmfkdkihhbad
open Go.RowKit Go.Sort

theorem far_in {a b : Sp} (h : InR a) (k : InR b) : (-1000 ≤ a.1 ∧ a.1 ≤ 1000 ∧ -1000 ≤ a.2 ∧ a.2 ≤ 1000) ∧ (-1000 ≤ b.1 ∧ b.1 ≤ 1000 ∧ -1000 ≤ b.2 ∧ b.2 ≤ 1000) := by
  unfold InR at h k; omega
theorem far_lit {n x y u v way : Int} {w : World} (hk : farI (x, y) (u, v) way = n) (h : InR (x, y)) (k : InR (u, v)) : Calls Try.prog 61 #[.agg #[.int .i64 x, .int .i64 y], .agg #[.int .i64 u, .int .i64 v], .int .i64 way] w (Gives (.int .i64 n) w) := by
  subst hk; exact l4Far_any x y u v way w (far_in h k).1 (far_in h k).2

end Go.Proofs.Ytfofmfkdkihhbad
