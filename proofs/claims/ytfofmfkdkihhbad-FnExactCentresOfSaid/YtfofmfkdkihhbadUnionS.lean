/- UnionOf, CommonOf and WithinOk of the model. No conditions but those typed. -/
import Derived.Test.YtfofmfkdkihhbadUnion
import Derived.Test.YtfofmfkdkihhbadPut
import Derived.Test.YtfofmfkdkihhbadPicWalk
namespace Go.Proofs.Ytfofmfkdkihhbad
open Go.RowKit Go.Sort

theorem puts_take {p q : List Sp} {k : Nat} {a : Sp} (h : q[k]? = some a) : puts p (q.take (k + 1)) = put (puts p (q.take k)) a := by
  unfold puts
  rw [List.take_add_one, h]
  simp
theorem common_take {p q : List Sp} {k : Nat} {a : Sp} (h : p[k]? = some a) : common (p.take (k + 1)) q = common (p.take k) q ++ (if a ∈ q then [a] else []) := by
  unfold common
  rw [List.take_add_one, h, List.filter_append]
  by_cases hm : a ∈ q <;> simp [hm]


end Go.Proofs.Ytfofmfkdkihhbad
