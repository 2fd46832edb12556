/- UnionOf, CommonOf and WithinOk of the program. No conditions but those typed. -/
import Derived.Test.YtgdifenicjgfjaaMergeE
import Derived.Test.YtgdifenicjgfjaaTold
import Derived.Test.YtgdifenicjgfjaaMergeB
import Derived.Test.YtgdifenicjgfjaaPlain
namespace Go.Proofs.Ytgdifenicjgfjaa
open Go.RowKit Go.Sort

/-- what is handed back beside a truth -/
def Gives2 (ps : List Sp) (b : Bool) (w : World) (e : Ending) (w' : World) : Prop := ∃ v', e = .returned (.tuple #[v', .bool b]) ∧ Owns w' w.heap.size v' ps ∧ Below w.heap.size w w'
def Gives1 (ps : List Sp) (w : World) (e : Ending) (w' : World) : Prop := ∃ v', e = .returned v' ∧ Owns w' w.heap.size v' ps ∧ Below w.heap.size w w'

end Go.Proofs.Ytgdifenicjgfjaa
