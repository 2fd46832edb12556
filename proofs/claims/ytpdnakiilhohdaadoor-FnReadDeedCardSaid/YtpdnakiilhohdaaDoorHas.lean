/- Searching a list in order by halves: the model's l1Has and HasSpot, Go's BinarySearchFunc with the program's comparison, and the program's HasSpot. No conditions but those typed. -/
import Derived.Test.YtpdnakiilhohdaaDoorPlain
import Derived.Test.YtpdnakiilhohdaaDoorMem
import Derived.Test.YtpdnakiilhohdaaDoorPicWalk
namespace Go.Proofs.YtpdnakiilhohdaaDoor
open Go.RowKit Go.Sort

theorem box_below (w : World) (cs : Array Value) (t : TypeId) : Below w.heap.size w (w.alloc (.cells cs t)) := (Below.refl _ _).alloc (Nat.le_refl _) _

end Go.Proofs.YtpdnakiilhohdaaDoor
