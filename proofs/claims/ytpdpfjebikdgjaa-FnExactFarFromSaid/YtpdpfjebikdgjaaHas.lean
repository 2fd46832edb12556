/- Searching a list in order by halves: the model's l1Has and HasSpot, Go's BinarySearchFunc with the program's comparison, and the program's HasSpot. No conditions but those typed. -/
import Derived.Test.YtpdpfjebikdgjaaPics2
import Derived.Test.YtpdpfjebikdgjaaMem
import Derived.Test.YtpdpfjebikdgjaaPicWalk
import Derived.Test.YtpdpfjebikdgjaaSpicWalk
namespace Go.Proofs.Ytpdpfjebikdgjaa
open Go.RowKit Go.Sort

theorem box_below (w : World) (cs : Array Value) (t : TypeId) : Below w.heap.size w (w.alloc (.cells cs t)) := (Below.refl _ _).alloc (Nat.le_refl _) _

end Go.Proofs.Ytpdpfjebikdgjaa
