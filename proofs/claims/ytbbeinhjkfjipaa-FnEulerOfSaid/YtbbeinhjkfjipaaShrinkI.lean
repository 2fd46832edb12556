/- GrownShrunk, ShrunkGrown and FitsAt of the program. No conditions but those typed. -/
import Derived.Test.YtbbeinhjkfjipaaShrunkI
import Derived.Test.YtbbeinhjkfjipaaSumI
import Derived.Test.YtbbeinhjkfjipaaHas2
import Derived.Laws.EntriesVeiled
namespace Go.Proofs.Ytbbeinhjkfjipaa
open Go.RowKit Go.Sort

/-! ### growing and shrinking as a pair -/
end Go.Proofs.Ytbbeinhjkfjipaa
