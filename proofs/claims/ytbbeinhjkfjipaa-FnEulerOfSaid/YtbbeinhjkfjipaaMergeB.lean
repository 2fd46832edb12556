/- The program's merge with 'both': what is common to two lists in order. No conditions but those typed. -/
import Derived.Test.YtbbeinhjkfjipaaMerge
namespace Go.Proofs.Ytbbeinhjkfjipaa
open Go.RowKit Go.Sort
end Go.Proofs.Ytbbeinhjkfjipaa
