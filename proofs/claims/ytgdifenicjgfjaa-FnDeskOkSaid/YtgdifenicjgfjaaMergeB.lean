/- The program's merge with 'both': what is common to two lists in order. No conditions but those typed. -/
import Derived.Test.YtgdifenicjgfjaaMerge
namespace Go.Proofs.Ytgdifenicjgfjaa
open Go.RowKit Go.Sort
end Go.Proofs.Ytgdifenicjgfjaa
