/- The program's merge with 'either': the union of two lists in order. No conditions but those typed. -/
import Derived.Test.YtgdifenicjgfjaaMerge
namespace Go.Proofs.Ytgdifenicjgfjaa
open Go.RowKit Go.Sort
end Go.Proofs.Ytgdifenicjgfjaa
