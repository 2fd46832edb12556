/- The program's told: what it is handed, and true, or nothing and false. No conditions but those typed. -/
import Derived.Test.YtgdifenicjgfjaaPicWalk
import Derived.Test.YtgdifenicjgfjaaMem
namespace Go.Proofs.Ytgdifenicjgfjaa
open Go.RowKit Go.Sort

end Go.Proofs.Ytgdifenicjgfjaa
