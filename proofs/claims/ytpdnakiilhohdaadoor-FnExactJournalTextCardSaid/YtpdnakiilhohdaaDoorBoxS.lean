/- BoxOf of the model. No conditions but those typed. -/
import Derived.Test.YtpdnakiilhohdaaDoorBox
import Derived.Test.YtpdnakiilhohdaaDoorPicWalk
import Derived.Deep.LoopGhost
namespace Go.Proofs.YtpdnakiilhohdaaDoor
open Go.RowKit Go.Sort

end Go.Proofs.YtpdnakiilhohdaaDoor
