/- CommonOf and WithinOk of the model. No conditions but those typed. -/
import Derived.Test.YtjmhmaijfhljlabUnionS
namespace Go.Proofs.Ytjmhmaijfhljlab
open Go.RowKit Go.Sort

end Go.Proofs.Ytjmhmaijfhljlab
