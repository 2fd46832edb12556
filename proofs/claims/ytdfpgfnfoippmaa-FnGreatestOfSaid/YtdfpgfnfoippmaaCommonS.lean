/- CommonOf and WithinOk of the model. No conditions but those typed. -/
import Derived.Test.YtdfpgfnfoippmaaUnionS
namespace Go.Proofs.Ytdfpgfnfoippmaa
open Go.RowKit Go.Sort

end Go.Proofs.Ytdfpgfnfoippmaa
