/- CommonOf and WithinOk of the model. No conditions but those typed. -/
import Derived.Test.YtbbeinhjkfjipaaUnionS
namespace Go.Proofs.Ytbbeinhjkfjipaa
open Go.RowKit Go.Sort

end Go.Proofs.Ytbbeinhjkfjipaa
