/- CommonOf and WithinOk of the model. No conditions but those typed. -/
import Derived.Test.YtfofmfkdkihhbadUnionS
namespace Go.Proofs.Ytfofmfkdkihhbad
open Go.RowKit Go.Sort

end Go.Proofs.Ytfofmfkdkihhbad
