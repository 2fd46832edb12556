/- The name of the table of powers of ten, as a row lists it. -/
import Derived.Test.YtpdnakiilhohdaaDoorRows
namespace Go.Proofs.YtpdnakiilhohdaaDoor
def powName : String := Rows.fnDeedTextRow.named.headD default
end Go.Proofs.YtpdnakiilhohdaaDoor
