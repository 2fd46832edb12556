/- The contract of the program's 'added'. No conditions but those typed. -/
import Derived.Test.YtebgcmnajkophaaBasic
namespace Go.Proofs.Ytebgcmnajkophaa
open Go.RowKit
end Go.Proofs.Ytebgcmnajkophaa
