/- the document's own answers of layer 2 -/
import Derived.Test.YtmkadcnommoihaaR01
import Derived.Test.YtmkadcnommoihaaPolyMath
import Derived.Deep.QuietTactic
namespace Go.Proofs.Ytmkadcnommoihaa.R02
open Go.RowKit

end Go.Proofs.Ytmkadcnommoihaa.R02
