/- the document's own answers of layer 2 -/
import Derived.Test.YtgdgbhjbeldcmaaR01
import Derived.Test.YtgdgbhjbeldcmaaPolyMath
import Derived.Deep.QuietTactic
set_option maxRecDepth 100000
namespace Go.Proofs.Ytgdgbhjbeldcmaa.R02
open Go.RowKit

end Go.Proofs.Ytgdgbhjbeldcmaa.R02
