/- the document's own answers of layer 9 -/
import Derived.Test.YtchcgiapjhmflaaR08
import Derived.Test.YtchcgiapjhmflaaMB
set_option maxRecDepth 100000
namespace Go.Proofs.Ytchcgiapjhmflaa.R09
open Go.RowKit PlanM StripeM

end Go.Proofs.Ytchcgiapjhmflaa.R09
