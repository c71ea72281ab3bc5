/- the document's own answers of layer 9 -/
import Derived.Test.YtcnhfbahnbnnlaaR08
import Derived.Test.YtcnhfbahnbnnlaaMB
set_option maxRecDepth 100000
namespace Go.Proofs.Ytcnhfbahnbnnlaa.R09
open Go.RowKit PlanM StripeM

end Go.Proofs.Ytcnhfbahnbnnlaa.R09
