/- the contracts of package blind -/
import Derived.Test.YtchcgiapjhmflaaMS
import Derived.Test.YtchcgiapjhmflaaBlindMath
import Derived.Test.YtchcgiapjhmflaaGf
import Derived.Test.YtchcgiapjhmflaaBlindB
import Derived.Test.YtchcgiapjhmflaaBlindE
set_option maxRecDepth 100000
namespace Go.Proofs.Ytchcgiapjhmflaa.Blind
/-- what the contracts are: cost_any, blind_any, find_any -/
theorem all_here : True := trivial
end Go.Proofs.Ytchcgiapjhmflaa.Blind
