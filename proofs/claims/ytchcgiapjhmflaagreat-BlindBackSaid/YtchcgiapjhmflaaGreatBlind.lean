/- the contracts of package blind -/
import Derived.Test.YtchcgiapjhmflaaGreatMS
import Derived.Test.YtchcgiapjhmflaaGreatBlindMath
import Derived.Test.YtchcgiapjhmflaaGreatGf
import Derived.Test.YtchcgiapjhmflaaGreatBlindB
import Derived.Test.YtchcgiapjhmflaaGreatBlindE
set_option maxRecDepth 100000
namespace Go.Proofs.YtchcgiapjhmflaaGreat.Blind
/-- what the contracts are: cost_any, blind_any, find_any -/
theorem all_here : True := trivial
end Go.Proofs.YtchcgiapjhmflaaGreat.Blind
