/- the contracts of package label, together -/
import Derived.Test.YtjfjflkflnebgaaLabelC
import Derived.Test.YtjfjflkflnebgaaLabelD
import Derived.Test.YtjfjflkflnebgaaLabelE
