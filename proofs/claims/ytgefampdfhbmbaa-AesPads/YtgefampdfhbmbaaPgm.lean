/- What the program's calls answer, all of them. -/
import Derived.Test.YtgefampdfhbmbaaMi
import Derived.Test.YtgefampdfhbmbaaAsi
import Derived.Test.YtgefampdfhbmbaaAsc
import Derived.Test.YtgefampdfhbmbaaMk
import Derived.Test.YtgefampdfhbmbaaMl
import Derived.Test.YtgefampdfhbmbaaMm
import Derived.Test.YtgefampdfhbmbaaMn
import Derived.Test.YtgefampdfhbmbaaPxs
import Derived.Test.YtgefampdfhbmbaaMq
namespace Go.Proofs.Ytgefampdfhbmbaa
end Go.Proofs.Ytgefampdfhbmbaa
