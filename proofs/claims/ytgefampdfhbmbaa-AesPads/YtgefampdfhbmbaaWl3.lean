/- The lines of the substitution, a quarter of them, by reckoning. -/
import Derived.Test.YtgefampdfhbmbaaMb
namespace Go.Proofs.Ytgefampdfhbmbaa
theorem lin_3 : ((List.range 64).all fun b => (b + 128 == 0) || linOk (b + 128)) = true := by decide +kernel
end Go.Proofs.Ytgefampdfhbmbaa
