/- How the arguments read. -/
import Derived.Test.YtjnfnihhihncmaaRow
import Derived.Lib.SmallJoins
namespace Go.Proofs.Ytjnfnihhihncmaa
end Go.Proofs.Ytjnfnihhihncmaa
