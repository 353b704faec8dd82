/- How the arguments read. -/
import Derived.Test.YtfecadongbmfhaaRow
import Derived.Lib.SmallJoins
namespace Go.Proofs.Ytfecadongbmfhaa
end Go.Proofs.Ytfecadongbmfhaa
