/- How the arguments read. -/
import Derived.Test.YtfecadongbmfhabRow
import Derived.Lib.SmallJoins
namespace Go.Proofs.Ytfecadongbmfhab
end Go.Proofs.Ytfecadongbmfhab
