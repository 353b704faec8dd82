/- How the arguments read. -/
import Derived.Test.YtjmaejdkdpiigaaRow
import Derived.Lib.SmallJoins
namespace Go.Proofs.Ytjmaejdkdpiigaa
end Go.Proofs.Ytjmaejdkdpiigaa
