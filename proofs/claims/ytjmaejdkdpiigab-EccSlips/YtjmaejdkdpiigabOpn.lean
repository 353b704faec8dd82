/- How the arguments read. -/
import Derived.Test.YtjmaejdkdpiigabRow
import Derived.Lib.SmallJoins
namespace Go.Proofs.Ytjmaejdkdpiigab
end Go.Proofs.Ytjmaejdkdpiigab
