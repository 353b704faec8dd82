/- What the program's ahead answers. -/
import Derived.Test.YtckegkknheignaaPx5
namespace Go.Proofs.Ytckegkknheignaa
open Go.RowKit
set_option linter.unusedVariables false

end Go.Proofs.Ytckegkknheignaa
