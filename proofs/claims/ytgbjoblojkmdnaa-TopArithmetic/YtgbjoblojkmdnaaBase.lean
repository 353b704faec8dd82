/- The knobs of the program, for every row. -/
import Derived.Test.YtgbjoblojkmdnaaChecked
import Derived.ProofKit
import Derived.OpenShut
import Derived.ShutString
import Derived.ChangeOld
import Derived.SizedLaws
namespace Go.Proofs.Ytgbjoblojkmdnaa
open Go.RowKit
theorem Try.own0 : ownKnob Try.prog.godebug = none := by kernel_rfl
theorem Try.laid0 : laidOutB Try.prog = true := by kernel_rfl
end Go.Proofs.Ytgbjoblojkmdnaa
