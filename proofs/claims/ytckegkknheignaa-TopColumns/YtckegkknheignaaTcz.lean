/- TopColumns: all keys and blocks. -/
import Derived.Test.YtckegkknheignaaTcx
namespace Go.Proofs.Ytckegkknheignaa
open Go.RowKit

theorem topColumns_any (l o : List UInt8) (v x : Value) (w : World) (hv : SlAt w v l) (hx : SlAt w x o) : Calls Try.prog 3 #[v, x] w fun e w' => e = .returned (.bool true) ∧ Below w.heap.size w w' := by
  by_cases hk : l.length = 16 ∨ l.length = 24 ∨ l.length = 32
  · have hn : l.length / 4 = 4 ∨ l.length / 4 = 6 ∨ l.length / 4 = 8 := by omega
    have hl : l.length = 4 * (l.length / 4) := by omega
    by_cases ho : o.length = 16
    · exact top_yes l o (l.length / 4) hn hl ho v x w hv hx.by'
    · exact top_block l o (l.length / 4) hn hl ho v x w hv hx.by'
  · exact top_no l (by omega) (by omega) (by omega) v x w hv.by'
end Go.Proofs.Ytckegkknheignaa
