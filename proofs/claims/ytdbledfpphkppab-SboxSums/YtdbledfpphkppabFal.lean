/- What the document's falling answers. -/
import Derived.Test.YtdbledfpphkppabIsl
namespace Go.Proofs.Ytdbledfpphkppab
open Go.RowKit
set_option linter.unusedVariables false

theorem empty_own (w : World) : (w.alloc (.cells #[] (3 : TypeId))).ownsRow w.heap.size 3 1 (.slice (some ⟨w.heap.size, 0, none⟩) 0 0) 0 [] := full_row (Nat.le_refl _) rfl (by unfold maxLen; omega) (heap_alloc_last _ _)
end Go.Proofs.Ytdbledfpphkppab
