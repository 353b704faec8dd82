/- Texts of one proof, one behind the other. -/
import Derived.Test.YtdpkeffkpecmjaaRpa
/- What the document's Times answers. -/
namespace Go.Proofs.Ytdpkeffkpecmjaa
open Go.RowKit
set_option linter.unusedVariables false

end Go.Proofs.Ytdpkeffkpecmjaa
/- What the document's Divide answers. -/
namespace Go.Proofs.Ytdpkeffkpecmjaa
open Go.RowKit
set_option linter.unusedVariables false

theorem RowAt.putx {w : World} {g k : Nat} {L : List UInt8} (h : RowAt w g L) (hn : g ≠ k) (i : Nat) (v : Value) : RowAt (w.setCell ⟨k, i, none⟩ v) g L := (Below.heap_setCell w ⟨k, i, none⟩ v g hn).trans h
theorem RowX.but {w w' : World} {g h : Nat} {L : List UInt8} (hr : RowX w g L) (hb : ∀ k, k < w.heap.size → k ≠ h → w'.heap[k]? = w.heap[k]?) (hn : g ≠ h) : RowX w' g L := by
  obtain ⟨cs, hr⟩ := hr
  exact ⟨cs, (hb g (row_lt hr) hn).trans hr⟩
end Go.Proofs.Ytdpkeffkpecmjaa
