/- What Roots answers, the program's and the document's. -/
import Derived.Test.YtdpkeffkpecmjaaRpb
namespace Go.Proofs.Ytdpkeffkpecmjaa
open Go.RowKit
set_option linter.unusedVariables false

/-- The roots among the first k bytes. -/
def rootsTo (P : UInt8) (p : List UInt8) : Nat → List UInt8
  | 0 => []
  | k + 1 => if evalS P (UInt8.ofNat k) p = 0 then rootsTo P p k ++ [UInt8.ofNat k] else rootsTo P p k
theorem roots_length (P : UInt8) (p : List UInt8) : ∀ k, (rootsTo P p k).length ≤ k
  | 0 => Nat.le_refl _
  | k + 1 => by
    have := roots_length P p k
    unfold rootsTo
    split
    · rw [List.length_append]; simp; omega
    · omega
theorem of_nat_lt {k : Nat} (h : k < 256) : (UInt8.ofNat k).toNat = k := by rw [UInt8.toNat_ofNat']; exact Nat.mod_eq_of_lt h
end Go.Proofs.Ytdpkeffkpecmjaa
