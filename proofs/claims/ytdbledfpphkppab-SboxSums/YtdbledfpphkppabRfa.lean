/- What the document's Column answers. -/
import Derived.Test.YtdbledfpphkppabRf9
namespace Go.Proofs.Ytdbledfpphkppab
open Go.RowKit
set_option linter.unusedVariables false

theorem col_cells {w : World} {g : Nat} {a b c d : Value} {ty : TypeId} (h : w.heap[g]? = some (.cells #[a, b, c, d] ty (0, 0))) :
    w.cell? ⟨g, 0, none⟩ = some a ∧ w.cell? ⟨g, 1, none⟩ = some b ∧ w.cell? ⟨g, 2, none⟩ = some c ∧ w.cell? ⟨g, 3, none⟩ = some d := by
  refine ⟨?_, ?_, ?_, ?_⟩ <;> (rw [cell_of_row _ _ _ _ _ _ h]; rfl)
theorem or_lt32 {a b : Nat} (ha : a < 4294967296) (hb : b < 4294967296) : a ||| b < 4294967296 := Nat.or_lt_two_pow (n := 32) ha hb
def wordS (m : Nat → UInt8) : Nat := (m 0).toNat * 16777216 ||| (m 1).toNat * 65536 ||| (m 2).toNat * 256 ||| (m 3).toNat
def oneC (b : UInt8) (i : Nat) : UInt8 := if i = 0 then b else 0
def colS (b : UInt8) : Nat := wordS (mixS (oneC (subS b)) mixM)
end Go.Proofs.Ytdbledfpphkppab
