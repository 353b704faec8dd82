/- What the document's New answers. -/
import Derived.Test.YtgefampdfhbmbaaAsc4
import Derived.Test.YtgefampdfhbmbaaAsc6
import Derived.Test.YtgefampdfhbmbaaAsc8
namespace Go.Proofs.Ytgefampdfhbmbaa
open Go.RowKit
set_option linter.unusedVariables false

theorem refNew_any (l : List UInt8) (n : Nat) (hn : n = 4 ∨ n = 6 ∨ n = 8) (hl : l.length = 4 * n) (v : Value) (w : World) (hv : ByAt w v l) : Calls Try.prog 39 #[v] w fun e w' => ∃ b, e = .returned (.tuple #[.pointer (some ⟨b, 0, none⟩), .int .i64 0]) ∧ RcIn w' w.heap.size b n (blk l) ∧ Below w.heap.size w w' := by
  have t : ∀ k : Nat, l.length ≠ k → ((l.length : Int) != k) = true := fun k h => by
    have : ¬ ((l.length : Int) = k) := by omega
    simpa using this
  have f : ∀ k : Nat, l.length = k → ((l.length : Int) != k) = false := fun k h => by
    have : ((l.length : Int) = k) := by omega
    simpa using this
  rcases hn with hn | hn | hn
  · exact refNew_4 l n hn hl (f 16 (by omega)) v w hv
  · exact refNew_6 l n hn hl (t 16 (by omega)) (f 24 (by omega)) v w hv
  · exact refNew_8 l n hn hl (t 16 (by omega)) (t 24 (by omega)) (f 32 (by omega)) v w hv
end Go.Proofs.Ytgefampdfhbmbaa
