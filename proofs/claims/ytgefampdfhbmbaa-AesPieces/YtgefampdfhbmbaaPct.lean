/- AesPieces of a mask that is a number. -/
import Derived.Test.YtgefampdfhbmbaaPcs
namespace Go.Proofs.Ytgefampdfhbmbaa
open Go.RowKit
set_option linter.unusedVariables false

theorem aesPieces_nat (l s d : List UInt8) (hd : d.length ≤ 140737488355100) (c1 c2 : Int) (m : Nat) (hm : m < 256) (v x u : Value) (w : World) (hv : SlAt w v l) (hx : SlAt w x s) (hu : SlAt w u d) : Calls Try.prog 8 #[v, x, u, .int .i64 c1, .int .i64 c2, .int .u8 (m : Int)] w fun e w' => e = .returned (.bool true) ∧ Below w.heap.size w w' := by
  have h := aesPieces_any l s d hd c1 c2 (UInt8.ofNat m) v x u w hv hx hu
  rwa [u8_nat hm] at h
end Go.Proofs.Ytgefampdfhbmbaa
