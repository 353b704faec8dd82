/- SboxBack, at numbers. -/
import Derived.Test.YtdbledfpphkppaaBck
namespace Go.Proofs.Ytdbledfpphkppaa
open Go.RowKit
theorem back_nat (b : Nat) (hb : b < 256) (c d : Nat → UInt8) (w : World) : Calls Try.prog 7 #[.int .u8 (b : Int), .agg (colR c), .agg (colR d)] w fun e w' => e = .returned (.bool true) ∧ Below w.heap.size w w' := by
  have := back_any (UInt8.ofNat b) c d w
  rw [u8_nat hb] at this; exact this
end Go.Proofs.Ytdbledfpphkppaa
