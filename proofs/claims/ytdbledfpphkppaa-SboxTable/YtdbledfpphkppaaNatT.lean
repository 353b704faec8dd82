/- A walked law, at numbers. -/
import Derived.Test.YtdbledfpphkppaaTbl
namespace Go.Proofs.Ytdbledfpphkppaa
open Go.RowKit
theorem table_nat (b : Nat) (hb : b < 256) (w : World) : Calls Try.prog 6 #[.int .u8 (b : Int)] w fun e w' => e = .returned (.bool true) ∧ Below w.heap.size w w' := by
  have := table_any (UInt8.ofNat b) w
  rw [u8_nat hb] at this; exact this
end Go.Proofs.Ytdbledfpphkppaa
