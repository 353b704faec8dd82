/- A walked law, at numbers. -/
import Derived.Test.YtdbledfpphkppaaPrt
namespace Go.Proofs.Ytdbledfpphkppaa
open Go.RowKit
theorem parts_nat (b : Nat) (hb : b < 256) (c : Nat → UInt8) (n : Int) (hn : n < 9223372036854775808) (w : World) : Calls Try.prog 3 #[.int .u8 (b : Int), .agg (colR c), .int .i64 n] w fun e w' => e = .returned (.bool true) ∧ Below w.heap.size w w' := by
  have := parts_any (UInt8.ofNat b) c n hn w
  rw [u8_nat hb] at this; exact this
end Go.Proofs.Ytdbledfpphkppaa
