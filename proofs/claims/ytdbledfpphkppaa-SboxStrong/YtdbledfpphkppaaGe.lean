/- Texts of one proof, one behind the other. -/
import Derived.Test.YtdbledfpphkppaaGc
import Derived.Test.YtdbledfpphkppaaGd
/- SboxStrong, walked. -/
namespace Go.Proofs.Ytdbledfpphkppaa
open Go.RowKit
theorem strong_at (x y : UInt8) (b : Int) (w : World) : Calls Try.prog 8 #[.int .u8 (x.toNat : Int), .int .u8 (y.toNat : Int), .int .i64 b] w fun e w' => e = .returned (.bool true) ∧ Below w.heap.size w w' := by
  by_cases hx0 : x.toNat = 0
  · have hd : diffS sbN x.toNat y.toNat = 0 ∨ diffS sbN x.toNat y.toNat = 256 := by rw [hx0]; exact diff_zero sbN y.toNat
    by_cases hy0 : y.toNat = 0
    · rcases hd with h | h
      · exact strong_1 x y hx0 hy0 h b w
      · exact strong_3 x y hx0 hy0 h b w
    · rcases hd with h | h
      · exact strong_2 x y hx0 hy0 h b w
      · exact strong_4 x y hx0 hy0 h b w
  · by_cases hy0 : y.toNat = 0
    · exact strong_5 x y hx0 hy0 b w
    · exact strong_6 x y hx0 hy0 b w
end Go.Proofs.Ytdbledfpphkppaa
/- A walked law, at numbers. -/
namespace Go.Proofs.Ytdbledfpphkppaa
open Go.RowKit
theorem strong_nat (x y : Nat) (hx : x < 256) (hy : y < 256) (b : Int) (w : World) : Calls Try.prog 8 #[.int .u8 (x : Int), .int .u8 (y : Int), .int .i64 b] w fun e w' => e = .returned (.bool true) ∧ Below w.heap.size w w' := by
  have := strong_at (UInt8.ofNat x) (UInt8.ofNat y) b w
  rw [u8_nat hx, u8_nat hy] at this; exact this
end Go.Proofs.Ytdbledfpphkppaa
