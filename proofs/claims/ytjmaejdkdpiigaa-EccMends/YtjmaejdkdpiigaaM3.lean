/- EccMends of any numbers. -/
import Derived.Test.YtjmaejdkdpiigaaM2
namespace Go.Proofs.Ytjmaejdkdpiigaa
open Go.RowKit
theorem mends_any (x : Int) (d : Nat) (hd : d < 18446744073709551616) (a b : Int) (ha1 : -9223372036854775808 ≤ a) (ha2 : a < 9223372036854775808) (hb1 : -9223372036854775808 ≤ b) (hb2 : b < 9223372036854775808) (w : World) : Calls Try.prog 5 #[.int .i64 x, .int .u64 (d : Int), .int .i64 a, .int .i64 b] w fun e w' => e = .returned (.bool true) ∧ Below w.heap.size w w' := by
  rcases wid_or x with h | ⟨W, r, h, rfl⟩
  · exact mends_none x d a b 0 (fun w => bits_no h w) (fun w => encode_no h d w) w
  · by_cases hD : d < 2 ^ W
    · exact mends_main h d hD a b ha1 ha2 hb1 hb2 w
    · exact mends_none _ d a b _ (fun w => bits_ok h w) (fun w => encode_big h d hD hd w) w
end Go.Proofs.Ytjmaejdkdpiigaa
