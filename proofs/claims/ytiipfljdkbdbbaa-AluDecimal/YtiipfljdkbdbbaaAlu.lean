/- Two decimal digits, in one word for all bytes. -/
import Derived.Test.YtiipfljdkbdbbaaAlt
namespace Go.Proofs.Ytiipfljdkbdbbaa
open Go.RowKit
set_option linter.unusedVariables false

def dcO (a b : Nat) : Bool := pkd a && pkd b
def dcS (a b p : Nat) : Nat := if dcO a b then dO ((dN a : Int) + (dN b : Int) + (cyN p : Int)) else 0
def dcD (a b p : Nat) : Nat := if dcO a b then dO ((dN a : Int) - (dN b : Int) - 1 + (cyN p : Int)) else 0
theorem decimal_any (a b p : Nat) (ha : a < 256) (hb : b < 256) (hp : p < 256) : W1 20 #[.int .u8 (a : Int), .int .u8 (b : Int), .int .u8 (p : Int)] (.tuple #[.int .u8 (dcS a b p : Int), .int .u8 (dcD a b p : Int), .bool (dcO a b)]) := by
  unfold dcS dcD dcO
  cases qa : pkd a
  · exact decimal_na a b p ha hb hp qa
  · cases qb : pkd b
    · exact decimal_nb a b p ha hb hp qa qb
    · exact decimal_yes a b p ha hb hp qa qb
theorem refDecimal_any (a b p : Nat) (ha : a < 256) (hb : b < 256) (hp : p < 256) : W1 21 #[.int .u8 (a : Int), .int .u8 (b : Int), .int .u8 (p : Int)] (.tuple #[.int .u8 (dcS a b p : Int), .int .u8 (dcD a b p : Int), .bool (dcO a b)]) := by
  unfold dcS dcD dcO
  cases qa : pkd a
  · exact refDecimal_na a b p ha hb hp qa
  · cases qb : pkd b
    · exact refDecimal_nb a b p ha hb hp qa qb
    · exact refDecimal_yes a b p ha hb hp qa qb
end Go.Proofs.Ytiipfljdkbdbbaa
