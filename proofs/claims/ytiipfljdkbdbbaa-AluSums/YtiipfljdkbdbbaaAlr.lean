/- Sub of the document. -/
import Derived.Test.YtiipfljdkbdbbaaAln
import Derived.Test.YtiipfljdkbdbbaaAlo
import Derived.Test.YtiipfljdkbdbbaaAlp
import Derived.Test.YtiipfljdkbdbbaaAlq
namespace Go.Proofs.Ytiipfljdkbdbbaa
open Go.RowKit
set_option linter.unusedVariables false

theorem refSub_any (a b p : Nat) (ha : a < 256) (hb : b < 256) (hp : p < 256) : W1 19 #[.int .u8 (a : Int), .int .u8 (b : Int), .int .u8 (p : Int)] (.tuple #[.int .u8 (subV a b p : Int), .int .u8 (subF a b p : Int)]) := by
  cases hD : dD p
  · cases qa : b7 a <;> cases qb : b7 b
    · exact refSub_noFF a b p ha hb hp hD qa qb
    · exact refSub_noFT a b p ha hb hp hD qa qb
    · exact refSub_noTF a b p ha hb hp hD qa qb
    · exact refSub_noTT a b p ha hb hp hD qa qb
  · by_cases h : hS a b p < 0
    · cases qa : b7 a <;> cases qb : b7 b
      · exact refSub_negFF a b p ha hb hp hD h qa qb
      · exact refSub_negFT a b p ha hb hp hD h qa qb
      · exact refSub_negTF a b p ha hb hp hD h qa qb
      · exact refSub_negTT a b p ha hb hp hD h qa qb
    · cases qa : b7 a <;> cases qb : b7 b
      · exact refSub_posFF a b p ha hb hp hD h qa qb
      · exact refSub_posFT a b p ha hb hp hD h qa qb
      · exact refSub_posTF a b p ha hb hp hD h qa qb
      · exact refSub_posTT a b p ha hb hp hD h qa qb
end Go.Proofs.Ytiipfljdkbdbbaa
