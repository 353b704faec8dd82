/- Add of the document. -/
import Derived.Test.YtiipfljdkbdbbaaAlg
import Derived.Test.YtiipfljdkbdbbaaAlh
import Derived.Test.YtiipfljdkbdbbaaAli
import Derived.Test.YtiipfljdkbdbbaaAlj
namespace Go.Proofs.Ytiipfljdkbdbbaa
open Go.RowKit
set_option linter.unusedVariables false

theorem refAdd_any (a b p : Nat) (ha : a < 256) (hb : b < 256) (hp : p < 256) : W1 17 #[.int .u8 (a : Int), .int .u8 (b : Int), .int .u8 (p : Int)] (.tuple #[.int .u8 (addV a b p : Int), .int .u8 (addF a b p : Int)]) := by
  cases hD : dD p
  · cases qa : b7 a <;> cases qb : b7 b
    · exact refAdd_noFF a b p ha hb hp hD qa qb
    · exact refAdd_noFT a b p ha hb hp hD qa qb
    · exact refAdd_noTF a b p ha hb hp hD qa qb
    · exact refAdd_noTT a b p ha hb hp hD qa qb
  · by_cases h : 159 < hA a b p
    · cases qa : b7 a <;> cases qb : b7 b
      · exact refAdd_upFF a b p ha hb hp hD h qa qb
      · exact refAdd_upFT a b p ha hb hp hD h qa qb
      · exact refAdd_upTF a b p ha hb hp hD h qa qb
      · exact refAdd_upTT a b p ha hb hp hD h qa qb
    · cases qa : b7 a <;> cases qb : b7 b
      · exact refAdd_lowFF a b p ha hb hp hD h qa qb
      · exact refAdd_lowFT a b p ha hb hp hD h qa qb
      · exact refAdd_lowTF a b p ha hb hp hD h qa qb
      · exact refAdd_lowTT a b p ha hb hp hD h qa qb
end Go.Proofs.Ytiipfljdkbdbbaa
