/- Plain facts of the document's Encode: the check bits one by one. -/
import Derived.Test.YtjmaejdkdpiigaaW3
namespace Go.Proofs.Ytjmaejdkdpiigaa
open Go.RowKit
set_option linter.unusedVariables false

theorem px_bit (d n i : Nat) : (pxTo d (n + 1)).testBit i = ((pxTo d n).testBit i ^^ (d.testBit n && (posS n).testBit i)) := by
  show (pxTo d n ^^^ (if d.testBit n then posS n else 0)).testBit i = _
  rw [Nat.testBit_xor]
  cases d.testBit n <;> simp
theorem chk_step : ∀ P < 128, ∀ i < 8, P % 2 ^ i ||| (P.testBit i).toNat * 2 ^ i = P % 2 ^ (i + 1) ∧ P % 2 ^ (i + 1) < 128 ∧ (P.testBit i).toNat * 2 ^ i < 256 := by decide +kernel
theorem par_step5 (n : Nat) (b : Bool) : (n % 2) ^^^ b.toNat = (n + b.toNat) % 2 := by
  rcases Nat.mod_two_eq_zero_or_one n with h | h <;> cases b <;> simp [h] <;> omega
theorem bit_i64 (p i : Nat) (hp : p < 128) : bits .and .i64 ((p : Int) / 2 ^ i) 1 = ((p.testBit i).toNat : Int) := by
  have h1 : (p : Int) / 2 ^ i = ((p / 2 ^ i : Nat) : Int) := by simp
  have h2 : p / 2 ^ i ≤ p := Nat.div_le_self _ _
  show IntKind.i64.wrap ((BitVec.ofInt 64 ((p : Int) / 2 ^ i) &&& BitVec.ofInt 64 (1 : Int)).toNat : Int) = _
  rw [h1, show (1 : Int) = ((1 : Nat) : Int) from rfl, BitVec.toNat_and, ofInt_u64 _ (by omega), ofInt_u64 1 (by omega), Nat.and_one_is_mod, bit_nat, IntKind.wrap_i64]
  have := Bool.toNat_le (p.testBit i)
  omega
end Go.Proofs.Ytjmaejdkdpiigaa
