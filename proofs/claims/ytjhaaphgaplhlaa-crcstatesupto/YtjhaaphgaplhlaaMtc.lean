/- Plain facts of CRC-32 with its register turned round. -/
import Derived.Test.YtjhaaphgaplhlaaFnd
namespace Go.Proofs.Ytjhaaphgaplhlaa
open Go
set_option linter.unusedVariables false

theorem m32_is : m32.w = 32 ∧ m32.P = 79764919 ∧ m32.I = 4294967295 ∧ m32.inn = true ∧ m32.out = true ∧ m32.X = 4294967295 := by decide
theorem t32_rule : ∀ b : Fin 256, rev (runB 32 79764919 0 (bitsOf true b.val)) 32 = t32 b.val := by decide +kernel
theorem first_bits {r : Nat} (hr : r < 2 ^ 32) : bitsOf true (rev r 32 % 256) = topB 32 r 8 := by
  apply List.ext_getElem?
  intro i
  by_cases hi : i < 8
  · rw [bitsOf_get _ _ i hi, topB_get 32 8 r i hi hr, show (256 : Nat) = 2 ^ 8 from rfl]
    simp only [if_true]
    rw [Nat.testBit_mod_two_pow, rev_testBit, decide_eq_true hi, decide_eq_true (show i < 32 by omega)]
    rfl
  · rw [List.getElem?_eq_none (by rw [bitsOf_length]; omega), List.getElem?_eq_none (by rw [topB_length]; omega)]
theorem rev_up (r : Nat) : rev ((r * 256) % 2 ^ 32) 32 = rev r 32 / 256 := by
  apply Nat.eq_of_testBit_eq; intro j
  rw [show rev r 32 / 256 = rev r 32 / 2 ^ 8 from rfl, Nat.testBit_div_two_pow, rev_testBit, rev_testBit, Nat.testBit_mod_two_pow, show r * 256 = r * 2 ^ 8 from rfl, Nat.testBit_mul_two_pow]
  by_cases h : j + 8 < 32
  · rw [decide_eq_true h, decide_eq_true (show j < 32 by omega), decide_eq_true (show 32 - 1 - j < 32 by omega), decide_eq_true (show 32 - 1 - j ≥ 8 by omega), show 32 - 1 - j - 8 = 32 - 1 - (j + 8) by omega]; rfl
  · rw [decide_eq_false h, decide_eq_false (show ¬ 32 - 1 - j ≥ 8 by omega)]; simp
theorem s32_step {r c : Nat} (hr : r < 2 ^ 32) (hc : c < 256) : rev (runB 32 79764919 r (bitsOf true c)) 32 = rev r 32 / 256 ^^^ t32 ((rev r 32 % 256) ^^^ c) := by
  rw [run_byte hr (first_bits hr), rev_xor, rev_up]
  have h1 : (rev r 32 % 256) ^^^ c < 256 := xor_lt (w := 8) (Nat.mod_lt _ (by decide)) hc
  rw [t32_rule ⟨_, h1⟩]
theorem s32_first : rev 4294967295 32 = 4294967295 := by decide +kernel
end Go.Proofs.Ytjhaaphgaplhlaa
