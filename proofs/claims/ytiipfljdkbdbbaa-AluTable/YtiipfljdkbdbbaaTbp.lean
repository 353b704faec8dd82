/- Plain: the words of the table. -/
import Derived.Test.YtiipfljdkbdbbaaAqp
namespace Go.Proofs.Ytiipfljdkbdbbaa
set_option linter.unusedVariables false

def f0 (v : Nat) : Nat := fl v 0
def upN (v : Nat) : Nat := v * 2 % 256
def dnN (v : Nat) : Nat := v / 2
def dgN (v : Nat) : Nat := dig (loN v)
def w1 (v : Nat) : Nat := f0 v + upN v * 256
def w2 (v : Nat) : Nat := w1 v + dnN v * 65536
def wdN (v : Nat) : Nat := w2 v + dgN v * 16777216
theorem w_lt : ∀ v < 256, f0 v < 256 ∧ upN v < 256 ∧ dnN v < 128 ∧ dgN v < 22 ∧ w1 v < 65536 ∧ w2 v < 8388608 ∧ wdN v < 4294967296 := by decide +kernel
theorem dg_is : ∀ v < 256, dgN v = if 9 < v % 16 then v % 16 + 6 else v % 16 := by decide +kernel
theorem f0_is : ∀ v < 256, f0 v = if v = 0 then 2 else v / 128 * 128 := by decide +kernel
end Go.Proofs.Ytiipfljdkbdbbaa
