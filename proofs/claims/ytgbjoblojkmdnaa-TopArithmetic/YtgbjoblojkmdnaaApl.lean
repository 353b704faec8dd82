/- Plain: a flag in P, or out of it; the flags of a value; bits and halves of bytes. -/
import Derived.ProofKit
namespace Go.Proofs.Ytgbjoblojkmdnaa
set_option linter.unusedVariables false

/- P, in which the flag is set, or from which it is taken -/
def wi (p f : Nat) (on : Bool) : Nat := if on then p ||| f else p &&& (255 - f)
theorem wi_lt {p f : Nat} (hp : p < 256) (hf : f < 256) (on : Bool) : wi p f on < 256 := by
  unfold wi
  split
  · exact Nat.or_lt_two_pow (n := 8) hp hf
  · exact Nat.lt_of_le_of_lt Nat.and_le_left hp
/- bit 7 of a number -/
def b7 (n : Nat) : Bool := decide (128 ≤ n % 256)
theorem b7_mod (n : Nat) : b7 (n % 256) = b7 n := by unfold b7; rw [Nat.mod_mod]
/- the flags of a value -/
def fl (v p : Nat) : Nat := wi (wi p 128 (decide (128 ≤ v))) 2 (decide (v = 0))
theorem fl_lt {v p : Nat} (hp : p < 256) : fl v p < 256 := wi_lt (wi_lt hp (by decide) _) (by decide) _
/- the ones of d below n -/
def onTo (d : Nat) : Nat → Nat
  | 0 => 0
  | n + 1 => onTo d n + (d.testBit n).toNat
theorem on_le (d : Nat) : ∀ n, onTo d n ≤ n
  | 0 => Nat.le_refl 0
  | n + 1 => by
    show onTo d n + (d.testBit n).toNat ≤ n + 1
    have := on_le d n
    have := Bool.toNat_le (d.testBit n)
    omega
/- what is gathered, and how much, of the bits below n -/
def gaTo (v m : Nat) : Nat → Nat × Nat
  | 0 => (0, 0)
  | n + 1 => if m.testBit n then ((gaTo v m n).1 ||| (v.testBit n).toNat * 2 ^ (gaTo v m n).2, (gaTo v m n).2 + 1) else gaTo v m n
theorem ga_low : ∀ v < 256, (gaTo v 15 32).1 = v % 16 := by decide +kernel
theorem ga_high : ∀ v < 256, (gaTo v 240 32).1 = v / 16 := by decide +kernel
theorem ga_next : ∀ m < 256, ∀ k < 33, (gaTo 0 m k).2 ≤ 8 := by decide +kernel
theorem ga_same (v u m : Nat) : ∀ k, (gaTo v m k).2 = (gaTo u m k).2
  | 0 => rfl
  | k + 1 => by
    unfold gaTo
    split
    · show (gaTo v m k).2 + 1 = (gaTo u m k).2 + 1; rw [ga_same v u m k]
    · exact ga_same v u m k
theorem ga_lt (v m : Nat) (hm : m < 256) : ∀ k, k < 33 → (gaTo v m k).1 < 2 ^ (gaTo v m k).2
  | 0, _ => Nat.zero_lt_one
  | k + 1, hk => by
    have h := ga_lt v m hm k (by omega)
    unfold gaTo
    split
    · refine Nat.or_lt_two_pow (Nat.lt_trans h (Nat.pow_lt_pow_right (by decide) (by omega))) ?_
      show (v.testBit k).toNat * 2 ^ (gaTo v m k).2 < 2 ^ ((gaTo v m k).2 + 1)
      have := Bool.toNat_le (v.testBit k)
      have hp := Nat.two_pow_pos (gaTo v m k).2
      rw [Nat.pow_succ]
      have := Nat.mul_le_mul_right (2 ^ (gaTo v m k).2) this
      omega
    · exact h
theorem ga_le (v m : Nat) (hm : m < 256) (k : Nat) (hk : k < 33) : (gaTo v m k).2 ≤ 8 ∧ (gaTo v m k).1 < 256 := by
  have h1 : (gaTo v m k).2 ≤ 8 := by rw [ga_same v 0]; exact ga_next m hm k hk
  exact ⟨h1, Nat.lt_of_lt_of_le (ga_lt v m hm k hk) (Nat.pow_le_pow_right (n := 2) (by decide) h1)⟩
theorem par_bit : ∀ c < 256, onTo (c &&& 128) 8 % 2 = (c.testBit 7).toNat := by decide +kernel
theorem bit_b7 : ∀ c < 256, c.testBit 7 = b7 c := by decide +kernel
/- unlike in bit 7 -/
def unl (a b : Nat) : Bool := b7 a != b7 b
theorem unl_par (a b : Nat) (ha : a < 256) (hb : b < 256) : ((onTo ((a ^^^ b) &&& 128) 8 % 2 : Nat) : Int) = if unl a b then 1 else 0 := by
  have hx : a ^^^ b < 256 := Nat.xor_lt_two_pow (n := 8) ha hb
  rw [par_bit _ hx, Nat.testBit_xor, bit_b7 a ha, bit_b7 b hb]
  unfold unl
  cases b7 a <;> cases b7 b <;> rfl
/- have a and b the same bit 7, and s another? -/
def ov (a b s : Nat) : Bool := !(unl a b) && unl a s
/- a low half as a decimal digit with its carry; a difference less its borrow -/
def dig (l : Nat) : Nat := if l ≤ 9 then l else (l + 6) % 16 + 16
def bor (l : Int) : Int := if 0 ≤ l then l else (l - 6 + 32) % 16 - 16
theorem dig_le (l : Nat) : dig l ≤ 31 ∨ dig l ≤ l := by unfold dig; split <;> omega
/- two digits -/
def pk (n : Nat) : Nat := n / 10 * 16 + n % 10
theorem pk_lt {n : Nat} (h : n < 100) : pk n < 256 := by unfold pk; omega
end Go.Proofs.Ytgbjoblojkmdnaa
