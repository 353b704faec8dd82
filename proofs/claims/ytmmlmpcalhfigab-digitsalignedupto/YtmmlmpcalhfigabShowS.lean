/- The plain functions of Show: a number's digits, their text. -/
import Derived.Test.YtmmlmpcalhfigabSpec
namespace Go.Proofs.Ytmmlmpcalhfigab
open Go
set_option linter.unusedVariables false

def hexL : List UInt8 := [48, 49, 50, 51, 52, 53, 54, 55, 56, 57, 65, 66, 67, 68, 69, 70]
def hexC (d : Nat) : UInt8 := hexL.getD d 0
/-- The digits of v, the last first, put ahead of what is there: one at least. -/
def digS (k : Nat) : Nat → Nat → List UInt8 → List UInt8
  | 0, _, acc => acc
  | f + 1, v, acc => if 0 < v ∨ acc = [] then digS k f (v / k) (hexC (v % k) :: acc) else acc
def padS (width : Nat) (l : List UInt8) : List UInt8 := List.replicate (width - l.length) 48 ++ l
def markL (kind : Int) : Option (List UInt8) := if kind = 16 then some [36] else if kind = 2 then some [37] else if kind = 8 then some [64] else if kind = 10 then some [] else none
/-- What Show answers: a text, an error. -/
def showS (v : Nat) (kind width : Int) : List UInt8 × Nat :=
  match markL kind with
  | none => ([], 1)
  | some m => if width < 0 ∨ 64 < width then ([], 1) else (m ++ padS width.toNat (digS kind.toNat 65 v []), 0)

theorem digS_stop {k f v : Nat} {acc : List UInt8} (h : ¬ (0 < v ∨ acc = [])) : digS k f v acc = acc := by
  cases f with
  | zero => rfl
  | succ f => rw [digS, if_neg h]
theorem digS_step {k f v : Nat} {acc : List UInt8} (h : 0 < v ∨ acc = []) : digS k (f + 1) v acc = digS k f (v / k) (hexC (v % k) :: acc) := by rw [digS, if_pos h]
/-- How long the digits can get. -/
theorem dig_room {k V n : Nat} (hk : 2 ≤ k) (h : V * 2 ^ n ≤ 18446744073709551615) : V / k * 2 ^ (n + 1) ≤ 18446744073709551615 := by
  refine Nat.le_trans ?_ h
  have h1 : V / k ≤ V / 2 := Nat.div_le_div_left hk (by omega)
  have h2 : V / 2 * 2 ≤ V := Nat.div_mul_le_self V 2
  have h3 : V / k * 2 ^ (n + 1) = V / k * 2 * 2 ^ n := by rw [Nat.pow_succ, Nat.mul_comm (2 ^ n) 2, ← Nat.mul_assoc]
  rw [h3]
  exact Nat.mul_le_mul_right _ (Nat.le_trans (Nat.mul_le_mul_right _ h1) h2)
theorem dig_len {V n : Nat} (hV : 0 < V) (h : V * 2 ^ n ≤ 18446744073709551615) : n ≤ 63 := by
  rcases Nat.lt_or_ge n 64 with h1 | h1
  · omega
  · have h2 : 2 ^ 64 ≤ 2 ^ n := Nat.pow_le_pow_right (by omega) h1
    have h3 : 1 * 2 ^ n ≤ V * 2 ^ n := Nat.mul_le_mul_right _ hV
    have h4 : (2 : Nat) ^ 64 = 18446744073709551616 := by decide
    omega
theorem hexC_at (d : Nat) (h : d < 16) : (hexL.drop d).take 1 = [hexC d] := by
  have h1 : ∀ d : Fin 16, (hexL.drop d.val).take 1 = [hexC d.val] := by decide
  exact h1 ⟨d, h⟩
end Go.Proofs.Ytmmlmpcalhfigab
