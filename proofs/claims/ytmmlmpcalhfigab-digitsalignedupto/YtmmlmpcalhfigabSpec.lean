/- The plain functions that stage 2's contracts speak of: digits, kinds, heads of numbers; nothing of the program. -/
import Derived.RowKit
namespace Go.Proofs.Ytmmlmpcalhfigab
open Go
set_option linter.unusedVariables false

/-- A byte's worth as a digit. -/
def digV (c : Nat) : Int := if 48 ≤ c ∧ c ≤ 57 then (c : Int) - 48 else if 97 ≤ c ∧ c ≤ 102 then (c : Int) - 87 else if 65 ≤ c ∧ c ≤ 70 then (c : Int) - 55 else -1
def ofB (c : Nat) (kind : Int) : Bool := decide (0 ≤ digV c) && decide (digV c < kind)
theorem digV_range (c : Nat) : -1 ≤ digV c ∧ digV c ≤ 15 := by
  unfold digV
  split
  · omega
  · split
    · omega
    · split <;> omega

def byteAt (s : List UInt8) (i : Nat) : Nat := (s.getD i 0).toNat
/-- The kind of a number at a text's beginning, and where its digits begin. -/
def markS (s : List UInt8) : Nat × Nat :=
  if 0 < s.length ∧ byteAt s 0 = 36 then (16, 1)
  else if 0 < s.length ∧ byteAt s 0 = 37 then (2, 1)
  else if 0 < s.length ∧ byteAt s 0 = 64 then (8, 1)
  else if 2 < s.length ∧ byteAt s 0 = 48 ∧ (byteAt s 1 = 120 ∨ byteAt s 1 = 88) ∧ ofB (byteAt s 2) 16 = true then (16, 2)
  else (10, 0)
theorem markS_le (s : List UInt8) : (markS s).2 ≤ s.length ∧ 2 ≤ (markS s).1 ∧ (markS s).1 ≤ 16 := by
  unfold markS
  split
  · refine ⟨?_, ?_, ?_⟩ <;> simp <;> omega
  · split
    · refine ⟨?_, ?_, ?_⟩ <;> simp <;> omega
    · split
      · refine ⟨?_, ?_, ?_⟩ <;> simp <;> omega
      · split
        · refine ⟨?_, ?_, ?_⟩ <;> simp <;> omega
        · simp

/-- The digits of a kind from a place on: the value (none: too big), and the place behind them or of the digit with which it is too big. -/
def runS (kind : Nat) (s : List UInt8) : Nat → Nat → Nat → Option Nat × Nat
  | 0, i, v => (some v, i)
  | f + 1, i, v =>
    if i < s.length ∧ ofB (byteAt s i) kind = true then
      if 18446744073709551615 < v * kind + (digV (byteAt s i)).toNat then (none, i) else runS kind s f (i + 1) (v * kind + (digV (byteAt s i)).toNat)
    else (some v, i)

/-- What Head answers: value, kind, bytes, error. -/
def headS (s : List UInt8) : Nat × Nat × Nat × Nat :=
  match runS (markS s).1 s (s.length - (markS s).2) (markS s).2 0 with
  | (none, i) => (0, 0, i, 3)
  | (some v, i) => if i = (markS s).2 then (0, 0, i, 20) else (v, (markS s).1, i, 0)

/-- The test by which the program sees that a value would be too big. -/
theorem big_iff {v d k : Nat} (hk : 0 < k) (hd : d ≤ 18446744073709551615) : (18446744073709551615 - d) / k < v ↔ 18446744073709551615 < v * k + d := by
  rw [Nat.div_lt_iff_lt_mul hk]
  omega
theorem runS_stop {kind : Nat} {s : List UInt8} {f i v : Nat} (h : ¬ (i < s.length ∧ ofB (byteAt s i) kind = true)) : runS kind s f i v = (some v, i) := by
  cases f with
  | zero => rfl
  | succ f => rw [runS, if_neg h]
theorem runS_step {kind : Nat} {s : List UInt8} {i v : Nat} (hi : i < s.length) (ho : ofB (byteAt s i) kind = true) (hb : ¬ 18446744073709551615 < v * kind + (digV (byteAt s i)).toNat) : runS kind s (s.length - i) i v = runS kind s (s.length - (i + 1)) (i + 1) (v * kind + (digV (byteAt s i)).toNat) := by
  obtain ⟨f, hf⟩ : ∃ f, s.length - i = f + 1 := ⟨s.length - i - 1, by omega⟩
  rw [hf, runS, if_pos ⟨hi, ho⟩, if_neg hb]
  congr 1
  omega
theorem runS_big {kind : Nat} {s : List UInt8} {i v : Nat} (hi : i < s.length) (ho : ofB (byteAt s i) kind = true) (hb : 18446744073709551615 < v * kind + (digV (byteAt s i)).toNat) : runS kind s (s.length - i) i v = (none, i) := by
  obtain ⟨f, hf⟩ : ∃ f, s.length - i = f + 1 := ⟨s.length - i - 1, by omega⟩
  rw [hf, runS, if_pos ⟨hi, ho⟩, if_pos hb]

/-- What Read answers. -/
def readS (s : List UInt8) : Nat × Nat × Nat × Nat :=
  if (headS s).2.2.2 ≠ 0 then (0, 0, (headS s).2.2.1, (headS s).2.2.2)
  else if (headS s).2.2.1 < s.length then (0, 0, (headS s).2.2.1, 20)
  else ((headS s).1, (headS s).2.1, 0, 0)
/-- What Signed answers. -/
def signedS (s : List UInt8) : Int × Nat × Nat :=
  let m := if 0 < s.length ∧ byteAt s 0 = 45 then 1 else 0
  let r := readS (s.drop m)
  if r.2.2.2 ≠ 0 then (0, m + r.2.2.1, r.2.2.2)
  else if m = 0 ∧ 9223372036854775807 < r.1 ∨ m = 1 ∧ 9223372036854775808 < r.1 then (0, m, 3)
  else if m = 1 then (-(r.1 : Int), 0, 0)
  else ((r.1 : Int), 0, 0)
end Go.Proofs.Ytmmlmpcalhfigab
