/- What Bytes, Decimal, blanks, missing, Left and Right of the document answer. -/
import Derived.Test.YtmmlmpcalhfigabShowA
import Derived.Test.YtmmlmpcalhfigabWid
namespace Go.Proofs.Ytmmlmpcalhfigab
open Go.RowKit
set_option linter.unusedVariables false

/-- How many bytes a number has room in. -/
def bytesS (v : Nat) : Nat := if h : 255 < v then bytesS (v / 256) + 1 else 1
termination_by v
decreasing_by omega
theorem bytesS_in {v : Nat} (h : 255 < v) : bytesS v = bytesS (v / 256) + 1 := by rw [bytesS, dif_pos h]
theorem bytesS_end {v : Nat} (h : ¬ 255 < v) : bytesS v = 1 := by rw [bytesS, dif_neg h]
theorem bytesS_le : ∀ (k v : Nat), v < 256 ^ (k + 1) → bytesS v ≤ k + 1
  | 0, v, h => by rw [bytesS_end (by simpa using Nat.le_of_lt_succ h)]; exact Nat.le_refl _
  | k + 1, v, h => by
    by_cases hv : 255 < v
    · rw [bytesS_in hv]
      have h1 : v / 256 < 256 ^ (k + 1) := by
        rw [Nat.div_lt_iff_lt_mul (by omega), ← Nat.pow_succ]; exact h
      have := bytesS_le k (v / 256) h1
      omega
    · rw [bytesS_end hv]; omega
theorem bytesS_8 {v : Nat} (h : v ≤ 18446744073709551615) : bytesS v ≤ 8 := bytesS_le 7 v (by
  have : (256 : Nat) ^ (7 + 1) = 18446744073709551616 := by decide
  omega)

/-- The text of a number with its sign. -/
def decS (v : Int) : List UInt8 := if 0 ≤ v then digS 10 65 v.toNat [] else 45 :: digS 10 65 (-v).toNat []
theorem show_dec (v : Nat) : showS v 10 0 = (digS 10 65 v [], 0) := by
  unfold showS markL
  simp [padS]
theorem digS_len (k : Nat) : ∀ (f v : Nat) (acc : List UInt8), (digS k f v acc).length ≤ acc.length + f
  | 0, v, acc => Nat.le_refl _
  | f + 1, v, acc => by
    rw [digS]
    split
    · have := digS_len k f (v / k) (hexC (v % k) :: acc)
      simp only [List.length_cons] at this
      omega
    · omega
theorem ret_str {a b : ByteArray} (h : a = b) : Ending.returned (.string a) = .returned (.string b) := by rw [h]

theorem blank_next (j : Nat) : ({ data := (List.replicate j (32 : UInt8)).toArray } : ByteArray) ++ { data := #[32] } = ⟨(List.replicate (j + 1) (32 : UInt8)).toArray⟩ := by
  rw [show ({ data := #[32] } : ByteArray) = { data := [32].toArray } from rfl, ba_append, ← List.replicate_succ']

/-- How many characters a text lacks. -/
def missS (s : ByteArray) (width : Int) : Int := if width < 0 then 0 else (if 255 < width then 255 else width) - widS s 0
theorem missS_le (s : ByteArray) (width : Int) : missS s width ≤ 255 := by
  unfold missS
  split
  · omega
  · split <;> omega

def leftS (s : List UInt8) (width : Int) : List UInt8 := s ++ List.replicate (missS ⟨s.toArray⟩ width).toNat 32
def rightS (s : List UInt8) (width : Int) : List UInt8 := List.replicate (missS ⟨s.toArray⟩ width).toNat 32 ++ s
end Go.Proofs.Ytmmlmpcalhfigab
