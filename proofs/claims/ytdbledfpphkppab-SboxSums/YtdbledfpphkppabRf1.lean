/- What the document's Affine, Inverse, Sub and Unsub answer. -/
import Derived.Test.YtdbledfpphkppabOwn5
import Derived.Test.YtdbledfpphkppabSbx
namespace Go.Proofs.Ytdbledfpphkppab
open Go.RowKit
set_option linter.unusedVariables false

def rolS (b k : Nat) : Nat := b * 2 ^ k % 256 ||| b / 2 ^ (8 - k)
def affTo (b : Nat) : Nat → Nat
  | 0 => 99
  | k + 1 => affTo b k ^^^ rolS b k
theorem rol_lt {b k : Nat} (hb : b < 256) : rolS b k < 256 := Nat.or_lt_two_pow (n := 8) (Nat.mod_lt _ (by omega)) (Nat.lt_of_le_of_lt (Nat.div_le_self _ _) hb)
theorem affTo_lt {b : Nat} (hb : b < 256) : ∀ k, affTo b k < 256
  | 0 => by show 99 < 256; decide
  | k + 1 => xor256 (affTo_lt hb k) (rol_lt hb)
def affP (b : UInt8) : Bool := affTo b.toNat 5 == (affS b).toNat
theorem aff_all : ((List.range 256).all fun x => affP (UInt8.ofNat x)) = true := by decide +kernel
theorem aff_to (b : UInt8) : affTo b.toNat 5 = (affS b).toNat := eq_of_beq (u8_all (p := affP) aff_all b)
theorem rol_walk {b k : Nat} (hb : b < 256) : bits .or .u8 ((b : Int) * 2 ^ k % 256) ((b : Int) / 2 ^ (8 - k)) = ((rolS b k : Nat) : Int) := by
  have h1 : (b : Int) * 2 ^ k % 256 = ((b * 2 ^ k % 256 : Nat) : Int) := by
    rw [show (b : Int) * 2 ^ k = ((b * 2 ^ k : Nat) : Int) by simp]
    simp
  have h2 : (b : Int) / 2 ^ (8 - k) = ((b / 2 ^ (8 - k) : Nat) : Int) := by simp
  rw [h1, h2, u8_or_nat _ _ (Nat.mod_lt _ (by omega)) (Nat.lt_of_le_of_lt (Nat.div_le_self _ _) hb)]
  rfl

end Go.Proofs.Ytdbledfpphkppab
