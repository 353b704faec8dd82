/- What the document's Unsub, Round, Parity and Lines answer. -/
import Derived.Test.YtdbledfpphkppabRf2
namespace Go.Proofs.Ytdbledfpphkppab
open Go.RowKit
set_option linter.unusedVariables false

theorem Below.next {w w1 w2 : World} (h : Below w.heap.size w w1) (k : Below w1.heap.size w1 w2) : Below w.heap.size w w2 := h.trans (k.mono h.size)
def unsS (b : UInt8) : Nat := usN b.toNat
theorem uns_first (b : UInt8) {x : Nat} (hx : x < 256) : (subS (UInt8.ofNat x) = b) ↔ x = unsS b := by
  have h := us_sb hx
  have h2 := us_sb b.toNat_lt
  unfold unsS
  constructor
  · intro he; rw [← he, sub_sb, u8_nat hx, h.1]
  · intro he; apply UInt8.toNat.inj; rw [sub_sb, u8_nat hx, he, h2.2.1]
def rndS (n : Int) : Nat := if n < 1 then 0 else (pw 27 2 ((n - 1) % 51).toNat).toNat
end Go.Proofs.Ytdbledfpphkppab
