/- What the document's Degree answers. -/
import Derived.Test.YtdbledfpphkppabRf6
namespace Go.Proofs.Ytdbledfpphkppab
open Go.RowKit
set_option linter.unusedVariables false

theorem tab_cell0 {w wr : World} {a : Option Addr} {n cap : Nat} {l : List UInt8} (h : ByAt w (.slice a n cap) l) (hl : l.length = 256) (hb : Below w.heap.size w wr) {x : Nat} (hx : x < 256) :
    ∃ g o, a = some ⟨g, o, none⟩ ∧ g < w.heap.size ∧ wr.cell? ⟨g, o + x, none⟩ = some (.int .u8 (tbN l x : Int)) := by
  obtain ⟨g, o, h1, h2, h3⟩ := tab_cells h hl hb hx
  exact ⟨g, o, h1, h2, h3 0⟩
/- the coefficient so far -/
def anTo (t : Nat → Nat) (bit m k : Nat) : Nat := ct (fun x => (x &&& m == x) && (t x).testBit bit) k % 2
theorem an_lt (t : Nat → Nat) (bit m k : Nat) : anTo t bit m k < 2 := Nat.mod_lt _ (by omega)
theorem an_skip {t : Nat → Nat} {bit m k : Nat} (h : k &&& m ≠ k) : anTo t bit m (k + 1) = anTo t bit m k := by
  unfold anTo; rw [ct_succ, show (k &&& m == k) = false by simpa using h]; simp
theorem an_take {t : Nat → Nat} {bit m k : Nat} (h : k &&& m = k) : anTo t bit m (k + 1) = anTo t bit m k ^^^ ((t k).testBit bit).toNat := by
  have : ct (fun x => (x &&& m == x) && (t x).testBit bit) (k + 1) = ct (fun x => (x &&& m == x) && (t x).testBit bit) k + ((t k).testBit bit).toNat := by
    rw [ct_succ, show (k &&& m == k) = true by simpa using h]; simp
  unfold anTo; rw [this]
  generalize ct (fun x => (x &&& m == x) && (t x).testBit bit) k = n
  have hx : ∀ a b : Nat, a < 2 → b < 2 → (a + b) % 2 = a ^^^ b := fun a b ha hb => by
    rcases (show a = 0 ∨ a = 1 by omega) with rfl | rfl <;> rcases (show b = 0 ∨ b = 1 by omega) with rfl | rfl <;> rfl
  rw [← hx _ _ (Nat.mod_lt _ (by omega)) (by have := Bool.toNat_le ((t k).testBit bit); omega)]; omega
def bestD (t : Nat → Nat) (bit j : Nat) : Nat := mx (fun m => if anfS t bit m = 1 then onesTo m 8 else 0) j
theorem bestD_le (t : Nat → Nat) (bit j : Nat) : bestD t bit j ≤ 8 := mx_le fun m _ => by have := ones_le m 8; split <;> omega
theorem anf_to (t : Nat → Nat) (bit m : Nat) : anTo t bit m 256 = anfS t bit m := rfl
theorem bestD_succ (t : Nat → Nat) (bit j : Nat) : bestD t bit (j + 1) = max (bestD t bit j) (if anfS t bit j = 1 then onesTo j 8 else 0) := rfl

end Go.Proofs.Ytdbledfpphkppab
