/- What the document's Lines answers. -/
import Derived.Test.YtdbledfpphkppabRf3
namespace Go.Proofs.Ytdbledfpphkppab
open Go.RowKit
set_option linter.unusedVariables false

theorem u8_andN {a b : Nat} (ha : a < 256) (hb : b < 256) : bits .and .u8 (a : Int) (b : Int) = ((a &&& b : Nat) : Int) := u8_and_nat a b (by omega) (by omega)
theorem and256 {a b : Nat} (hb : b < 256) : a &&& b < 256 := Nat.lt_of_le_of_lt Nat.and_le_right hb
theorem tab_cellsB {w wr : World} {a : Option Addr} {n cap : Nat} {l : List UInt8} (h : ByAt w (.slice a n cap) l) (hl : l.length = 256) (hb : Below w.heap.size w wr) {x : Nat} (hx : x < 256) :
    ∃ g o, a = some ⟨g, o, none⟩ ∧ g < w.heap.size ∧ ∀ i : BW wr, i.v.cell? ⟨g, o + x, none⟩ = some (.int .u8 (tbN l x : Int)) := by
  obtain ⟨a', c', he, hc⟩ := h.shape
  cases he
  obtain ⟨g, o, rfl, hg, hc⟩ := hc x (by omega)
  exact ⟨g, o, rfl, hg, fun i => (i.below.cell (p := ⟨g, o + x, none⟩) (Nat.lt_of_lt_of_le hg hb.size)).trans ((hb.cell (p := ⟨g, o + x, none⟩) hg).trans hc)⟩
theorem same_par (m n : Nat) : ((m : Int) = (n : Int)) ↔ m = n := by omega

end Go.Proofs.Ytdbledfpphkppab
