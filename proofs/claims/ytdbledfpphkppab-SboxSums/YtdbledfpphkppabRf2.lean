/- What the document's Unsub, Round, Differences, Parity and Lines answer. -/
import Derived.Test.YtdbledfpphkppabRf1
import Derived.Test.YtdbledfpphkppabSb2
namespace Go.Proofs.Ytdbledfpphkppab
open Go.RowKit
set_option linter.unusedVariables false

/- a table's word -/
def tbN (l : List UInt8) (x : Nat) : Nat := (l.getD x 0).toNat
theorem tbN_lt (l : List UInt8) (x : Nat) : tbN l x < 256 := (l.getD x 0).toNat_lt
theorem i64_xorN {a b : Nat} (ha : a < 256) (hb : b < 256) : bits .xor .i64 (a : Int) (b : Int) = ((a ^^^ b : Nat) : Int) := i64_xor_nat a b (by omega) (by omega)

theorem tab_cells {w wr : World} {a : Option Addr} {n cap : Nat} {l : List UInt8} (h : ByAt w (.slice a n cap) l) (hl : l.length = 256) (hb : Below w.heap.size w wr) {x : Nat} (hx : x < 256) :
    ∃ g o, a = some ⟨g, o, none⟩ ∧ g < w.heap.size ∧ ∀ n, (wr.drewN n).cell? ⟨g, o + x, none⟩ = some (.int .u8 (tbN l x : Int)) := by
  obtain ⟨a', c', he, hc⟩ := h.shape
  cases he
  obtain ⟨g, o, rfl, hg, hc⟩ := hc x (by omega)
  exact ⟨g, o, rfl, hg, fun n => (hb.cell (p := ⟨g, o + x, none⟩) hg).trans hc⟩

end Go.Proofs.Ytdbledfpphkppab
