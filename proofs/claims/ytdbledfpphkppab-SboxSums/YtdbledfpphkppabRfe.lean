/- What the document's Cycles answers. -/
import Derived.Test.YtdbledfpphkppabFal
import Derived.Test.YtdbledfpphkppabCyp
namespace Go.Proofs.Ytdbledfpphkppab
open Go.RowKit
set_option linter.unusedVariables false

theorem row_put {w : World} {base e n g : Nat} {v : Value} {xs : List Value} (h : w.ownsRow base e 1 v n xs) (hg : g < base) (k : Nat) (u : Value) : (w.setCell ⟨g, k, none⟩ u).ownsRow base e 1 v n xs := by
  refine ⟨h.1, ?_⟩
  rcases h.2 with h0 | ⟨g', cap, cur, rfl, hb, hh, r⟩
  · exact .inl h0
  · exact .inr ⟨g', cap, cur, rfl, hb, by rw [Below.heap_setCell _ _ _ _ (by show g' ≠ g; omega)]; exact hh, r⟩
theorem row_shapeI {w : World} {base n : Nat} {v : Value} {xs : List Value} (h : w.ownsRow base 3 1 v n xs) : ∃ a cap, v = .slice a n cap ∧ n ≤ cap ∧ cap ≤ 9223372036854775807 := by
  rcases h.2 with ⟨rfl, rfl⟩ | ⟨g', cap, cur, rfl, hb, hh, hc, hm, _⟩
  · exact ⟨none, 0, rfl, Nat.le_refl _, by omega⟩
  · exact ⟨_, cap, rfl, hc, by unfold maxLen at hm; omega⟩
theorem row_but {w w' : World} {g e n : Nat} {v : Value} {xs : List Value} (h : w.ownsRow (g + 1) e 1 v n xs) (hb : But g w w') : w'.ownsRow (g + 1) e 1 v n xs := by
  refine ⟨h.1, ?_⟩
  rcases h.2 with h0 | ⟨g', cap, cur, rfl, hge, hh, r⟩
  · exact .inl h0
  · exact .inr ⟨g', cap, cur, rfl, hge, (hb.rest g' (row_lt hh) (by omega)).trans hh, r⟩
def cnV (t : Nat → Nat) (k v : Nat) : Nat := ct (fun x => t x == v) k
def metI (m : Nat → Bool) (z : Nat) : Int := ((m z).toNat : Int)

end Go.Proofs.Ytdbledfpphkppab
