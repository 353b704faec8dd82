/- What the document's New and its field's calls answer. -/
import Derived.Test.YtdpkeffkpecmjaaNil
import Derived.Laws.Build
namespace Go.Proofs.Ytdpkeffkpecmjaa
open Go.RowKit
set_option linter.unusedVariables false

/-- The document's field lies in a block. -/
structure RfAt (w : World) (b : Nat) (P g : UInt8) : Prop where
  lt : b < w.heap.size
  c0 : w.cell? ⟨b, 0, none⟩ = some (.int .i64 (256 + (P.toNat : Int)))
  c1 : w.cell? ⟨b, 1, none⟩ = some (.int .u8 (g.toNat : Int))
theorem RfAt.below {w w' : World} {b n : Nat} {P g : UInt8} (h : RfAt w b P g) (hb : Below n w w') (hn : b < n) : RfAt w' b P g :=
  ⟨Nat.lt_of_lt_of_le h.lt hb.size, by rw [hb.cell hn]; exact h.c0, by rw [hb.cell hn]; exact h.c1⟩
theorem RfAt.next {w w' : World} {b : Nat} {P g : UInt8} (h : RfAt w b P g) (hb : Below w.heap.size w w') : RfAt w' b P g := h.below hb h.lt
theorem RfAt.new (w : World) (P g : UInt8) (Q : Int) (hQ : Q = 256 + (P.toNat : Int)) (t : TypeId) : RfAt (w.alloc (.cells #[.int .i64 Q, .int .u8 (g.toNat : Int)] t)) w.heap.size P g := by
  subst hQ
  refine ⟨by simp, ?_, ?_⟩ <;> (rw [World.cell?_alloc_new]; rfl)

theorem tmod2 (n : Int) : (n.tmod 255 + 255).tmod 255 = (((n % 255).toNat : Nat) : Int) := by
  have h1 := tmod_lo n
  have h2 := tmod_hi n
  have h3 := Int.emod_nonneg n (show (255 : Int) ≠ 0 by omega)
  have h4 := Int.emod_lt_of_pos n (show (0 : Int) < 255 by omega)
  rw [Int.tmod_eq_emod_of_nonneg (by omega)]
  by_cases hn : n.tmod 255 < 0
  · have := tmod_neg hn; omega
  · have := tmod_nonneg hn; omega
theorem emod_small (n : Int) : (n % 255).toNat < 255 := by
  have h4 := Int.emod_lt_of_pos n (show (0 : Int) < 255 by omega)
  omega
end Go.Proofs.Ytdpkeffkpecmjaa
