/- What the document's New and its field's calls answer. -/
import Derived.Test.YtdbledfpphkppabRfc
import Derived.Test.YtdbledfpphkppabQuietB
import Derived.Deep.WholeRow
import Derived.Laws.Alloc2
import Derived.Laws.Pointers
import Derived.Laws.Build
namespace Go.Proofs.Ytdbledfpphkppab
open Go.RowKit
set_option linter.unusedVariables false

/-- The document's field lies in a block. -/
structure RfAt (w : World) (b : Nat) (P g : UInt8) : Prop where
  lt : b < w.heap.size
  c0 : w.cell? ⟨b, 0, none⟩ = some (.int .i64 (256 + (P.toNat : Int)))
  c1 : w.cell? ⟨b, 1, none⟩ = some (.int .u8 (g.toNat : Int))
theorem RfAt.below {w w' : World} {b n : Nat} {P g : UInt8} (h : RfAt w b P g) (hb : Below n w w') (hn : b < n) : RfAt w' b P g :=
  ⟨Nat.lt_of_lt_of_le h.lt hb.size, by rw [hb.cell hn]; exact h.c0, by rw [hb.cell hn]; exact h.c1⟩
theorem RfAt.next {w w' : World} {b : Nat} {P g : UInt8} (h : RfAt w b P g) (hb : Below w.heap.size w w') : RfAt w' b P g := h.below hb h.lt
theorem RfAt.new (w : World) (P g : UInt8) (Q : Int) (hQ : Q = 256 + (P.toNat : Int)) (t : TypeId) : RfAt (w.alloc (.cells #[.int .i64 Q, .int .u8 (g.toNat : Int)] t)) w.heap.size P g := by
  subst hQ
  refine ⟨by simp, ?_, ?_⟩ <;> (rw [World.cell?_alloc_new]; rfl)

end Go.Proofs.Ytdbledfpphkppab
