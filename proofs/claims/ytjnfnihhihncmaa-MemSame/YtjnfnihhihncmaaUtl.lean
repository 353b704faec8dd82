/- Small facts that all texts ask for. -/
import Derived.Test.YtjnfnihhihncmaaRwz
import Derived.Test.YtjnfnihhihncmaaCut
import Derived.Deep.MidRow
import Derived.Laws.Rows
import Derived.Laws.Tables
namespace Go.Proofs.Ytjnfnihhihncmaa
open Go.RowKit
set_option linter.unusedVariables false

theorem hidD {q : Prop} (h : q) : Hid q := h
theorem below_setRow {B g : Nat} {a w : World} (h : Below B a w) (hg : B ≤ g) (cs : Array Value) : Below B a (w.setRow g cs) :=
  h.trans ⟨by simp, by simp, by simp, by simp, fun k hk => setRow_other _ _ _ _ (by omega)⟩
theorem two_blocks (w : World) (C C0 : Array Value) (ty : TypeId) : ((w.alloc (.cells C ty)).alloc (.cells C0 ty)).heap[w.heap.size]? = some (.cells C ty (0, 0))
    ∧ ((w.alloc (.cells C ty)).alloc (.cells C0 ty)).heap[w.heap.size + 1]? = some (.cells C0 ty (0, 0)) ∧ Below w.heap.size w ((w.alloc (.cells C ty)).alloc (.cells C0 ty)) ∧ ((w.alloc (.cells C ty)).alloc (.cells C0 ty)).heap.size = w.heap.size + 2 := by
  have sz : ∀ (w : World) o, (w.alloc o).heap.size = w.heap.size + 1 := fun w o => by simp
  refine ⟨?_, ?_, (((Below.refl _ _).alloc (Nat.le_refl _) _).alloc (by rw [sz]; omega) _), by rw [sz, sz]⟩
  · rw [Below.heap_alloc _ _ _ (by rw [sz]; omega)]; exact heap_alloc_last _ _
  · have := heap_alloc_last (w.alloc (.cells C ty)) (.cells C0 ty); rw [sz] at this; exact this

theorem Below.next {w w1 w2 : World} (h : Below w.heap.size w w1) (k : Below w1.heap.size w1 w2) : Below w.heap.size w w2 := h.trans (k.mono h.size)
theorem RowZ.other {w : World} {g h n : Nat} {kd : IntKind} {ty : TypeId} {f : Nat → Int} (hr : RowZ w h kd n ty f) (hne : h ≠ g) (k : Nat) (v : Value) : RowZ (w.setCell ⟨g, k, none⟩ v) h kd n ty f := (heap_setCell_other w ⟨g, k, none⟩ h v hne).trans hr
end Go.Proofs.Ytjnfnihhihncmaa
