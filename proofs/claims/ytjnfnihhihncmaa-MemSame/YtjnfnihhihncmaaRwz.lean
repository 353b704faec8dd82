/- A row of numbers in memory. -/
import Derived.Test.YtjnfnihhihncmaaRow
import Derived.Deep.WholeRow
import Derived.Laws.Alloc2
namespace Go.Proofs.Ytjnfnihhihncmaa
open Go.RowKit
set_option linter.unusedVariables false

def rowZ (kd : IntKind) (n : Nat) (f : Nat → Int) : Array Value := ((List.range n).map fun i => Value.int kd (f i)).toArray
theorem rowZ_size (kd : IntKind) (n : Nat) (f : Nat → Int) : (rowZ kd n f).size = n := by simp [rowZ]
theorem rowZ_get (kd : IntKind) (n : Nat) (f : Nat → Int) (i : Nat) (h : i < n) : (rowZ kd n f)[i]? = some (.int kd (f i)) := by
  unfold rowZ
  rw [List.getElem?_toArray, List.getElem?_map, List.getElem?_range h]; rfl
theorem rowZ_congr (kd : IntKind) {n : Nat} {f g : Nat → Int} (h : ∀ i, i < n → f i = g i) : rowZ kd n f = rowZ kd n g := by
  apply Array.ext_getElem?
  intro i
  by_cases hi : i < n
  · rw [rowZ_get kd n f i hi, rowZ_get kd n g i hi, h i hi]
  · rw [Array.getElem?_eq_none (by rw [rowZ_size]; omega), Array.getElem?_eq_none (by rw [rowZ_size]; omega)]
theorem rowZ_set (kd : IntKind) (n : Nat) (f : Nat → Int) (j : Nat) (v : Int) (h : j < n) : (rowZ kd n f).setIfInBounds j (.int kd v) = rowZ kd n (fun i => if i = j then v else f i) := by
  apply Array.ext_getElem?
  intro i
  rw [Array.getElem?_setIfInBounds]
  by_cases hi : i < n
  · rw [rowZ_size]
    by_cases he : j = i
    · subst he; rw [if_pos rfl, if_pos h, rowZ_get kd n _ j h, if_pos rfl]
    · rw [if_neg he, rowZ_get kd n f i hi, rowZ_get kd n _ i hi, if_neg (fun h => he h.symm)]
  · have h1 : ∀ f, (rowZ kd n f)[i]? = none := fun f => Array.getElem?_eq_none (by rw [rowZ_size]; omega)
    rw [if_neg (by omega), h1, h1]
theorem rowZ_one (kd : IntKind) (n : Nat) (f : Nat → Int) : (rowZ kd n f).all (·.oneCell') = true := by
  rw [Array.all_eq_true_iff_forall_mem]
  intro v hv
  simp only [rowZ, List.mem_toArray, List.mem_map] at hv
  obtain ⟨i, _, rfl⟩ := hv; rfl
def RowZ (w : World) (g : Nat) (kd : IntKind) (n : Nat) (ty : TypeId) (f : Nat → Int) : Prop := w.heap[g]? = some (.cells (rowZ kd n f) ty (0, 0))
theorem RowZ.lt {w : World} {g n : Nat} {kd : IntKind} {ty : TypeId} {f : Nat → Int} (h : RowZ w g kd n ty f) : g < w.heap.size := row_lt h
theorem RowZ.cell {w : World} {g n : Nat} {kd : IntKind} {ty : TypeId} {f : Nat → Int} (h : RowZ w g kd n ty f) {k : Nat} (hk : k < n) : w.cell? ⟨g, k, none⟩ = some (.int kd (f k)) := by
  rw [cell_of_row _ _ _ _ _ _ h]; exact rowZ_get kd n f k hk
theorem RowZ.frozen {w : World} {g n : Nat} {kd : IntKind} {ty : TypeId} {f : Nat → Int} (h : RowZ w g kd n ty f) (k : Nat) : w.frozen? ⟨g, k, none⟩ = false := frozen_of_row _ _ _ _ _ h
theorem RowZ.set {w : World} {g n : Nat} {kd : IntKind} {ty : TypeId} {f : Nat → Int} (h : RowZ w g kd n ty f) {k : Nat} (hk : k < n) (v : Int) : RowZ (w.setCell ⟨g, k, none⟩ (.int kd v)) g kd n ty (fun i => if i = k then v else f i) := by
  unfold RowZ; rw [← rowZ_set kd n f k v hk, heap_setCell_same w g k _ _ _ h]
theorem RowZ.below {w w' : World} {g n b : Nat} {kd : IntKind} {ty : TypeId} {f : Nat → Int} (h : RowZ w g kd n ty f) (hb : Below b w w') (hg : g < b) : RowZ w' g kd n ty f := (hb.block g hg).trans h
theorem RowZ.next {w w' : World} {g n : Nat} {kd : IntKind} {ty : TypeId} {f : Nat → Int} (h : RowZ w g kd n ty f) (hb : Below w.heap.size w w') : RowZ w' g kd n ty f := h.below hb h.lt
theorem RowZ.congr {w : World} {g n : Nat} {kd : IntKind} {ty : TypeId} {f f' : Nat → Int} (h : RowZ w g kd n ty f) (he : ∀ i, i < n → f i = f' i) : RowZ w g kd n ty f' := by
  unfold RowZ; rw [← rowZ_congr kd he]; exact h
theorem RowZ.new (w : World) (kd : IntKind) (n : Nat) (ty : TypeId) (f : Nat → Int) : RowZ (w.alloc (.cells (rowZ kd n f) ty)) w.heap.size kd n ty f := heap_alloc_last _ _
theorem below_setCell {B g : Nat} {a w : World} (h : Below B a w) (hg : B ≤ g) (k : Nat) (v : Value) : Below B a (w.setCell ⟨g, k, none⟩ v) := h.setCell (p := ⟨g, k, none⟩) hg v
end Go.Proofs.Ytjnfnihhihncmaa
