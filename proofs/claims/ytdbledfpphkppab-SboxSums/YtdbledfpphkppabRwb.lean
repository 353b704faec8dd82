/- A row of booleans in memory. -/
import Derived.Test.YtdbledfpphkppabRwz
namespace Go.Proofs.Ytdbledfpphkppab
open Go.RowKit
set_option linter.unusedVariables false

def rowB (n : Nat) (f : Nat → Bool) : Array Value := ((List.range n).map fun i => Value.bool (f i)).toArray
theorem rowB_size (n : Nat) (f : Nat → Bool) : (rowB n f).size = n := by simp [rowB]
theorem rowB_get (n : Nat) (f : Nat → Bool) (i : Nat) (h : i < n) : (rowB n f)[i]? = some (.bool (f i)) := by
  unfold rowB
  rw [List.getElem?_toArray, List.getElem?_map, List.getElem?_range h]; rfl
theorem rowB_congr {n : Nat} {f g : Nat → Bool} (h : ∀ i, i < n → f i = g i) : rowB n f = rowB n g := by
  apply Array.ext_getElem?
  intro i
  by_cases hi : i < n
  · rw [rowB_get n f i hi, rowB_get n g i hi, h i hi]
  · rw [Array.getElem?_eq_none (by rw [rowB_size]; omega), Array.getElem?_eq_none (by rw [rowB_size]; omega)]
theorem rowB_set (n : Nat) (f : Nat → Bool) (j : Nat) (v : Bool) (h : j < n) : (rowB n f).setIfInBounds j (.bool v) = rowB n (fun i => if i = j then v else f i) := by
  apply Array.ext_getElem?
  intro i
  rw [Array.getElem?_setIfInBounds]
  by_cases hi : i < n
  · rw [rowB_size]
    by_cases he : j = i
    · subst he; rw [if_pos rfl, if_pos h, rowB_get n _ j h, if_pos rfl]
    · rw [if_neg he, rowB_get n f i hi, rowB_get n _ i hi, if_neg (fun h => he h.symm)]
  · have h1 : ∀ f, (rowB n f)[i]? = none := fun f => Array.getElem?_eq_none (by rw [rowB_size]; omega)
    rw [if_neg (by omega), h1, h1]
theorem rowB_one (n : Nat) (f : Nat → Bool) : (rowB n f).all (·.oneCell') = true := by
  rw [Array.all_eq_true_iff_forall_mem]
  intro v hv
  simp only [rowB, List.mem_toArray, List.mem_map] at hv
  obtain ⟨i, _, rfl⟩ := hv; rfl
def RowB (w : World) (g : Nat) (n : Nat) (ty : TypeId) (f : Nat → Bool) : Prop := w.heap[g]? = some (.cells (rowB n f) ty (0, 0))
theorem RowB.lt {w : World} {g n : Nat} {ty : TypeId} {f : Nat → Bool} (h : RowB w g n ty f) : g < w.heap.size := row_lt h
theorem RowB.cell {w : World} {g n : Nat} {ty : TypeId} {f : Nat → Bool} (h : RowB w g n ty f) {k : Nat} (hk : k < n) : w.cell? ⟨g, k, none⟩ = some (.bool (f k)) := by
  rw [cell_of_row _ _ _ _ _ _ h]; exact rowB_get n f k hk
theorem RowB.frozen {w : World} {g n : Nat} {ty : TypeId} {f : Nat → Bool} (h : RowB w g n ty f) (k : Nat) : w.frozen? ⟨g, k, none⟩ = false := frozen_of_row _ _ _ _ _ h
theorem RowB.set {w : World} {g n : Nat} {ty : TypeId} {f : Nat → Bool} (h : RowB w g n ty f) {k : Nat} (hk : k < n) (v : Bool) : RowB (w.setCell ⟨g, k, none⟩ (.bool v)) g n ty (fun i => if i = k then v else f i) := by
  unfold RowB; rw [← rowB_set n f k v hk, heap_setCell_same w g k _ _ _ h]
theorem RowB.below {w w' : World} {g n b : Nat} {ty : TypeId} {f : Nat → Bool} (h : RowB w g n ty f) (hb : Below b w w') (hg : g < b) : RowB w' g n ty f := (hb.block g hg).trans h
theorem RowB.next {w w' : World} {g n : Nat} {ty : TypeId} {f : Nat → Bool} (h : RowB w g n ty f) (hb : Below w.heap.size w w') : RowB w' g n ty f := h.below hb h.lt
theorem RowB.congr {w : World} {g n : Nat} {ty : TypeId} {f f' : Nat → Bool} (h : RowB w g n ty f) (he : ∀ i, i < n → f i = f' i) : RowB w g n ty f' := by
  unfold RowB; rw [← rowB_congr he]; exact h
theorem RowB.new (w : World) (n : Nat) (ty : TypeId) (f : Nat → Bool) : RowB (w.alloc (.cells (rowB n f) ty)) w.heap.size n ty f := heap_alloc_last _ _
end Go.Proofs.Ytdbledfpphkppab
