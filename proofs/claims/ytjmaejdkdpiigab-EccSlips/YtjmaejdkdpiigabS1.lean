/- Rows of bytes made of texts, and slips. -/
import Derived.Test.YtjmaejdkdpiigabS0
import Derived.BigQuiet
import Derived.Laws.IdiomStrings
import Derived.Laws.Concat
namespace Go.Proofs.Ytjmaejdkdpiigab
open Go.RowKit
set_option linter.unusedVariables false

/- a block begins with these bytes, and none of them is barred -/
def RowF (w : World) (g : Nat) (L : List UInt8) : Prop := ∃ cs lo hi, w.heap[g]? = some (.cells (L.map encB ++ cs).toArray (5 : TypeId) (lo, hi)) ∧ L.length ≤ lo
theorem RowF.lt {w : World} {g : Nat} {L : List UInt8} (h : RowF w g L) : g < w.heap.size := by obtain ⟨cs, lo, hi, h, _⟩ := h; exact row_lt h
theorem RowF.cell {w : World} {g : Nat} {L : List UInt8} (h : RowF w g L) {k : Nat} (hk : k < L.length) : w.cell? ⟨g, k, none⟩ = some (.int .u8 (byteAt L k : Int)) := by
  obtain ⟨cs, lo, hi, h, _⟩ := h
  rw [cell_of_row _ _ _ _ _ _ h, List.getElem?_toArray, List.getElem?_append_left (by simpa using hk), List.getElem?_map, List.getElem?_eq_getElem hk]
  unfold byteAt
  rw [List.getD_eq_getElem?_getD, List.getElem?_eq_getElem hk]; rfl
theorem RowF.frozen {w : World} {g : Nat} {L : List UInt8} (h : RowF w g L) {k : Nat} (hk : k < L.length) : w.frozen? ⟨g, k, none⟩ = false := by
  obtain ⟨cs, lo, hi, h, hl⟩ := h
  unfold World.frozen?
  rw [h]
  simp
  omega
theorem RowF.set {w : World} {g : Nat} {L : List UInt8} (h : RowF w g L) {k : Nat} (hk : k < L.length) (v : UInt8) : RowF (w.setCell ⟨g, k, none⟩ (.int .u8 (v.toNat : Int))) g (L.set k v) := by
  obtain ⟨cs, lo, hi, h, hl⟩ := h
  refine ⟨cs, lo, hi, ?_, by rw [List.length_set]; exact hl⟩
  rw [show (w.setCell ⟨g, k, none⟩ (.int .u8 (v.toNat : Int))).heap[g]? = some (.cells ((L.map encB ++ cs).toArray.setIfInBounds k (.int .u8 (v.toNat : Int))) (5 : TypeId) (lo, hi)) from by simp [World.setCell, Array.getElem?_modify, h]]
  congr 2
  apply Array.toList_inj.1
  rw [Array.toList_setIfInBounds, List.map_set]
  show (L.map encB ++ cs).set k (encB v) = _
  rw [List.set_append_left _ _ (by simpa using hk)]
theorem RowF.next {w w' : World} {g : Nat} {L : List UInt8} (h : RowF w g L) (hb : Below w.heap.size w w') : RowF w' g L := by
  obtain ⟨cs, lo, hi, h, hl⟩ := h
  exact ⟨cs, lo, hi, (hb.block _ (row_lt h)).trans h, hl⟩
theorem RowF.put {w : World} {g k : Nat} {L : List UInt8} (h : RowF w g L) (hn : g ≠ k) (i : Nat) (v : Value) : RowF (w.setCell ⟨k, i, none⟩ v) g L := by
  obtain ⟨cs, lo, hi, h, hl⟩ := h
  exact ⟨cs, lo, hi, (heap_setCell_other w ⟨k, i, none⟩ g v hn).trans h, hl⟩
/- its text -/
theorem RowF.text {w : World} {g : Nat} {L : List UInt8} (h : RowF w g L) (cap : Nat) : (convert (27 : TypeId) (9 : TypeId) (.slice (some ⟨g, 0, none⟩) L.length cap)).run Try.prog w = .ok (.string ⟨L.toArray⟩) w := by
  refine run_convert_bytes_back _ (27 : TypeId) (9 : TypeId) (5 : TypeId) ⟨g, 0, none⟩ cap L Try.underlying27 Try.underlying5 Try.underlying9 (fun j hj => ?_)
  rw [Go.WideShapes.add_plain, Nat.zero_add, h.cell hj]
  unfold byteAt
  rw [List.getD_eq_getElem?_getD, List.getElem?_eq_getElem hj]; rfl
end Go.Proofs.Ytjmaejdkdpiigab
