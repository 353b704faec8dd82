/- How wide a column is: the document's widest. -/
import Derived.Test.YtmmlmpcalhfigabTxt
import Derived.Test.YtmmlmpcalhfigabWid
namespace Go.Proofs.Ytmmlmpcalhfigab
open Go.RowKit Go.Maps Go.Sort
set_option linter.unusedVariables false

/-- A row of texts in memory. -/
structure Rw where
  a : Option Addr
  cap : Nat
  ss : List (List UInt8)
def rw0 : Rw := ⟨none, 0, []⟩
/-- A slice of rows. -/
def RowsAt (w : World) (sl : Value) (L : List Rw) : Prop :=
  ((L = [] ∧ ∃ a cap, sl = .slice a 0 cap) ∨ ∃ g off cap, sl = .slice (some ⟨g, off, none⟩) L.length cap ∧ g < w.heap.size ∧ ∀ i, i < L.length → w.cell? ⟨g, off + i, none⟩ = some (.slice (L.getD i rw0).a (L.getD i rw0).ss.length (L.getD i rw0).cap)) ∧ ∀ r ∈ L, StrsAt w (.slice r.a r.ss.length r.cap) r.ss
structure SmallRows (L : List Rw) : Prop where
  rows : L.length ≤ 1048576
  cells : ∀ r ∈ L, r.ss.length ≤ 1048576
  texts : ∀ r ∈ L, ∀ x ∈ r.ss, x.length ≤ 1048576
theorem RowsAt.below {B : Nat} {w w' : World} {sl : Value} {L : List Rw} (h : RowsAt w sl L) (hb : Below B w w') (hB : w.heap.size ≤ B) : RowsAt w' sl L := by
  refine ⟨?_, fun r hr => (h.2 r hr).below hb hB⟩
  rcases h.1 with h | ⟨g, off, cap, rfl, hg, hc⟩
  · exact .inl h
  · exact .inr ⟨g, off, cap, rfl, Nat.lt_of_lt_of_le hg hb.size, fun i hi => (hb.cell (p := ⟨g, off + i, none⟩) (Nat.lt_of_lt_of_le hg hB)).trans (hc i hi)⟩
theorem mem_getDR {L : List Rw} {k : Nat} (h : k < L.length) : L.getD k rw0 ∈ L := by
  rw [List.getD, List.getElem?_eq_getElem h]; exact List.getElem_mem h
theorem mem_getDS {L : List (List UInt8)} {k : Nat} (h : k < L.length) : L.getD k [] ∈ L := by
  rw [List.getD, List.getElem?_eq_getElem h]; exact List.getElem_mem h

def widRow (r : Rw) (k : Nat) : Nat := if k < r.ss.length then widS ⟨(r.ss.getD k []).toArray⟩ 0 else 0
def maxTo (L : List Rw) (k : Nat) : Nat → Nat
  | 0 => 0
  | n + 1 => max (maxTo L k n) (widRow (L.getD n rw0) k)
def widestS (L : List Rw) (k : Nat) : Nat := min 255 (maxTo L k L.length)
theorem widRow_le {L : List Rw} (h : SmallRows L) {n k : Nat} (hn : n < L.length) : widRow (L.getD n rw0) k ≤ 1048576 := by
  unfold widRow
  split
  · rename_i hk
    have h1 := h.texts _ (mem_getDR hn) _ (mem_getDS hk)
    have h2 := widS_le ⟨((L.getD n rw0).ss.getD k []).toArray⟩ _ 0 (Nat.le_refl _)
    rw [ba_size] at h2
    omega
  · omega
theorem maxTo_le {L : List Rw} (h : SmallRows L) (k : Nat) : ∀ n, n ≤ L.length → maxTo L k n ≤ 1048576
  | 0, _ => by rw [maxTo]; omega
  | n + 1, hn => by
    have h1 := maxTo_le h k n (by omega)
    have h2 := widRow_le h (n := n) (k := k) (by omega)
    rw [maxTo]; omega

end Go.Proofs.Ytmmlmpcalhfigab
