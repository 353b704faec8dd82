/- Rows of bytes in blocks of their own, whose slices lie in one block. -/
import Derived.Test.YtdpkeffkpecmjaaTms
namespace Go.Proofs.Ytdpkeffkpecmjaa
open Go.RowKit
set_option linter.unusedVariables false

/-- The slices of k rows of n bytes, of which the first i are laid. -/
def slC (bl : Nat → Nat) (n k i : Nat) : Array Value := ((List.range k).map fun r => if r < i then Value.slice (some ⟨bl r, 0, none⟩) n n else .slice none 0 0).toArray
theorem slC_get {bl : Nat → Nat} {n k i r : Nat} (h : r < k) : (slC bl n k i)[r]? = some (if r < i then Value.slice (some ⟨bl r, 0, none⟩) n n else .slice none 0 0) := by
  simp [slC, h]
theorem slC_none {bl : Nat → Nat} {n k i r : Nat} (h : k ≤ r) : (slC bl n k i)[r]? = none := Array.getElem?_eq_none (by simp [slC]; omega)
theorem slC_ext {bl bl' : Nat → Nat} {n k i : Nat} (h : ∀ r, r < i → bl r = bl' r) : slC bl n k i = slC bl' n k i := by
  apply Array.ext_getElem?
  intro r
  by_cases hr : r < k
  · rw [slC_get hr, slC_get hr]
    by_cases h1 : r < i
    · rw [if_pos h1, if_pos h1, h r h1]
    · rw [if_neg h1, if_neg h1]
  · rw [slC_none (by omega), slC_none (by omega)]
theorem slC_put {bl : Nat → Nat} {n k i p b : Nat} (hp : p < i) (hi : i ≤ k) : (slC bl n k i).setIfInBounds p (.slice (some ⟨b, 0, none⟩) n n) = slC (fun r => if r = p then b else bl r) n k i := by
  apply Array.ext_getElem?
  intro r
  rw [Array.getElem?_setIfInBounds]
  by_cases hr : r < k
  · rw [slC_get hr, slC_get hr]
    by_cases h1 : p = r
    · subst h1
      rw [if_pos rfl, if_pos (by simp [slC]; omega), if_pos hp, if_pos rfl]
    · have h2 : ¬ r = p := fun h => h1 h.symm
      simp only [h1, h2, if_false]
  · rw [slC_none (by omega), slC_none (by omega), if_neg (by omega)]
theorem slC_next {bl : Nat → Nat} {n k i b : Nat} (hi : i < k) : (slC bl n k i).setIfInBounds i (.slice (some ⟨b, 0, none⟩) n n) = slC (fun r => if r = i then b else bl r) n k (i + 1) := by
  apply Array.ext_getElem?
  intro r
  rw [Array.getElem?_setIfInBounds]
  by_cases hr : r < k
  · rw [slC_get hr, slC_get hr]
    by_cases h1 : i = r
    · subst h1
      rw [if_pos rfl, if_pos (by simp [slC]; omega), if_pos (by omega), if_pos rfl]
    · have h3 : ¬ r = i := fun h => h1 h.symm
      simp only [h1, h3, if_false]
      by_cases h2 : r < i
      · rw [if_pos h2, if_pos (by omega)]
      · rw [if_neg h2, if_neg (by omega)]
  · rw [slC_none (by omega), slC_none (by omega), if_neg (by omega)]
theorem made_nils (bl : Nat → Nat) (n k : Nat) : madeCells #[Value.slice none 0 0] k = slC bl n k 0 := by
  apply Array.ext_getElem?
  intro r
  by_cases hr : r < k
  · rw [slC_get hr, if_neg (by omega)]
    simp [madeCells, hr, Nat.mod_one]
  · rw [slC_none (by omega)]
    exact Array.getElem?_eq_none (by simp [madeCells]; omega)
theorem made_bytes (k : Nat) : madeCells #[Value.int .u8 0] k = ((List.replicate k (0 : UInt8)).map encB).toArray := by
  apply Array.toList_inj.1
  rw [toList_madeCells_one, List.map_replicate]; rfl
theorem Try.info22 : (Try.prog.info? 22).map (fun i => (i.zero, i.size, i.bytes)) = some (some (.slice none 0 0), 1, 24) := by kernel_rfl
theorem Try.underlying47 : Try.prog.underlying 47 = some (.slice 22) := by kernel_rfl

structure MatAt (w : World) (B g k n i : Nat) (bl : Nat → Nat) (A : Nat → Nat → UInt8) : Prop where
  lo : B ≤ g
  sl : w.heap[g]? = some (.cells (slC bl n k i) (22 : TypeId) (0, 0))
  row : ∀ r, r < i → RowAt w (bl r) ((List.range n).map (A r))
  low : ∀ r, r < i → B ≤ bl r
  ne : ∀ r, r < i → bl r ≠ g
  inj : ∀ r s, r < i → s < i → bl r = bl s → r = s
theorem MatAt.next {w w' : World} {B g k n i : Nat} {bl : Nat → Nat} {A : Nat → Nat → UInt8} (h : MatAt w B g k n i bl A) (hb : Below w.heap.size w w') : MatAt w' B g k n i bl A :=
  ⟨h.lo, (hb.block g (row_lt h.sl)).trans h.sl, fun r hr => (h.row r hr).next hb, h.low, h.ne, h.inj⟩
theorem MatAt.lt {w : World} {B g k n i : Nat} {bl : Nat → Nat} {A : Nat → Nat → UInt8} (h : MatAt w B g k n i bl A) : g < w.heap.size := row_lt h.sl
theorem MatAt.slc {w : World} {B g k n i : Nat} {bl : Nat → Nat} {A : Nat → Nat → UInt8} (h : MatAt w B g k n i bl A) {r : Nat} (hr : r < i) (hi : i ≤ k) : w.cell? ⟨g, r, none⟩ = some (.slice (some ⟨bl r, 0, none⟩) n n) := by
  rw [cell_of_row _ _ _ _ _ _ h.sl, slC_get (by omega), if_pos hr]
theorem MatAt.nlc {w : World} {B g k n i : Nat} {bl : Nat → Nat} {A : Nat → Nat → UInt8} (h : MatAt w B g k n i bl A) {r : Nat} (hr : i ≤ r) (hi : r < k) : w.cell? ⟨g, r, none⟩ = some (.slice none 0 0) := by
  rw [cell_of_row _ _ _ _ _ _ h.sl, slC_get (by omega), if_neg (by omega)]
theorem MatAt.frz {w : World} {B g k n i : Nat} {bl : Nat → Nat} {A : Nat → Nat → UInt8} (h : MatAt w B g k n i bl A) (r : Nat) : w.frozen? ⟨g, r, none⟩ = false := frozen_of_row _ _ _ _ _ h.sl
theorem rng_get (n : Nat) (f : Nat → UInt8) {j : Nat} (hj : j < n) : ((List.range n).map f).getD j 0 = f j := by
  rw [List.getD_eq_getElem?_getD, List.getElem?_map, List.getElem?_range hj]; rfl
theorem MatAt.cell {w : World} {B g k n i : Nat} {bl : Nat → Nat} {A : Nat → Nat → UInt8} (h : MatAt w B g k n i bl A) {r j : Nat} (hr : r < i) (hj : j < n) : w.cell? ⟨bl r, j, none⟩ = some (.int .u8 ((A r j).toNat : Int)) := by
  rw [(h.row r hr).cell (by simpa using hj), rng_get n _ hj]
theorem MatAt.frzr {w : World} {B g k n i : Nat} {bl : Nat → Nat} {A : Nat → Nat → UInt8} (h : MatAt w B g k n i bl A) {r : Nat} (hr : r < i) (j : Nat) : w.frozen? ⟨bl r, j, none⟩ = false := (h.row r hr).frozen j
theorem rng_ext {n : Nat} {f f' : Nat → UInt8} (h : ∀ j, j < n → f j = f' j) : (List.range n).map f = (List.range n).map f' :=
  List.map_congr_left fun j hj => h j (List.mem_range.1 hj)
theorem MatAt.congr {w : World} {B g k n i : Nat} {bl : Nat → Nat} {A A' : Nat → Nat → UInt8} (h : MatAt w B g k n i bl A) (he : ∀ r j, r < i → j < n → A r j = A' r j) : MatAt w B g k n i bl A' :=
  ⟨h.lo, h.sl, fun r hr => by rw [← rng_ext (fun j hj => he r j hr hj)]; exact h.row r hr, h.low, h.ne, h.inj⟩
theorem rng_set (n : Nat) (f : Nat → UInt8) (j : Nat) (v : UInt8) (hj : j < n) : ((List.range n).map f).set j v = (List.range n).map fun q => if q = j then v else f q := by
  apply List.ext_getElem?
  intro q
  rw [List.getElem?_set]
  by_cases hq : q < n
  · rw [List.getElem?_map, List.getElem?_range hq, List.getElem?_map, List.getElem?_range hq]
    by_cases h1 : j = q
    · subst h1; simp [hj]
    · rw [if_neg h1]; simp [show ¬ q = j from fun h => h1 h.symm]
  · have h1 : ((List.range n).map f)[q]? = none := List.getElem?_eq_none (by simp; omega)
    have h2 : ((List.range n).map fun q => if q = j then v else f q)[q]? = none := List.getElem?_eq_none (by simp; omega)
    rw [h1, h2, if_neg (by omega)]
theorem MatAt.put {w : World} {B g k n i : Nat} {bl : Nat → Nat} {A : Nat → Nat → UInt8} (h : MatAt w B g k n i bl A) {r j : Nat} (hr : r < i) (hj : j < n) (v : UInt8) :
    MatAt (w.setCell ⟨bl r, j, none⟩ (.int .u8 (v.toNat : Int))) B g k n i bl (fun r' j' => if r' = r ∧ j' = j then v else A r' j') := by
  refine ⟨h.lo, (heap_setCell_other w _ g _ (fun e => h.ne r hr e.symm)).trans h.sl, fun r' hr' => ?_, h.low, h.ne, h.inj⟩
  by_cases h1 : r' = r
  · subst h1
    have := (h.row r' hr).set j v
    rw [rng_set n _ j v hj] at this
    have he : (List.range n).map (fun j' => if r' = r' ∧ j' = j then v else A r' j') = (List.range n).map fun q => if q = j then v else A r' q := rng_ext fun q _ => by simp
    rw [he]; exact this
  · have he : (List.range n).map (fun j' => if r' = r ∧ j' = j then v else A r' j') = (List.range n).map (A r') := rng_ext fun q _ => by simp [h1]
    rw [he]
    show _ = _
    rw [heap_setCell_other w _ _ _ (fun e => h1 (h.inj _ _ hr' hr e))]
    exact h.row r' hr'
/-- One row more. -/
theorem MatAt.lay {w w' : World} {B g k n i b : Nat} {bl : Nat → Nat} {A : Nat → Nat → UInt8} (h : MatAt w B g k n i bl A) (hi : i < k) (hb : Below w.heap.size w w') (hnew : w.heap.size ≤ b) (hrow : RowAt w' b (List.replicate n 0)) :
    MatAt (w'.setCell ⟨g, i, none⟩ (.slice (some ⟨b, 0, none⟩) n n)) B g k n (i + 1) (fun r => if r = i then b else bl r) (fun r j => if r = i then 0 else A r j) := by
  have hn := h.next hb
  have hgb : b ≠ g := by have := h.lt; omega
  have hlt : ∀ r, r < i → bl r < w.heap.size := fun r hr => (h.row r hr).lt
  refine ⟨h.lo, ?_, fun r hr => ?_, fun r hr => ?_, fun r hr => ?_, fun r s hr hs he => ?_⟩
  · rw [heap_setCell_same w' g i _ _ _ hn.sl, slC_next hi]
  · by_cases h1 : r = i
    · simp only [if_pos h1]
      have he : (List.range n).map (fun _ : Nat => (0 : UInt8)) = List.replicate n 0 := by rw [List.map_const', List.length_range]
      rw [he]
      show _ = _
      rw [heap_setCell_other w' _ _ _ hgb]; exact hrow
    · simp only [if_neg h1]
      show _ = _
      rw [heap_setCell_other w' _ _ _ (hn.ne r (by omega))]; exact hn.row r (by omega)
  · by_cases h1 : r = i
    · simp only [if_pos h1]; have := h.lo; have := h.lt; omega
    · simp only [if_neg h1]; exact h.low r (by omega)
  · by_cases h1 : r = i
    · simp only [if_pos h1]; exact hgb
    · simp only [if_neg h1]; exact h.ne r (by omega)
  · by_cases h1 : r = i
    · by_cases h2 : s = i
      · omega
      · simp only [if_pos h1, if_neg h2] at he
        have := hlt s (by omega); omega
    · by_cases h2 : s = i
      · simp only [if_neg h1, if_pos h2] at he
        have := hlt r (by omega); omega
      · simp only [if_neg h1, if_neg h2] at he
        exact h.inj r s (by omega) (by omega) he
/-- Two rows exchanged. -/
theorem MatAt.swap {w : World} {B g k n : Nat} {bl : Nat → Nat} {A : Nat → Nat → UInt8} (h : MatAt w B g k n k bl A) {i p : Nat} (hi : i < k) (hp : p < k) :
    MatAt ((w.setCell ⟨g, i, none⟩ (.slice (some ⟨bl p, 0, none⟩) n n)).setCell ⟨g, p, none⟩ (.slice (some ⟨bl i, 0, none⟩) n n)) B g k n k (fun r => if r = p then bl i else if r = i then bl p else bl r) (fun r j => if r = p then A i j else if r = i then A p j else A r j) := by
  have hother : ∀ b, b ≠ g → ((w.setCell ⟨g, i, none⟩ (.slice (some ⟨bl p, 0, none⟩) n n)).setCell ⟨g, p, none⟩ (.slice (some ⟨bl i, 0, none⟩) n n)).heap[b]? = w.heap[b]? := fun b hb => by
    rw [heap_setCell_other _ _ _ _ hb, heap_setCell_other _ _ _ _ hb]
  refine ⟨h.lo, ?_, fun r hr => ?_, fun r hr => ?_, fun r hr => ?_, fun r s hr hs he => ?_⟩
  · rw [heap_setCell_same _ g p _ _ _ (heap_setCell_same w g i _ _ _ h.sl), slC_put hi (Nat.le_refl _), slC_put hp (Nat.le_refl _)]
  · by_cases h1 : r = p
    · simp only [if_pos h1]
      exact (hother _ (h.ne i hi)).trans (h.row i hi)
    · simp only [if_neg h1]
      by_cases h2 : r = i
      · simp only [if_pos h2]
        exact (hother _ (h.ne p hp)).trans (h.row p hp)
      · simp only [if_neg h2]
        exact (hother _ (h.ne r hr)).trans (h.row r hr)
  · by_cases h1 : r = p
    · simp only [if_pos h1]; exact h.low i hi
    · simp only [if_neg h1]
      by_cases h2 : r = i
      · simp only [if_pos h2]; exact h.low p hp
      · simp only [if_neg h2]; exact h.low r hr
  · by_cases h1 : r = p
    · simp only [if_pos h1]; exact h.ne i hi
    · simp only [if_neg h1]
      by_cases h2 : r = i
      · simp only [if_pos h2]; exact h.ne p hp
      · simp only [if_neg h2]; exact h.ne r hr
  · have hσ : ∀ r, (if r = p then bl i else if r = i then bl p else bl r) = bl (if r = p then i else if r = i then p else r) := fun r => by
      by_cases h1 : r = p
      · rw [if_pos h1, if_pos h1]
      · rw [if_neg h1, if_neg h1]
        by_cases h2 : r = i
        · rw [if_pos h2, if_pos h2]
        · rw [if_neg h2, if_neg h2]
    simp only [hσ] at he
    have := h.inj _ _ (by split; exact hi; split; exact hp; exact hr) (by split; exact hi; split; exact hp; exact hs) he
    split at this <;> split at this <;> (try split at this) <;> (try split at this) <;> omega
/-- A row as bytes. -/
theorem MatAt.by {w : World} {B g k n i : Nat} {bl : Nat → Nat} {A : Nat → Nat → UInt8} (h : MatAt w B g k n i bl A) {r : Nat} (hr : r < i) : ByAt w (.slice (some ⟨bl r, 0, none⟩) n n) ((List.range n).map (A r)) := by
  have := (h.row r hr).by 0 n n (by simp)
  rwa [List.drop_zero, List.take_of_length_le (by simp)] at this
theorem MatAt.make {w : World} {B k n : Nat} (bl : Nat → Nat) (A : Nat → Nat → UInt8) (hB : B ≤ w.heap.size) : MatAt (w.alloc (.cells (madeCells #[Value.slice none 0 0] k) (22 : TypeId))) B w.heap.size k n 0 bl A :=
  ⟨hB, by rw [heap_alloc_last, made_nils bl n k], fun r hr => absurd hr (by omega), fun r hr => absurd hr (by omega), fun r hr => absurd hr (by omega), fun r s hr => absurd hr (by omega)⟩
end Go.Proofs.Ytdpkeffkpecmjaa
