/- What the document's Deal answers. -/
import Derived.Test.YtdpkeffkpecmjaaRwb
import Derived.Test.YtdpkeffkpecmjaaApb
namespace Go.Proofs.Ytdpkeffkpecmjaa
open Go.RowKit
set_option linter.unusedVariables false

/-- What the r-th row has when i bytes are dealt. -/
def grR (data : List UInt8) (n : Nat) : Nat → Nat → List UInt8
  | 0, _ => []
  | i + 1, r => if i % n = r then grR data n i r ++ [cf data i] else grR data n i r
theorem grR_len (data : List UInt8) (n : Nat) : ∀ i r, (grR data n i r).length ≤ i
  | 0, _ => by simp [grR]
  | i + 1, r => by
    have := grR_len data n i r
    rw [grR]
    split
    · rw [List.length_append, List.length_singleton]; omega
    · omega
theorem grR_part (data : List UInt8) (n q r : Nat) (hr : r < n) : ∀ t, t ≤ n → grR data n (n * q + t) r = grR data n (n * q) r ++ (if r < t then [dlA data n r q] else [])
  | 0, _ => by rw [if_neg (by omega), List.append_nil]; rfl
  | t + 1, ht => by
    rw [← Nat.add_assoc, grR, Nat.mul_add_mod, Nat.mod_eq_of_lt (by omega), grR_part data n q r hr t (by omega)]
    by_cases h : t = r
    · subst h
      rw [if_pos rfl, if_neg (by omega), if_pos (by omega), List.append_nil]
      unfold dlA
      rw [Nat.mul_comm q n]
    · rw [if_neg h]
      by_cases h2 : r < t
      · rw [if_pos h2, if_pos (by omega)]
      · rw [if_neg h2, if_neg (by omega)]
theorem grR_all (data : List UInt8) (n r : Nat) (hr : r < n) : ∀ q, grR data n (n * q) r = (List.range q).map (dlA data n r)
  | 0 => by rw [Nat.mul_zero]; rfl
  | q + 1 => by
    rw [Nat.mul_succ, grR_part data n q r hr n (Nat.le_refl _), grR_all data n r hr q, if_pos hr, List.range_succ, List.map_append]; rfl
def vwC (V : Nat → Value) (n : Nat) : Array Value := ((List.range n).map V).toArray
theorem vwC_get {V : Nat → Value} {n r : Nat} (h : r < n) : (vwC V n)[r]? = some (V r) := by simp [vwC, h]
theorem vwC_set (V : Nat → Value) (n r : Nat) (u : Value) (h : r < n) : (vwC V n).setIfInBounds r u = vwC (fun s => if s = r then u else V s) n := by
  apply Array.ext_getElem?
  intro s
  rw [Array.getElem?_setIfInBounds]
  by_cases hs : s < n
  · rw [vwC_get hs, vwC_get hs]
    by_cases h1 : r = s
    · subst h1; rw [if_pos rfl, if_pos (by simp [vwC]; omega), if_pos rfl]
    · rw [if_neg h1, if_neg (fun h => h1 h.symm)]
  · have h1 : (vwC V n)[s]? = none := Array.getElem?_eq_none (by simp [vwC]; omega)
    have h2 : (vwC (fun s => if s = r then u else V s) n)[s]? = none := Array.getElem?_eq_none (by simp [vwC]; omega)
    rw [h1, h2, if_neg (by omega)]
/-- Rows that grow, each in a block of its own. -/
structure GrAt (w : World) (B g n : Nat) (V : Nat → Value) (R : Nat → List UInt8) : Prop where
  lo : B ≤ g
  sl : w.heap[g]? = some (.cells (vwC V n) (22 : TypeId) (0, 0))
  row : ∀ r, r < n → w.ownsRow B 5 1 (V r) (R r).length ((R r).map encB)
  apart : ∀ r s, r < n → s < n → r ≠ s → (V s).ownBlock = none ∨ (V s).ownBlock ≠ (V r).ownBlock
theorem GrAt.lt {w : World} {B g n : Nat} {V : Nat → Value} {R : Nat → List UInt8} (h : GrAt w B g n V R) : g < w.heap.size := row_lt h.sl
theorem GrAt.ne {w : World} {B g n : Nat} {V : Nat → Value} {R : Nat → List UInt8} (h : GrAt w B g n V R) {r : Nat} (hr : r < n) : (V r).ownBlock ≠ some g := fun he => by
  rcases (h.row r hr).2 with ⟨h1, _⟩ | ⟨g', cap, cur, h1, hb, hg, _⟩
  · rw [h1] at he; simp [Value.ownBlock] at he
  · rw [h1] at he
    simp [Value.ownBlock] at he
    subst he
    rw [h.sl] at hg
    injection hg with hg
    injection hg with _ h2
    exact absurd h2 (by decide)
theorem GrAt.next {w w' : World} {B g n : Nat} {V : Nat → Value} {R : Nat → List UInt8} (h : GrAt w B g n V R) (hb : Below w.heap.size w w') : GrAt w' B g n V R :=
  ⟨h.lo, (hb.block g h.lt).trans h.sl, fun r hr => row_below (h.row r hr) hb, h.apart⟩
/-- One row grew, and is laid down. -/
theorem GrAt.grow {w w' : World} {B g n r : Nat} {V : Nat → Value} {R : Nat → List UInt8} (h : GrAt w B g n V R) (hr : r < n) {v : Value} {L : List UInt8} (hown : w'.ownsRow B 5 1 v L.length (L.map encB)) (hg : w.grownBy w' (V r).ownBlock) (hv : v.ownBlock = (V r).ownBlock ∨ ∃ b, v.ownBlock = some b ∧ w.heap.size ≤ b) :
    GrAt (w'.setCell ⟨g, r, none⟩ v) B g n (fun s => if s = r then v else V s) (fun s => if s = r then L else R s) := by
  have hgs : w'.heap[g]? = some (.cells (vwC V n) (22 : TypeId) (0, 0)) := (hg.block g h.lt (fun e => h.ne hr e.symm)).trans h.sl
  have hset : ∀ {u : Value} {m : Nat} {xs : List Value}, w'.ownsRow B 5 1 u m xs → (w'.setCell ⟨g, r, none⟩ v).ownsRow B 5 1 u m xs := fun {u m xs} ho => by
    refine ⟨ho.1, ?_⟩
    rcases ho.2 with h1 | ⟨g', cap, cur, h1, hb, hg', rest⟩
    · exact .inl h1
    · refine .inr ⟨g', cap, cur, h1, hb, ?_, rest⟩
      rw [heap_setCell_other w' _ _ _ (fun e => ?_)]
      · exact hg'
      · have e' : g' = g := e
        subst e'
        rw [hgs] at hg'
        injection hg' with hg'
        injection hg' with _ h2
        exact absurd h2 (by decide)
  refine ⟨h.lo, ?_, fun s hs => ?_, fun s t hs ht hne => ?_⟩
  · rw [heap_setCell_same w' g r _ _ _ hgs, vwC_set V n r v hr]
  · by_cases h1 : s = r
    · simp only [if_pos h1]; exact hset hown
    · simp only [if_neg h1]
      exact hset ((h.row s hs).kept hg (h.apart r s hr hs (fun e => h1 e.symm)))
  · by_cases h1 : s = r
    · have h2 : ¬ t = r := fun e => hne (by omega)
      simp only [if_pos h1, if_neg h2]
      rcases hv with e | ⟨b, e, hb⟩
      · rw [e]; exact h.apart r t hr ht (fun e => h2 e.symm)
      · rw [e]
        cases hc : (V t).ownBlock with
        | none => exact .inl rfl
        | some c =>
          have := ((h.row t ht).lt c hc).2
          exact .inr fun e => by injection e with e; omega
    · simp only [if_neg h1]
      by_cases h2 : t = r
      · simp only [if_pos h2]
        rcases hv with e | ⟨b, e, hb⟩
        · rw [e]
          rcases h.apart s r hs hr h1 with h3 | h3
          · exact .inl h3
          · exact .inr h3
        · rw [e]
          refine .inr fun e2 => ?_
          have := ((h.row s hs).lt b e2.symm).2
          omega
      · simp only [if_neg h2]; exact h.apart s t hs ht hne
theorem made_vw (n : Nat) : madeCells #[Value.slice none 0 0] n = vwC (fun _ => .slice none 0 0) n := by
  apply Array.ext_getElem?
  intro r
  by_cases hr : r < n
  · rw [vwC_get hr]
    simp [madeCells, hr, Nat.mod_one]
  · have h1 : (vwC (fun _ => Value.slice none 0 0) n)[r]? = none := Array.getElem?_eq_none (by simp [vwC]; omega)
    rw [h1]
    exact Array.getElem?_eq_none (by simp [madeCells]; omega)
theorem GrAt.make {w : World} {B n : Nat} (hB : B ≤ w.heap.size) : GrAt (w.alloc (.cells (madeCells #[Value.slice none 0 0] n) (22 : TypeId))) B w.heap.size n (fun _ => .slice none 0 0) (fun _ => []) :=
  ⟨hB, by rw [heap_alloc_last, made_vw], fun r hr => World.ownsRow_nil _ _ _ _, fun r s _ _ _ => .inl rfl⟩
theorem GrAt.congr {w : World} {B g n : Nat} {V : Nat → Value} {R R' : Nat → List UInt8} (h : GrAt w B g n V R) (he : ∀ r, r < n → R r = R' r) : GrAt w B g n V R' :=
  ⟨h.lo, h.sl, fun r hr => by rw [← he r hr]; exact h.row r hr, h.apart⟩
end Go.Proofs.Ytdpkeffkpecmjaa
