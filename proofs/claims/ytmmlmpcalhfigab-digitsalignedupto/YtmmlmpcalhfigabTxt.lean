/- What sameTexts of the statements answers: whether two lists of texts are the same. -/
import Derived.Test.YtmmlmpcalhfigabMark
import Derived.Sort.KeysCollected
import Derived.Deep.QuietTactic
import Derived.BigQuiet
namespace Go.Proofs.Ytmmlmpcalhfigab
open Go.RowKit Go.Maps Go.Sort
set_option linter.unusedVariables false

theorem below_drewN {B : Nat} {a w : World} (h : Below B a w) (n : Nat) : Below B a (w.drewN n) := h.trans ⟨rfl, rfl, rfl, Nat.le_refl _, fun _ _ => rfl⟩
/-- A slice value reads as these strings. -/
def StrsAt (w : World) (sl : Value) (ss : List (List UInt8)) : Prop :=
  (ss = [] ∧ ∃ a cap, sl = .slice a 0 cap ∧ (a = none → cap = 0)) ∨
  ∃ g off cap, sl = .slice (some ⟨g, off, none⟩) ss.length cap ∧ g < w.heap.size ∧ ∀ j, j < ss.length → w.cell? ⟨g, off + j, none⟩ = some (encStr (ss.getD j []))
/-- Lengths that a form reads. -/
def StrsOk (ss : List (List UInt8)) : Prop := ss.length ≤ 8796093022208 ∧ ∀ x ∈ ss, x.length ≤ maxLen

theorem StrsAt.below {B : Nat} {w w' : World} {sl : Value} {ss : List (List UInt8)} (h : StrsAt w sl ss) (hb : Below B w w') (hB : w.heap.size ≤ B) : StrsAt w' sl ss := by
  rcases h with h | ⟨g, off, cap, rfl, hg, hc⟩
  · exact .inl h
  · refine .inr ⟨g, off, cap, rfl, Nat.lt_of_lt_of_le hg hb.size, fun j hj => ?_⟩
    rw [hb.cell (p := ⟨g, off + j, none⟩) (Nat.lt_of_lt_of_le hg hB)]
    exact hc j hj

theorem ne_of_at {xs ys : List (List UInt8)} {k : Nat} (h : (xs.getD k [] == ys.getD k []) = false) : (xs == ys) = false := by
  cases he : (xs == ys) with
  | false => rfl
  | true => rw [beq_iff_eq.1 he] at h; simp at h
theorem eq_of_at {xs ys : List (List UInt8)} (hl : xs.length = ys.length) (h : ∀ j, j < xs.length → xs.getD j [] = ys.getD j []) : (xs == ys) = true := by
  rw [beq_iff_eq]
  refine List.ext_getElem hl fun j h1 h2 => ?_
  have := h j h1
  rwa [List.getD, List.getD, List.getElem?_eq_getElem h1, List.getElem?_eq_getElem h2] at this

end Go.Proofs.Ytmmlmpcalhfigab
