/- Plain: what stands behind a symbol. -/
import Derived.Test.YtgmbkelmgolkpabDoorSsa
namespace Go.Proofs.YtgmbkelmgolkpabDoor
open Go.RowKit
set_option linter.unusedVariables false

/-- Along a rule's right side, from its end on: the sets, and what stands next. -/
def fqL (T nul : Nat) (bg S : Nat → Nat) (nx : Nat) : List Int → (Nat → Nat) × Nat
  | [] => (S, nx)
  | s :: r => (if T ≤ s.toNat then upd (fqL T nul bg S nx r).1 s.toNat ((fqL T nul bg S nx r).1 s.toNat ||| (fqL T nul bg S nx r).2) else (fqL T nul bg S nx r).1, (if nul.testBit s.toNat then (fqL T nul bg S nx r).2 else 0) ||| bg s.toNat)
/-- One pass over the first k rules. -/
def fpTo (R : List (Nat × List Int)) (RE T nul : Nat) (bg S : Nat → Nat) : Nat → Nat → Nat
  | 0 => S
  | k + 1 => if RE.testBit (R.getD k (0, [])).1 then (fqL T nul bg (fpTo R RE T nul bg S k) (fpTo R RE T nul bg S k (R.getD k (0, [])).1) (R.getD k (0, [])).2).1 else fpTo R RE T nul bg S k
def fpIt (R : List (Nat × List Int)) (RE T nul : Nat) (bg S : Nat → Nat) : Nat → Nat → Nat
  | 0 => S
  | j + 1 => fpTo R RE T nul bg (fpIt R RE T nul bg S j) R.length
def foI (st T : Nat) : Nat → Nat := upd (fun _ => 0) st (2 ^ (T - 1))
/-- What follows: passes until none adds. -/
def FoIs (R : List (Nat × List Int)) (n T st nul : Nat) (bg X : Nat → Nat) : Prop := ∃ RE j, ReIs R (utS n) (2 ^ st) RE ∧ X = fpIt R RE T nul bg (foI st T) j ∧ ∀ x, x < 128 → fpTo R RE T nul bg X R.length x = X x
theorem fq_top {T nul : Nat} {bg S : Nat → Nat} {nx : Nat} (hb : ∀ x, bg x < Top) (hS : ∀ x, S x < Top) (hn : nx < Top) : ∀ r, (∀ x, (fqL T nul bg S nx r).1 x < Top) ∧ (fqL T nul bg S nx r).2 < Top
  | [] => ⟨hS, hn⟩
  | s :: r => by
    have ih := fq_top (T := T) (nul := nul) hb hS hn r
    rw [fqL]
    refine ⟨fun x => ?_, ?_⟩
    · simp only
      split
      · by_cases h : x = s.toNat
        · subst h; rw [upd_same]; exact or_top (ih.1 _) ih.2
        · rw [upd_other h]; exact ih.1 x
      · exact ih.1 x
    · refine or_top ?_ (hb _)
      split
      · exact ih.2
      · show 0 < Top; decide
theorem fq_ge (T nul : Nat) (bg S : Nat → Nat) (nx x : Nat) : ∀ r, S x ≤ (fqL T nul bg S nx r).1 x
  | [] => Nat.le_refl _
  | s :: r => by
    have ih := fq_ge T nul bg S nx x r
    rw [fqL]
    simp only
    split
    · by_cases h : x = s.toNat
      · subst h; rw [upd_same]; exact Nat.le_trans ih Nat.left_le_or
      · rw [upd_other h]; exact ih
    · exact ih
theorem fp_top {R : List (Nat × List Int)} {RE T nul : Nat} {bg S : Nat → Nat} (hb : ∀ x, bg x < Top) (hS : ∀ x, S x < Top) : ∀ k x, fpTo R RE T nul bg S k x < Top
  | 0, x => hS x
  | k + 1, x => by
    have ih := fp_top (R := R) (RE := RE) (T := T) (nul := nul) hb hS k
    rw [fpTo]; split
    · exact (fq_top hb ih (ih _) _).1 x
    · exact ih x
theorem fp_ge (R : List (Nat × List Int)) (RE T nul : Nat) (bg S : Nat → Nat) (x : Nat) : ∀ k, S x ≤ fpTo R RE T nul bg S k x
  | 0 => Nat.le_refl _
  | k + 1 => by
    have ih := fp_ge R RE T nul bg S x k
    rw [fpTo]; split
    · exact Nat.le_trans ih (fq_ge ..)
    · exact ih
theorem fi_top {st T : Nat} (hT : T ≤ 128) (x : Nat) : foI st T x < Top := by
  unfold foI upd; split
  · exact two_top (by omega)
  · show 0 < Top; decide
theorem drop_one {l : List Int} {d : Nat} (h : d < l.length) : l.drop d = l.getD d 0 :: l.drop (d + 1) := by
  rw [List.drop_eq_getElem_cons h, List.getD_eq_getElem?_getD, List.getElem?_eq_getElem h]; rfl
theorem But.far {g x : Nat} {a b c : World} (h : But g a b) (hg : g ≤ a.heap.size) (hx : a.heap.size ≤ x) (k : But x b c) : But g a c :=
  ⟨h.bel.trans (k.bel.mono (Nat.le_trans hg hx)), fun i hi hn => (k.rest i (Nat.lt_of_lt_of_le hi h.bel.size) (by omega)).trans (h.rest i hi hn)⟩
end Go.Proofs.YtgmbkelmgolkpabDoor
