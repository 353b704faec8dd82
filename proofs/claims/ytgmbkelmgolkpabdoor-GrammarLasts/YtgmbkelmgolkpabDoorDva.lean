/- Plain: what comes of the start by rules that fit. -/
import Derived.Test.YtgmbkelmgolkpabDoorRqc
namespace Go.Proofs.YtgmbkelmgolkpabDoor
open Go.RowKit Go.Maps
set_option linter.unusedVariables false

/-- Terminals at the end (the front turned round) go behind the back. -/
def stripS (T : Nat) : List Int → List Int → List Int × List Int
  | [], b => ([], b)
  | s :: r, b => if s < (T : Int) then stripS T r (b ++ [s]) else (s :: r, b)
def dvTo (T : Nat) (R : List (Nat × List Int)) (st : Nat) (l : List Int) : Nat → List Int × List Int
  | 0 => ([(st : Int)], [])
  | k + 1 => stripS T ((rgN R l k).2.reverse ++ (dvTo T R st l k).1.tail) (dvTo T R st l k).2
def dvS (T : Nat) (R : List (Nat × List Int)) (st : Nat) (l : List Int) : List Int := (dvTo T R st l l.length).1.reverse ++ (dvTo T R st l l.length).2.reverse
theorem in_app (T : Nat) (a b : List Int) : inS T (a ++ b) = inS T a ++ inS T b := by unfold inS; rw [List.filter_append]
theorem strip_in (T : Nat) : ∀ f b, inS T (stripS T f b).1.reverse = inS T f.reverse
  | [], b => rfl
  | s :: r, b => by
    rw [stripS]
    split
    · rename_i h
      rw [strip_in T r, List.reverse_cons, in_app]
      have : inS T [s] = [] := by unfold inS; simp [List.filter_cons]; omega
      rw [this, List.append_nil]
    · rfl
theorem strip_head (T : Nat) : ∀ f b, (stripS T f b).1 = [] ∨ ∃ s r, (stripS T f b).1 = s :: r ∧ (T : Int) ≤ s
  | [], b => .inl rfl
  | s :: r, b => by
    rw [stripS]
    split
    · exact strip_head T r _
    · rename_i h; exact .inr ⟨s, r, rfl, by omega⟩
theorem strip_len (T : Nat) : ∀ f b, (stripS T f b).1.length + (stripS T f b).2.length = f.length + b.length
  | [], b => rfl
  | s :: r, b => by
    rw [stripS]
    split
    · rw [strip_len T r, List.length_append, List.length_singleton, List.length_cons]; omega
    · rfl
theorem fit_parts {T : Nat} {R : List (Nat × List Int)} {st : Nat} {l : List Int} {k : Nat} (h : fitS T R st l k = true) : 0 ≤ l.getD k 0 ∧ l.getD k 0 < (R.length : Int) ∧ 1 ≤ (pnTo T R st l k).length := by
  unfold fitS at h
  simp only [Bool.and_eq_true, decide_eq_true_eq] at h
  exact ⟨h.1.1.1, h.1.1.2, h.1.2⟩
theorem dv_ok {T : Nat} {R : List (Nat × List Int)} {st : Nat} {l : List Int} (hst : T ≤ st) : ∀ k, (∀ j, j < k → fitS T R st l j = true) → inS T (dvTo T R st l k).1.reverse = pnTo T R st l k ∧ ((dvTo T R st l k).1 = [] ∨ ∃ s r, (dvTo T R st l k).1 = s :: r ∧ (T : Int) ≤ s) ∧ (((dvTo T R st l k).1.length : Int) + ((dvTo T R st l k).2.length : Int) = szTo R l k)
  | 0, _ => by
    refine ⟨?_, .inr ⟨st, [], rfl, by omega⟩, rfl⟩
    show inS T [(st : Int)] = [(st : Int)]
    unfold inS
    rw [List.filter_cons, if_pos (by simp; omega)]
    rfl
  | k + 1, h => by
    obtain ⟨h1, h2, h3⟩ := dv_ok hst k (fun j hj => h j (by omega))
    have hp := (fit_parts (h k (by omega))).2.2
    rcases h2 with h2 | ⟨s, r, h2, hs⟩
    · rw [h2] at h1
      rw [← h1] at hp
      exact absurd hp (by show ¬ 1 ≤ 0; decide)
    · have hd : dvTo T R st l (k + 1) = stripS T ((rgN R l k).2.reverse ++ (dvTo T R st l k).1.tail) (dvTo T R st l k).2 := rfl
      have ht : (dvTo T R st l k).1.tail = r := by rw [h2]; rfl
      rw [hd, ht]
      have hi : inS T [s] = [s] := by unfold inS; rw [List.filter_cons, if_pos (by simp; omega)]; rfl
      refine ⟨?_, strip_head T _ _, ?_⟩
      · rw [strip_in, List.reverse_append, List.reverse_reverse, in_app]
        show _ = (pnTo T R st l k).dropLast ++ inS T (rgN R l k).2
        rw [← h1, h2, List.reverse_cons, in_app, hi, List.dropLast_concat]
      · have hl := strip_len T ((rgN R l k).2.reverse ++ r) (dvTo T R st l k).2
        rw [List.length_append, List.length_reverse] at hl
        rw [h2, List.length_cons] at h3
        show _ = szTo R l k + (((rgN R l k).2.length : Int) - 1)
        omega
end Go.Proofs.YtgmbkelmgolkpabDoor
