/- A region that draws its order, whose operations only read and whose calls make new memory alone: one walk, in the order of the text, in whatever world that has the old blocks as they were. -/
import Derived.BigQuiet
import Derived.Below
namespace Go.Proofs.Ytgbjoblojkmdnaa
open Go.RowKit
set_option linter.unusedVariables false

/-- A world in which all blocks of w stand as they did. -/
structure BW (w : World) where
  v : World
  below : Below w.heap.size w v

instance BW.some (w : World) : Nonempty (BW w) := ⟨⟨w, Below.refl _ _⟩⟩

theorem BW.cell {w : World} (i : BW w) {b o : Nat} (hb : b < w.heap.size) : i.v.cell? ⟨b, o, none⟩ = w.cell? ⟨b, o, none⟩ := i.below.cell (p := ⟨b, o, none⟩) hb

theorem wp_region_below {P : Program} {id : Nat} {Q : Exit → Act → World → Prop} {a : Act} {w : World} {l : List Oper} (hm : P.follows .mixedOrders = true) (hB : Region.lexB .any l.toArray = true)
    (h : wpQuiet P l.toArray (fun w' => ∃ i : BW w, w' = i.v) (fun a' => ∀ i : BW w, Q .normal a' i.v) l a) : (Code.region id l.toArray true).wp P Q a w := by
  refine wp_region_quiet (C := fun w' => ∃ i : BW w, w' = i.v) hm hB ⟨⟨{ w with drawn := w.drawn + 1 }, ⟨rfl, rfl, rfl, Nat.le_refl _, fun _ _ => rfl⟩⟩, rfl⟩ ?_
  have e : (fun a' => ∀ w', (∃ i : BW w, w' = i.v) → Q .normal a' w') = (fun a' => ∀ i : BW w, Q .normal a' i.v) := by
    funext a'
    refine propext ⟨fun h i => h _ ⟨i, rfl⟩, fun h w' hw => ?_⟩
    obtain ⟨i, rfl⟩ := hw
    exact h i
  rw [e]
  simpa using h

/-- A callee's contract, met in such a world. -/
theorem Calls.below_of {P : Program} {f : FuncId} {args : Array Value} {w : World} {i : BW w} {v : Value}
    (h : Calls P f args i.v fun e w' => e = .returned v ∧ Below i.v.heap.size i.v w') : Calls P f args i.v fun e w'' => e = .returned v ∧ ∃ j : BW w, w'' = j.v :=
  h.mono fun _ w'' ⟨he, hb⟩ => ⟨he, ⟨w'', i.below.trans (hb.mono i.below.size)⟩, rfl⟩
end Go.Proofs.Ytgbjoblojkmdnaa
