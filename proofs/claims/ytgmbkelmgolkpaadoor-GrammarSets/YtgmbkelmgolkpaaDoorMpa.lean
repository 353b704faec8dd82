/- Maps of texts to numbers. -/
import Derived.Test.YtgmbkelmgolkpaaDoorGz
import Derived.WalkKit
import Derived.WalkSpells
import Derived.WalkLawsBesides
import Derived.Maps.OwnSet
import Derived.WalkArith
namespace Go.Proofs.YtgmbkelmgolkpaaDoor
open Go.RowKit Go.Maps
set_option linter.unusedVariables false

theorem Tryd.under9 : Tryd.prog.underlying 9 = some .string := by kernel_rfl
theorem Tryd.under3 : Tryd.prog.underlying 3 = some (.int .i64) := by kernel_rfl
theorem Tryd.under64 : Tryd.prog.underlying 83 = some (.map 9 3) := by kernel_rfl
theorem law9 : Keyed Tryd.prog 9 := string_keyed Tryd.under9
theorem zero3 (w : World) : (zeroValue 3).run Tryd.prog w = .ok (.int .i64 0) w := by kernel_rfl
theorem key_str {x : Tx} (h : x.length ≤ maxLen) : keyOf Tryd.prog 9 (.string (bA x)) = some (.string x) := by
  simp [keyOf, mapKey, ByteArray.size, h, bA]
/-- A map in memory tells these numbers of these texts. -/
def MpAt (w : World) (b n : Nat) (f : Tx → Option Int) : Prop := ∃ D : DataW Unit, w.ownsMap Tryd.prog 9 (plainElem Tryd.prog 3) b n D ∧ ∀ x, D.atKey (.string x) (.lit (.int .i64 0)) = .lit (.int .i64 ((f x).getD 0)) ∧ Maps.has D (.string x) = (f x).isSome
theorem MpAt.lt {w : World} {b n : Nat} {f : Tx → Option Int} (h : MpAt w b n f) : b < w.heap.size := by
  obtain ⟨D, h1, _⟩ := h
  exact h1.lt
theorem MpAt.is {w : World} {b n : Nat} {f : Tx → Option Int} (h : MpAt w b n f) : ∃ es clock, w.heap[b]? = some (.map es clock) := by
  obtain ⟨D, ⟨es, clock, h1, _⟩, _⟩ := h
  exact ⟨es, clock, h1⟩
theorem MpAt.kept {w w' : World} {b n : Nat} {f : Tx → Option Int} (h : MpAt w b n f) (hb : w'.heap[b]? = w.heap[b]?) : MpAt w' b n f := by
  obtain ⟨D, ⟨es, clock, h1, r⟩, h2⟩ := h
  exact ⟨D, ⟨es, clock, hb.trans h1, r⟩, h2⟩
theorem MpAt.next {w w' : World} {b n : Nat} {f : Tx → Option Int} (h : MpAt w b n f) (hb : Below w.heap.size w w') : MpAt w' b n f := h.kept (hb.block b h.lt)
theorem MpAt.stay {w w' : World} {b n : Nat} {f : Tx → Option Int} {e : TypeId} (h : MpAt w b n f) (hk : Kept e w w') : MpAt w' b n f := by
  obtain ⟨es, clock, hm⟩ := h.is
  exact h.kept (hk b h.lt fun cs e => by rw [hm] at e; cases e)
theorem MpAt.made (w : World) : MpAt (w.alloc (.map #[] 0)) w.heap.size 0 fun _ => none := ⟨.map [], World.ownsMap_made _ _ _ _, fun x => ⟨by simp [DataW.atKey], rfl⟩⟩
theorem MpAt.look {w : World} {b n : Nat} {f : Tx → Option Int} (h : MpAt w b n f) {x : Tx} (hx : x.length ≤ maxLen) : (Instr.lookup 83 (.map (some b)) (.string (bA x)) false).run Tryd.prog w = .ok (.int .i64 ((f x).getD 0)) w := by
  obtain ⟨D, h1, h2⟩ := h
  obtain ⟨c, hr, hat, _⟩ := h1.lookup_int law9 Tryd.under64 Tryd.under3 (zero3 w) (key_str hx)
  rw [(h2 x).1] at hat
  simp only [DataW.lit.injEq, Lit.int.injEq, true_and] at hat
  rw [hr, ← hat]
theorem MpAt.lookOk {w : World} {b n : Nat} {f : Tx → Option Int} (h : MpAt w b n f) {x : Tx} (hx : x.length ≤ maxLen) : (Instr.lookup 83 (.map (some b)) (.string (bA x)) true).run Tryd.prog w = .ok (.tuple #[.int .i64 ((f x).getD 0), .bool (f x).isSome]) w := by
  obtain ⟨D, h1, h2⟩ := h
  have hw0 : (Lit.int .i64 0).wf = true := by decide
  obtain ⟨v, ps, hr, hv⟩ := h1.look_ok law9 Tryd.under64 (zero3 w) (plainElem_int Tryd.under3 hw0) (key_str hx)
  obtain ⟨c, rfl, hc, _⟩ := plainElem_int_inv Tryd.under3 hv
  have h3 := (h2 x).1
  rw [show D.atKey (.string x) (.lit (.int .i64 0)) = _ from congrArg Prod.fst hc] at h3
  simp only [DataW.lit.injEq, Lit.int.injEq, true_and] at h3
  rw [hr, h3, (h2 x).2]
theorem MpAt.bound {w : World} {b n : Nat} {f : Tx → Option Int} (h : MpAt w b n f) {n' : Nat} (hn : n ≤ n') : MpAt w b n' f := by
  obtain ⟨D, h1, h2⟩ := h
  exact ⟨D, h1.mono hn, h2⟩
theorem MpAt.same {w : World} {b n : Nat} {f g : Tx → Option Int} (h : MpAt w b n f) (hfg : ∀ x, f x = g x) : MpAt w b n g := by
  obtain ⟨D, h1, h2⟩ := h
  exact ⟨D, h1, fun x => by rw [← hfg x]; exact h2 x⟩
/-- A number is laid. -/
theorem wpList_map_put {w : World} {ops : Array Oper} {rest : List Oper} {o : Oper} {a : Act} {Q : Exit → Act → World → Prop} (hg : o.guard = none) (m x v : Operand) (hop : o.op = Op.mapUpdate 83 m x v)
    (b n : Nat) (f : Tx → Option Int) (hm : a.eval m = .map (some b)) (hown : MpAt w b n f) (hn : n ≤ 4611686018427387904) (y : Tx) (c : Int) (hy : y.length ≤ maxLen) (hc1 : -9223372036854775808 ≤ c) (hc2 : c ≤ 9223372036854775807) (hx : a.eval x = .string (bA y)) (hv : a.eval v = .int .i64 c)
    (hK : ∀ w', MpAt w' b (n + 1) (fun z => if z = y then some c else f z) → w.grownBy w' (some b) → wpList Tryd.prog ops Q rest (a.put o.dst undef) w') : wpList Tryd.prog ops Q (o :: rest) a w := by
  obtain ⟨D, h1, h2⟩ := hown
  refine wpList_mapUpdate_own w hg m x v 83 hop 9 3 law9 Tryd.under64 (plainElem Tryd.prog 3) b n D hm h1 (by unfold maxLen; omega) _ _ _ hx hv (key_str hy) _ [] (plainElem_int Tryd.under3 (WalkArith.wf_i64 (by omega))) ?_
  intro w' hown' hgr
  refine hK w' ⟨_, hown', fun z => ?_⟩ hgr
  by_cases hz : z = y
  · subst hz
    rw [atKey_put_same h1.isMap (by simp [WideAt.IsKeyLit]), has_put_same h1.isMap (by simp [WideAt.IsKeyLit])]
    simp only [if_true]
    exact ⟨rfl, rfl⟩
  · rw [atKey_put_other (by simpa using hz), has_put_other (by simpa using hz)]
    simp only [if_neg hz]
    exact h2 z
theorem row_ne_map {w : World} {base e size n b : Nat} {v : Value} {xs : List Value} (h : w.ownsRow base e size v n xs) (hb : ∃ es clock, w.heap[b]? = some (.map es clock)) : v.ownBlock ≠ some b := by
  obtain ⟨es, clock, hm⟩ := hb
  rcases h.2 with ⟨rfl, _⟩ | ⟨g, cap, cur, rfl, _, hgg, _⟩
  · simp [Value.ownBlock]
  · simp only [Value.ownBlock, ne_eq, Option.some.injEq]
    rintro rfl
    rw [hm] at hgg; cases hgg
/-- What is laid into a map turns no row, and no text. -/
theorem row_mapped {w w' : World} {base e size n b : Nat} {v : Value} {xs : List Value} (h : w.ownsRow base e size v n xs) (hb : ∃ es clock, w.heap[b]? = some (.map es clock)) (hg : w.grownBy w' (some b)) : w'.ownsRow base e size v n xs := h.kept hg (.inr (row_ne_map h hb))
theorem kept_mapped {w w' : World} {b : Nat} (hb : ∃ es clock, w.heap[b]? = some (.map es clock)) (hg : w.grownBy w' (some b)) {cs : Array Value} {t : TypeId} {g : Nat} (hc : w.heap[g]? = some (.cells cs t (0, 0))) : w'.heap[g]? = w.heap[g]? := by
  obtain ⟨es, clock, hm⟩ := hb
  exact hg.block g (row_lt hc) fun e => by cases e; rw [hm] at hc; cases hc
theorem SrAt.mapped {w w' : World} {B b : Nat} {v : Value} {ss : List Tx} (h : SrAt w B v ss) (hb : ∃ es clock, w.heap[b]? = some (.map es clock)) (hg : w.grownBy w' (some b)) : SrAt w' B v ss := h.kept fun g _ _ ⟨cs, hc⟩ => kept_mapped hb hg hc
end Go.Proofs.YtgmbkelmgolkpaaDoor
