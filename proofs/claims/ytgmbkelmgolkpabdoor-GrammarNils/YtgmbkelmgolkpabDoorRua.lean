/- Numbers in memory that are read, with the type of their blocks; rules that are gathered. -/
import Derived.Test.YtgmbkelmgolkpabDoorNum
import Derived.Test.YtgmbkelmgolkpabDoorGmd
namespace Go.Proofs.YtgmbkelmgolkpabDoor
open Go.RowKit Go.Maps
set_option linter.unusedVariables false

/-- Numbers in memory, in blocks below B. -/
def IrAt (w : World) (B : Nat) (v : Value) (ss : List Int) : Prop := ∃ a cap, v = .slice a ss.length cap ∧ ss.length ≤ cap ∧ (cap ≤ 9223372036854775807 ∧ (a = none → cap = 0)) ∧ ∀ k, k < ss.length → ∃ g o cs, a = some ⟨g, o, none⟩ ∧ g < B ∧ w.heap[g]? = some (.cells cs 3 (0, 0)) ∧ cs[o + k]? = some (encI (ss.getD k 0))
theorem IrAt.shape {w : World} {B : Nat} {v : Value} {ss : List Int} (h : IrAt w B v ss) : ∃ a cap, v = .slice a ss.length cap := by
  obtain ⟨a, cap, h1, _⟩ := h
  exact ⟨a, cap, h1⟩
theorem IrAt.kept {w w' : World} {B : Nat} {v : Value} {ss : List Int} (h : IrAt w B v ss) (hb : ∀ g, g < B → g < w.heap.size → (∃ cs, w.heap[g]? = some (.cells cs 3 (0, 0))) → w'.heap[g]? = w.heap[g]?) : IrAt w' B v ss := by
  obtain ⟨a, cap, h1, h2, h3, h4⟩ := h
  refine ⟨a, cap, h1, h2, h3, fun k hk => ?_⟩
  obtain ⟨g, o, cs, e1, e2, e3, e4⟩ := h4 k hk
  exact ⟨g, o, cs, e1, e2, (hb g e2 (row_lt e3) ⟨cs, e3⟩).trans e3, e4⟩
theorem IrAt.next {w w' : World} {B : Nat} {v : Value} {ss : List Int} (h : IrAt w B v ss) (hb : Below w.heap.size w w') : IrAt w' B v ss := h.kept fun g _ hg _ => hb.block g hg
theorem IrAt.below {w w' : World} {B B' : Nat} {v : Value} {ss : List Int} (h : IrAt w B v ss) (hb : Below B' w w') (hB : B ≤ B') : IrAt w' B v ss := h.kept fun g hg _ _ => hb.block g (by omega)
theorem IrAt.stay {w w' : World} {B : Nat} {v : Value} {ss : List Int} {e' : TypeId} (h : IrAt w B v ss) (hk : Kept e' w w') (hne : (3 : TypeId) ≠ e') : IrAt w' B v ss := h.kept fun g _ hg ⟨cs, hc⟩ => hk g hg fun cs' e => by rw [hc] at e; cases e; exact hne rfl
theorem IrAt.mono {w : World} {B B' : Nat} {v : Value} {ss : List Int} (h : IrAt w B v ss) (hB : B ≤ B') : IrAt w B' v ss := by
  obtain ⟨a, cap, h1, h2, h3, h4⟩ := h
  refine ⟨a, cap, h1, h2, h3, fun k hk => ?_⟩
  obtain ⟨g, o, cs, e1, e2, e3, e4⟩ := h4 k hk
  exact ⟨g, o, cs, e1, by omega, e3, e4⟩
theorem IrAt.all {w : World} {B : Nat} {v : Value} {ss : List Int} (h : IrAt w B v ss) : IrAt w w.heap.size v ss := by
  obtain ⟨a, cap, h1, h2, h3, h4⟩ := h
  refine ⟨a, cap, h1, h2, h3, fun k hk => ?_⟩
  obtain ⟨g, o, cs, e1, e2, e3, e4⟩ := h4 k hk
  exact ⟨g, o, cs, e1, row_lt e3, e3, e4⟩
theorem IrAt.il {w : World} {B : Nat} {v : Value} {ss : List Int} (h : IrAt w B v ss) : IlAt w v ss := by
  obtain ⟨a, cap, h1, h2, h3, h4⟩ := h
  refine ⟨a, cap, h1, h2, h3.1, fun k hk => ?_⟩
  obtain ⟨g, o, cs, e1, e2, e3, e4⟩ := h4 k hk
  exact ⟨g, o, e1, row_lt e3, (cell_of_row _ _ _ _ _ _ e3).trans e4⟩
theorem ir_of_own {w : World} {base n : Nat} {v : Value} {ss : List Int} (h : w.ownsRow base 3 1 v n (ss.map encI)) (hn : n = ss.length) : IrAt w w.heap.size v ss := by
  subst hn
  rcases h.2 with ⟨rfl, h0⟩ | ⟨g, cap, cur, rfl, hb, hg, hnc, hcm, hcs, htk⟩
  · exact ⟨none, 0, by rw [h0], by omega, ⟨by omega, fun _ => rfl⟩, fun k hk => absurd hk (by omega)⟩
  · refine ⟨_, cap, rfl, hnc, ⟨by unfold maxLen at hcm; omega, nofun⟩, fun k hk => ⟨g, 0, cur, rfl, row_lt hg, hg, ?_⟩⟩
    have h5 : (cur.toList.take (ss.length * 1))[k]? = (ss.map encI)[k]? := by rw [htk]
    rw [List.getElem?_take, if_pos (by omega), List.getElem?_map, List.getElem?_eq_getElem hk, Array.getElem?_toList] at h5
    rw [Nat.zero_add, h5, List.getD_eq_getElem?_getD, List.getElem?_eq_getElem hk]
    rfl
/-- Cells that read as rules. -/
def RuB (w : World) (B : Nat) (xs : List Value) (R : List (Nat × List Int)) : Prop := xs.length = R.length * 2 ∧ ∀ k, k < R.length → ∃ rv, xs[k * 2]? = some (.int .i64 ((R.getD k (0, [])).1 : Int)) ∧ xs[k * 2 + 1]? = some rv ∧ IrAt w B rv (R.getD k (0, [])).2
theorem RuB.nil (w : World) (B : Nat) : RuB w B [] [] := ⟨rfl, fun k hk => absurd hk (by simp)⟩
theorem RuB.stay {w w' : World} {B : Nat} {xs : List Value} {R : List (Nat × List Int)} {e' : TypeId} (h : RuB w B xs R) (hk : Kept e' w w') (hne : (3 : TypeId) ≠ e') : RuB w' B xs R := ⟨h.1, fun k hk' => by
  obtain ⟨u, h1, h2, h3⟩ := h.2 k hk'
  exact ⟨u, h1, h2, h3.stay hk hne⟩⟩
theorem RuB.below {w w' : World} {B B' : Nat} {xs : List Value} {R : List (Nat × List Int)} (h : RuB w B xs R) (hb : Below B' w w') (hB : B ≤ B') : RuB w' B xs R := ⟨h.1, fun k hk' => by
  obtain ⟨u, h1, h2, h3⟩ := h.2 k hk'
  exact ⟨u, h1, h2, h3.below hb hB⟩⟩
theorem RuB.next {w w' : World} {B : Nat} {xs : List Value} {R : List (Nat × List Int)} (h : RuB w B xs R) (hb : Below w.heap.size w w') : RuB w' B xs R := ⟨h.1, fun k hk' => by
  obtain ⟨u, h1, h2, h3⟩ := h.2 k hk'
  exact ⟨u, h1, h2, h3.next hb⟩⟩
theorem RuB.mono {w : World} {B B' : Nat} {xs : List Value} {R : List (Nat × List Int)} (h : RuB w B xs R) (hB : B ≤ B') : RuB w B' xs R := ⟨h.1, fun k hk' => by
  obtain ⟨u, h1, h2, h3⟩ := h.2 k hk'
  exact ⟨u, h1, h2, h3.mono hB⟩⟩
theorem RuB.more {w : World} {B : Nat} {xs : List Value} {R : List (Nat × List Int)} (h : RuB w B xs R) {l : Nat} {rv : Value} {r : List Int} (hr : IrAt w B rv r) : RuB w B (xs ++ [.int .i64 (l : Int), rv]) (R ++ [(l, r)]) := by
  refine ⟨by rw [List.length_append, List.length_append, h.1]; simp; omega, fun k hk => ?_⟩
  rw [List.length_append, List.length_singleton] at hk
  by_cases hl : k < R.length
  · obtain ⟨u, e1, e2, e3⟩ := h.2 k hl
    refine ⟨u, ?_, ?_, ?_⟩
    · rw [List.getElem?_append_left (by rw [h.1]; omega), List.getD_eq_getElem?_getD, List.getElem?_append_left hl, ← List.getD_eq_getElem?_getD]; exact e1
    · rw [List.getElem?_append_left (by rw [h.1]; omega)]; exact e2
    · rw [List.getD_eq_getElem?_getD, List.getElem?_append_left hl, ← List.getD_eq_getElem?_getD]; exact e3
  · obtain rfl : k = R.length := by omega
    have e : (R ++ [(l, r)]).getD R.length (0, []) = (l, r) := by rw [List.getD_eq_getElem?_getD, List.getElem?_append_right (Nat.le_refl _), Nat.sub_self]; rfl
    refine ⟨rv, ?_, ?_, by rw [e]; exact hr⟩
    · rw [List.getElem?_append_right (by rw [h.1]; omega), h.1, Nat.sub_self, e]; rfl
    · rw [List.getElem?_append_right (by rw [h.1]; omega), h.1, Nat.add_sub_cancel_left]; rfl
theorem ru_of_own {w : World} {base n : Nat} {v : Value} {xs : List Value} {R : List (Nat × List Int)} {B : Nat} (h : w.ownsRow base 76 2 v n xs) (hn : n = R.length) (hr : RuB w B xs R) : RuAt w v R := by
  subst hn
  rcases h.2 with ⟨rfl, h0⟩ | ⟨g, cap, cur, rfl, hb, hg, hnc, hcm, hcs, htk⟩
  · exact ⟨none, 0, by rw [h0], fun k hk => absurd hk (by omega)⟩
  · refine ⟨_, cap, rfl, fun k hk => ?_⟩
    obtain ⟨u, e1, e2, e3⟩ := hr.2 k hk
    have c1 := h.cells (g := g) rfl (k * 2) _ e1
    have c2 := h.cells (g := g) rfl (k * 2 + 1) _ e2
    rw [Addr.add_lit] at c1 c2
    refine ⟨g, 0, u, rfl, row_lt hg, c1, ?_, e3.il⟩
    rw [show 0 + k * 2 + 1 = 0 + (k * 2 + 1) by omega]; exact c2
theorem Tryd.info76 : (Tryd.prog.info? 76).map (fun i => (i.zero, i.size, i.bytes)) = some (some (.agg #[.int .i64 0, .slice none 0 0]), 2, 32) := by kernel_rfl
theorem Tryd.under37 : Tryd.prog.underlying 37 = some (.slice 76) := by kernel_rfl
/-- A rule that is put behind rules. -/
theorem wpList_append_rule {ops : Array Oper} {rest : List Oper} {o : Oper} {a : Act} {Q : Exit → Act → World → Prop} {w : World} (hgd : o.guard = none) (s x : Operand)
    (ho : o.op = .call { callee := .builtin .append, args := #[s, x], argTypes := #[37, 37] }) (base : Nat) (v : Value) (n : Nat) (xs : List Value)
    (hs : a.eval s = v) (hown : w.ownsRow base 76 2 v n xs) (g : Nat) (y z : Value) (hx : a.eval x = .slice (some ⟨g, 0, none⟩) 1 1) (hc : w.cell? ⟨g, 0, none⟩ = some y) (hc2 : w.cell? ⟨g, 1, none⟩ = some z) (hy : y.oneCell' = true) (hz : z.oneCell' = true) (hl : n ≤ 4398046511103) (hbase : base ≤ w.heap.size)
    (h : ∀ v' w', w'.ownsRow base 76 2 v' (n + 1) (xs ++ [y, z]) → Below base w w' → Kept 76 w w' → wpList Tryd.prog ops Q rest (a.put o.dst v') w') : wpList Tryd.prog ops Q (o :: rest) a w := by
  obtain ⟨i0, hi, hz0, hz1, hz2⟩ := info_parts Tryd.info76
  refine wpList_append_own w hgd s x 37 ho base 76 i0 _ 2 32 Tryd.under37 hi hz0 hz1 hz2 rfl (by decide) v n xs hs hown ⟨g, 0, none⟩ 1 1 [y, z] hx (by simp) (fun j u hu => ?_) (by intro u hu; simp only [List.mem_cons, List.not_mem_nil, or_false] at hu; rcases hu with rfl | rfl <;> assumption) (by unfold maxLen; omega) (by omega) hbase ?_
  · rw [Addr.add_lit]
    match j, hu with
    | 0, hu => simp at hu; rw [← hu]; exact hc
    | 1, hu => simp at hu; rw [← hu]; exact hc2
    | j + 2, hu => simp at hu
  · intro v' w' h1 h2 _
    exact h v' w' h1 (row_grown hown (Below.refl _ _) h2 hbase) (kept_of_grown hown h2)
end Go.Proofs.YtgmbkelmgolkpabDoor
