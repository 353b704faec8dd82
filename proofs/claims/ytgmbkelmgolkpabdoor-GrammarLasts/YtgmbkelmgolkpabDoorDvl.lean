/- Numbers that are put behind a row of one's own, another row being apart from it. -/
import Derived.Test.YtgmbkelmgolkpabDoorCci
namespace Go.Proofs.YtgmbkelmgolkpabDoor
open Go.RowKit Go.Maps
set_option linter.unusedVariables false

theorem run_append_zero (ty : TypeId) (g n cap : Nat) (hn : n ≤ cap) (c : Nat) (w : World) : (Builtin.append_ #[27, 27] ty #[.slice (some ⟨g, 0, none⟩) n cap, .slice none 0 c]).run Tryd.prog w = .ok (.slice (some ⟨g, 0, none⟩) n cap) w := by
  obtain ⟨i0, hi, hz0, hz1, hz2⟩ := info_parts Tryd.info3
  simp [Builtin.append_, run_underlying Tryd.underlying27', sizeOf, typeInfo, hi, Builtin.lenOf, Builtin.firstCells, hn, storeCells]
theorem wpList_append_apI {ops : Array Oper} {rest : List Oper} {o : Oper} {a : Act} {Q : Exit → Act → World → Prop} {w : World} (hgd : o.guard = none) (s x : Operand)
    (ho : o.op = .call { callee := .builtin .append, args := #[s, x], argTypes := #[27, 27] }) (base g n cap : Nat) (c : List Int)
    (hs : a.eval s = .slice (some ⟨g, 0, none⟩) n cap) (hown : w.ownsRow base 3 1 (.slice (some ⟨g, 0, none⟩) n cap) n (c.map encI)) (u : Value) (m : Nat) (us : List Value) (hu : w.ownsRow base 3 1 u m us) (hap : u.ownBlock ≠ some g) (sv : Value) (y : List Int) (hx : a.eval x = sv) (hy : IlAt w sv y) (hl : n + y.length ≤ 4398046511104) (hbase : base ≤ w.heap.size)
    (h : ∀ g' cap' w', w'.ownsRow base 3 1 (.slice (some ⟨g', 0, none⟩) (n + y.length) cap') (n + y.length) ((c ++ y).map encI) → w'.ownsRow base 3 1 u m us → u.ownBlock ≠ some g' → Below base w w' → wpList Tryd.prog ops Q rest (a.put o.dst (.slice (some ⟨g', 0, none⟩) (n + y.length) cap')) w') : wpList Tryd.prog ops Q (o :: rest) a w := by
  obtain ⟨i0, hi, hz0, hz1, hz2⟩ := info_parts Tryd.info3
  obtain ⟨sa, sc, rfl, hc1, hc2, hcell⟩ := hy
  by_cases h0 : y.length = 0
  · obtain rfl := List.eq_nil_of_length_eq_zero h0
    have hnc : n ≤ cap := by
      rcases hown.2 with ⟨h1, _⟩ | ⟨_, _, _, hv, _, _, hnc, _⟩
      · cases h1
      · cases hv; exact hnc
    cases sa with
    | none =>
      refine Lib.wpList_append_run w hgd s x 27 27 ho _ _ hs hx _ _ (run_append_zero o.type g n cap hnc sc w) ?_
      exact h g cap w (by simpa using hown) hu hap (Below.refl _ _)
    | some ad =>
      refine wpList_append_fits w hgd s x 27 ho base 3 i0 1 Tryd.underlying27' hi hz1 g n cap (c.map encI) hs hown ad 0 sc [] hx rfl (fun j u hu => by simp at hu) (fun u hu => by cases hu) (by omega) ?_
      intro w' h1 h2
      refine h g cap w' (by simpa using h1) (hu.kept h2 ?_) hap (row_grown hown (Below.refl _ _) h2 hbase)
      cases hob : u.ownBlock with
      | none => exact .inl rfl
      | some k => exact .inr fun e => hap (hob.trans e)
  · obtain ⟨g0, o0, rfl, _, _⟩ := hcell 0 (by omega)
    refine wpList_append_lies w hgd s x 27 ho base 3 i0 _ 1 8 Tryd.underlying27' hi hz0 hz1 hz2 rfl (by decide) _ n (c.map encI) hs hown ⟨g0, o0, none⟩ y.length sc (y.map encI) hx (by rw [List.length_map]; omega) (fun j u hu => ?_) (by intro u hu; obtain ⟨t, _, rfl⟩ := List.mem_map.1 hu; rfl) (by omega) (by unfold maxLen; omega) (by omega) hbase w.heap.size rfl ?_
    · have hj : j < y.length := by
        rcases Nat.lt_or_ge j y.length with h1 | h1
        · exact h1
        · rw [List.getElem?_eq_none (by rw [List.length_map]; exact h1)] at hu; cases hu
      obtain ⟨g', o', e, _, e4⟩ := hcell j hj
      cases e
      rw [Addr.add_lit, e4, ← hu, List.getElem?_map, List.getElem?_eq_getElem hj, List.getD_eq_getElem?_getD, List.getElem?_eq_getElem hj]
      rfl
    · intro g' cap' w' h1 h2 h3 h4
      refine h g' cap' w' (by rw [List.map_append]; exact h1) (hu.kept h2 ?_) ?_ (row_grown hown (Below.refl _ _) h2 hbase)
      · cases hob : u.ownBlock with
        | none => exact .inl rfl
        | some k => exact .inr fun e => hap (hob.trans e)
      · rcases h3 with h3 | h3
        · simp only [Value.ownBlock, Option.some.injEq] at h3
          rw [← h3]; exact hap
        · intro e
          have := (hu.lt _ e).2
          omega
/-- A number that is put behind a row of one's own, another row being apart from it. -/
theorem wpList_append_oneI {ops : Array Oper} {rest : List Oper} {o : Oper} {a : Act} {Q : Exit → Act → World → Prop} {w : World} (hgd : o.guard = none) (s x : Operand)
    (ho : o.op = .call { callee := .builtin .append, args := #[s, x], argTypes := #[27, 27] }) (base : Nat) (v : Value) (n : Nat) (c : List Int)
    (hs : a.eval s = v) (hown : w.ownsRow base 3 1 v n (c.map encI)) (u : Value) (m : Nat) (us : List Value) (hu : w.ownsRow base 3 1 u m us) (hap : Apart v u) (g : Nat) (y : Int) (hx : a.eval x = .slice (some ⟨g, 0, none⟩) 1 1) (hc : w.cell? ⟨g, 0, none⟩ = some (.int .i64 y)) (hl : n ≤ 4398046511104) (hbase : base ≤ w.heap.size)
    (h : ∀ v' w', w'.ownsRow base 3 1 v' (n + 1) ((c ++ [y]).map encI) → w'.ownsRow base 3 1 u m us → Apart v' u → Below base w w' → wpList Tryd.prog ops Q rest (a.put o.dst v') w') : wpList Tryd.prog ops Q (o :: rest) a w := by
  obtain ⟨i0, hi, hz0, hz1, hz2⟩ := info_parts Tryd.info3
  refine wpList_append_lies w hgd s x 27 ho base 3 i0 _ 1 8 Tryd.underlying27' hi hz0 hz1 hz2 rfl (by decide) v n (c.map encI) hs hown ⟨g, 0, none⟩ 1 1 [encI y] hx (by simp) (fun j u hu => ?_) (by intro u hu; rw [List.mem_singleton] at hu; rw [hu]; rfl) (by decide) (by unfold maxLen; omega) (by omega) hbase w.heap.size rfl ?_
  · match j, hu with
    | 0, hu =>
      rw [Go.WideShapes.add_plain]
      simp at hu
      rw [← hu]; exact hc
    | j + 1, hu => simp at hu
  · intro g' cap' w' h1 h2 h3 h4
    refine h _ w' (by rw [List.map_append]; exact h1) (hu.kept h2 ?_) ?_ (row_grown hown (Below.refl _ _) h2 hbase)
    · cases hob : u.ownBlock with
      | none => exact .inl rfl
      | some k => exact .inr fun e => hap k e.symm hob
    · intro k hk
      simp only [Value.ownBlock, Option.some.injEq] at hk
      subst hk
      rcases h3 with h3 | h3
      · exact hap _ h3
      · intro e
        have := (hu.lt _ e).2
        omega
end Go.Proofs.YtgmbkelmgolkpabDoor
