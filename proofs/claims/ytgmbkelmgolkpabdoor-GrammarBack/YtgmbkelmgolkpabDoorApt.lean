/- Appends that say which blocks stay: rows of texts, of rows, of whatever one cell. -/
import Derived.Test.YtgmbkelmgolkpabDoorGs
import Derived.ArgAppend
namespace Go.Proofs.YtgmbkelmgolkpabDoor
open Go.RowKit
set_option linter.unusedVariables false

/-- All blocks that are no rows of this type are as they were. -/
def Kept (e : TypeId) (w w' : World) : Prop := ∀ b, b < w.heap.size → (∀ cs, w.heap[b]? ≠ some (.cells cs e (0, 0))) → w'.heap[b]? = w.heap[b]?
theorem row_mono {w : World} {base base' e size n : Nat} {v : Value} {xs : List Value} (h : w.ownsRow base e size v n xs) (hb : base' ≤ base) : w.ownsRow base' e size v n xs := by
  refine ⟨h.1, ?_⟩
  rcases h.2 with h0 | ⟨g, cap, cur, hv, hbg, r⟩
  · exact .inl h0
  · exact .inr ⟨g, cap, cur, hv, by omega, r⟩
theorem kept_of_grown {w w' : World} {base e size n : Nat} {v : Value} {xs : List Value} (h : w.ownsRow base e size v n xs) (hg : w.grownBy w' v.ownBlock) : Kept e w w' := by
  intro b hb hne
  refine hg.block b hb fun e => ?_
  rcases h.2 with ⟨rfl, _⟩ | ⟨g, cap, cur, rfl, hbg, hgg, _⟩
  · cases e
  · cases e
    exact hne cur hgg
theorem kept_none {w w' : World} {e : TypeId} (hg : w.grownBy w' none) : Kept e w w' := fun b hb _ => hg.block b hb nofun
theorem Kept.row {w w' : World} {base e e' size n : Nat} {v : Value} {xs : List Value} (h : w.ownsRow base e size v n xs) (hk : Kept e' w w') (hne : e ≠ e') : w'.ownsRow base e size v n xs := by
  refine ⟨h.1, ?_⟩
  rcases h.2 with h0 | ⟨g, cap, cur, hv, hbg, hgg, r⟩
  · exact .inl h0
  · refine .inr ⟨g, cap, cur, hv, hbg, ?_, r⟩
    rw [hk g (row_lt hgg) (fun cs e1 => ?_)]
    · exact hgg
    · rw [hgg] at e1; cases e1; exact hne rfl
theorem below_none {w w' : World} (hg : w.grownBy w' none) : Below w.heap.size w w' := ⟨hg.os, hg.tape, hg.output, hg.size, fun k hk => hg.block k hk nofun⟩
theorem SrAt.stay {w w' : World} {B : Nat} {v : Value} {ss : List Tx} {e' : TypeId} (h : SrAt w B v ss) (hk : Kept e' w w') (hne : (9 : TypeId) ≠ e') : SrAt w' B v ss := h.kept fun g _ hg ⟨cs, hc⟩ => hk g hg fun cs' e => by rw [hc] at e; cases e; exact hne rfl
theorem SrAt.below {w w' : World} {B B' : Nat} {v : Value} {ss : List Tx} (h : SrAt w B v ss) (hb : Below B' w w') (hB : B ≤ B') : SrAt w' B v ss := h.kept fun g hg _ _ => hb.block g (by omega)
/-- Values that read as rows of texts. -/
def RvAt (w : World) (B : Nat) (vs : List Value) (L : List (List Tx)) : Prop := vs.length = L.length ∧ ∀ k, k < L.length → ∃ u, vs[k]? = some u ∧ SrAt w B u (L.getD k [])
theorem RvAt.nil (w : World) (B : Nat) : RvAt w B [] [] := ⟨rfl, fun k hk => absurd hk (by simp)⟩
theorem RvAt.stay {w w' : World} {B : Nat} {vs : List Value} {L : List (List Tx)} {e' : TypeId} (h : RvAt w B vs L) (hk : Kept e' w w') (hne : (9 : TypeId) ≠ e') : RvAt w' B vs L := ⟨h.1, fun k hk' => by
  obtain ⟨u, h1, h2⟩ := h.2 k hk'
  exact ⟨u, h1, h2.stay hk hne⟩⟩
theorem RvAt.below {w w' : World} {B B' : Nat} {vs : List Value} {L : List (List Tx)} (h : RvAt w B vs L) (hb : Below B' w w') (hB : B ≤ B') : RvAt w' B vs L := ⟨h.1, fun k hk' => by
  obtain ⟨u, h1, h2⟩ := h.2 k hk'
  exact ⟨u, h1, h2.below hb hB⟩⟩
theorem RvAt.next {w w' : World} {B : Nat} {vs : List Value} {L : List (List Tx)} (h : RvAt w B vs L) (hb : Below w.heap.size w w') : RvAt w' B vs L := ⟨h.1, fun k hk' => by
  obtain ⟨u, h1, h2⟩ := h.2 k hk'
  exact ⟨u, h1, h2.next hb⟩⟩
theorem RvAt.mono {w : World} {B B' : Nat} {vs : List Value} {L : List (List Tx)} (h : RvAt w B vs L) (hB : B ≤ B') : RvAt w B' vs L := ⟨h.1, fun k hk' => by
  obtain ⟨u, h1, h2⟩ := h.2 k hk'
  exact ⟨u, h1, h2.mono hB⟩⟩
theorem RvAt.more {w : World} {B : Nat} {vs us : List Value} {L M : List (List Tx)} (h : RvAt w B vs L) (h2 : RvAt w B us M) : RvAt w B (vs ++ us) (L ++ M) := by
  refine ⟨by rw [List.length_append, List.length_append, h.1, h2.1], fun k hk => ?_⟩
  by_cases hl : k < L.length
  · obtain ⟨u, e1, e2⟩ := h.2 k hl
    refine ⟨u, by rw [List.getElem?_append_left (by rw [h.1]; exact hl)]; exact e1, ?_⟩
    rw [List.getD_eq_getElem?_getD, List.getElem?_append_left hl, ← List.getD_eq_getElem?_getD]; exact e2
  · rw [List.length_append] at hk
    obtain ⟨u, e1, e2⟩ := h2.2 (k - L.length) (by omega)
    refine ⟨u, by rw [List.getElem?_append_right (by rw [h.1]; omega), h.1]; exact e1, ?_⟩
    rw [List.getD_eq_getElem?_getD, List.getElem?_append_right (by omega), ← List.getD_eq_getElem?_getD]; exact e2
theorem RvAt.one {w : World} {B : Nat} {u : Value} {c : List Tx} (h : SrAt w B u c) : RvAt w B [u] [c] := ⟨rfl, fun k hk => by
  rw [List.length_singleton] at hk
  obtain rfl : k = 0 := by omega
  exact ⟨u, rfl, h⟩⟩
theorem rl_of_own {w : World} {base n : Nat} {v : Value} {vs : List Value} {L : List (List Tx)} {B : Nat} (h : w.ownsRow base 48 1 v n vs) (hn : n = L.length) (hr : RvAt w B vs L) : RlAt w v L := by
  subst hn
  rcases h.2 with ⟨rfl, h0⟩ | ⟨g, cap, cur, rfl, hb, hg, hnc, hcm, hcs, htk⟩
  · exact ⟨none, 0, by rw [h0], by omega, by omega, fun k hk => absurd hk (by omega)⟩
  · refine ⟨_, cap, rfl, hnc, by unfold maxLen at hcm; omega, fun k hk => ?_⟩
    obtain ⟨u, e1, e2⟩ := hr.2 k hk
    refine ⟨g, 0, u, rfl, row_lt hg, ?_, e2.all⟩
    have := h.cells (g := g) rfl k u e1
    rwa [show (⟨g, 0, none⟩ : Addr).add k = ⟨g, 0 + k, none⟩ from Addr.add_lit ..] at this
theorem Tryd.info48 : (Tryd.prog.info? 48).map (fun i => (i.zero, i.size, i.bytes)) = some (some (.slice none 0 0), 1, 24) := by kernel_rfl
theorem Tryd.under48 : Tryd.prog.underlying 48 = some (.slice 9) := by kernel_rfl
theorem Tryd.under50 : Tryd.prog.underlying 50 = some (.slice 48) := by kernel_rfl
/-- A value of one cell that is put behind a row of one's own. -/
theorem wpList_append_one {e t bytes : Nat} {z : Value} (hinfo : (Tryd.prog.info? e).map (fun i => (i.zero, i.size, i.bytes)) = some (some z, 1, bytes)) (hz : z.cells.size = 1) (hbt : bytes ≤ 24) (hut : Tryd.prog.underlying t = some (.slice e))
    {ops : Array Oper} {rest : List Oper} {o : Oper} {a : Act} {Q : Exit → Act → World → Prop} {w : World} (hgd : o.guard = none) (s x : Operand)
    (ho : o.op = .call { callee := .builtin .append, args := #[s, x], argTypes := #[t, t] }) (base : Nat) (v : Value) (n : Nat) (xs : List Value)
    (hs : a.eval s = v) (hown : w.ownsRow base e 1 v n xs) (g : Nat) (y : Value) (hx : a.eval x = .slice (some ⟨g, 0, none⟩) 1 1) (hc : w.cell? ⟨g, 0, none⟩ = some y) (hy : y.oneCell' = true) (hl : n ≤ 4398046511104) (hbase : base ≤ w.heap.size)
    (h : ∀ v' w', w'.ownsRow base e 1 v' (n + 1) (xs ++ [y]) → Below base w w' → Kept e w w' → wpList Tryd.prog ops Q rest (a.put o.dst v') w') : wpList Tryd.prog ops Q (o :: rest) a w := by
  obtain ⟨i0, hi, hz0, hz1, hz2⟩ := info_parts hinfo
  refine wpList_append_own w hgd s x t ho base e i0 z 1 bytes hut hi hz0 hz1 hz2 hz (by decide) v n xs hs hown ⟨g, 0, none⟩ 1 1 [y] hx (by simp) (fun j u hu => ?_) (by intro u hu; rw [List.mem_singleton] at hu; rw [hu]; exact hy) (by unfold maxLen; omega) (Nat.le_trans (Nat.mul_le_mul_left _ hbt) (by omega)) hbase ?_
  · match j, hu with
    | 0, hu =>
      rw [Go.WideShapes.add_plain]
      simp at hu
      rw [← hu]; exact hc
    | j + 1, hu => simp at hu
  · intro v' w' h1 h2 _
    exact h v' w' h1 (row_grown hown (Below.refl _ _) h2 hbase) (kept_of_grown hown h2)
/-- A row of texts that is one's own, or one without room. -/
def CurAt (w : World) (B : Nat) (v : Value) (c : List Tx) : Prop := w.ownsRow B 9 1 v c.length (c.map encT) ∨ (∃ a, v = .slice a c.length c.length) ∧ SrAt w w.heap.size v c
theorem CurAt.sr {w : World} {B : Nat} {v : Value} {c : List Tx} (h : CurAt w B v c) : SrAt w w.heap.size v c := by
  rcases h with h | h
  · exact sr_of_own h rfl
  · exact h.2
theorem CurAt.next {w w' : World} {B : Nat} {v : Value} {c : List Tx} (h : CurAt w B v c) (hb : Below w.heap.size w w') : CurAt w' B v c := by
  rcases h with h | ⟨h1, h2⟩
  · exact .inl (row_below h hb)
  · exact .inr ⟨h1, (h2.next hb).mono hb.size⟩
theorem CurAt.stay {w w' : World} {B : Nat} {v : Value} {c : List Tx} {e' : TypeId} (h : CurAt w B v c) (hk : Kept e' w w') (hne : (9 : TypeId) ≠ e') : CurAt w' B v c := by
  rcases h with h | ⟨h1, h2⟩
  · exact .inl (Kept.row h hk hne)
  · exact .inr ⟨h1, (h2.stay hk hne).all⟩
/-- A text that is put behind it. -/
theorem wpList_append_cur {ops : Array Oper} {rest : List Oper} {o : Oper} {a : Act} {Q : Exit → Act → World → Prop} {w : World} (hgd : o.guard = none) (s x : Operand)
    (ho : o.op = .call { callee := .builtin .append, args := #[s, x], argTypes := #[48, 48] }) (B : Nat) (v : Value) (c : List Tx)
    (hs : a.eval s = v) (hcur : CurAt w B v c) (g : Nat) (y : Tx) (hx : a.eval x = .slice (some ⟨g, 0, none⟩) 1 1) (hc : w.cell? ⟨g, 0, none⟩ = some (encT y)) (hl : c.length ≤ 4398046511104) (hB : B ≤ w.heap.size)
    (h : ∀ v' w', w'.ownsRow B 9 1 v' (c.length + 1) ((c ++ [y]).map encT) → Below B w w' → Kept 9 w w' → wpList Tryd.prog ops Q rest (a.put o.dst v') w') : wpList Tryd.prog ops Q (o :: rest) a w := by
  rcases hcur with hown | ⟨⟨ad, hv⟩, hsr⟩
  · refine wpList_append_one Tryd.info9 rfl (by decide) Tryd.under48 hgd s x ho B v c.length (c.map encT) hs hown g (encT y) hx hc rfl hl hB ?_
    intro v' w' h1 h2 h3
    exact h v' w' (by rw [List.map_append]; exact h1) h2 h3
  · obtain ⟨i0, hi, hz0, hz1, hz2⟩ := info_parts Tryd.info9
    have hsr' := hsr
    obtain ⟨a', cap', e, hcc, _, hcl⟩ := hsr'
    rw [hv] at e hsr
    cases e
    refine wpList_append_grows (P := Tryd.prog) w hgd s x 48 ho 9 i0 _ 1 16 Tryd.under48 hi hz0 hz1 hz2 rfl (by decide) ad c.length c.length (c.map encT) (hs.trans hv) ?_ (by rw [List.length_map]; omega) ?_ ⟨g, 0, none⟩ 1 1 [encT y] hx (by simp) ?_ (by intro u hu; rw [List.mem_singleton] at hu; rw [hu]; rfl) (by omega) (by unfold maxLen; omega) (by omega) ?_
    · intro hn
      by_cases h0 : c.length = 0
      · exact ⟨h0, h0⟩
      · obtain ⟨g', o', e, _⟩ := hsr.cell (k := 0) (by omega)
        rw [hn] at e; cases e
    · intro b hb j u hu
      have hj : j < c.length := by
        rcases Nat.lt_or_ge j c.length with h1 | h1
        · exact h1
        · rw [List.getElem?_eq_none (by rw [List.length_map]; exact h1)] at hu; cases hu
      obtain ⟨g', o', e, _, _, e4⟩ := hsr.cell (k := j) hj
      rw [hb] at e; cases e
      rw [show (⟨g', o', none⟩ : Addr).add j = ⟨g', o' + j, none⟩ from Addr.add_lit .., e4, ← hu, List.getElem?_map, List.getElem?_eq_getElem hj, List.getD_eq_getElem?_getD, List.getElem?_eq_getElem hj]
      rfl
    · intro j u hu
      match j, hu with
      | 0, hu =>
        rw [Go.WideShapes.add_plain]
        simp at hu
        rw [← hu]; exact hc
      | j + 1, hu => simp at hu
    · intro v' w' h1 h2
      exact h v' w' (by rw [List.map_append]; exact row_mono h1 hB) ((below_none h2).mono hB) (kept_none h2)
end Go.Proofs.YtgmbkelmgolkpabDoor
