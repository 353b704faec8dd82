/- Rows of texts that are copied into memory of one's own. -/
import Derived.Test.YtmmlmpcalhfigaaCol
import Derived.Laws.AppendOwnNone
namespace Go.Proofs.Ytmmlmpcalhfigaa
open Go.RowKit Go.Maps Go.Sort
set_option linter.unusedVariables false

/-- What an append takes its values from. -/
def SrcOf (w : World) (sl : Value) (xs : List Value) : Prop :=
  (sl = .slice none 0 0 ∧ xs = []) ∨ ∃ ad cap, sl = .slice (some ad) xs.length cap ∧ ∀ j u, xs[j]? = some u → w.cell? (ad.add j) = some u
/-- append(T{}, l...): a row of one's own, l nil or not. -/
theorem wpList_append_vals {ops : Array Oper} {rest : List Oper} {o : Oper} {a : Act} {Q : Exit → Act → World → Prop} {w : World} (hgd : o.guard = none) (s x : Operand) (t : TypeId)
    (ho : o.op = .call { callee := .builtin .append, args := #[s, x], argTypes := #[t, t] }) (base : Nat) (e : TypeId) (i0 : TypeInfo) (z : Value) (bytes : Nat) (ht : Try.prog.underlying t = some (.slice e)) (hi : Try.prog.info? e = some i0) (hz0 : i0.zero = some z) (hz1 : i0.size = 1) (hz2 : i0.bytes = bytes) (hzs : z.cells.size = 1)
    (g : Nat) (xs : List Value) (hl : xs.length ≤ 1048576) (hby : bytes ≤ 16) (h1 : ∀ u ∈ xs, u.oneCell' = true)
    (hs : a.eval s = .slice (some ⟨g, 0, none⟩) 0 0) (hown : w.ownsRow base e 1 (.slice (some ⟨g, 0, none⟩) 0 0) 0 []) (sl : Value) (hx : a.eval x = sl) (hsrc : SrcOf w sl xs) (hbase : base ≤ w.heap.size)
    (h : ∀ a' c' w', w'.ownsRow base e 1 (.slice a' xs.length c') xs.length xs → w.grownBy w' (some g) → wpList Try.prog ops Q rest (a.put o.dst (.slice a' xs.length c')) w') : wpList Try.prog ops Q (o :: rest) a w := by
  rcases hsrc with ⟨h1', h2⟩ | ⟨ad, cap', h1', hc⟩
  · subst h2
    refine wpList_append_own_none hgd s x t ho base e i0 1 ht hi _ 0 [] hs hown (hx.trans h1') ?_
    exact h (some ⟨g, 0, none⟩) 0 w hown ⟨rfl, rfl, rfl, Nat.le_refl _, fun _ _ _ => rfl⟩
  · refine wpList_append_own w hgd s x t ho base e i0 z 1 bytes ht hi hz0 hz1 hz2 hzs (by decide) _ 0 [] hs hown ad xs.length cap' xs (hx.trans h1') (by simp) hc h1 (by unfold maxLen; omega) (by
      have : (0 + xs.length) * bytes ≤ 1048576 * 16 := Nat.mul_le_mul (by omega) hby
      omega) hbase ?_
    intro v' w3 hown' hg3 hnil3
    obtain ⟨a', c', rfl⟩ := row_shape hown'
    have := h a' c' w3 (by simpa using hown') hg3
    simpa using this
theorem strs_oneCell (ss : List (List UInt8)) : ∀ u ∈ ss.map encStr, u.oneCell' = true := by
  intro u hu
  obtain ⟨x, _, rfl⟩ := List.mem_map.1 hu
  rfl
theorem src_strs {w : World} {sl : Value} {ss : List (List UInt8)} (h : StrsAt w sl ss) {w' : World} (hb : Below w.heap.size w w') : SrcOf w' sl (ss.map encStr) := by
  rcases h with ⟨rfl, a, cap, rfl, hcap⟩ | ⟨g, off, cap, rfl, hg, hc⟩
  · cases a with
    | none => rw [hcap rfl]; exact .inl ⟨rfl, rfl⟩
    | some ad => exact .inr ⟨ad, cap, rfl, fun j u hu => by simp at hu⟩
  · refine .inr ⟨⟨g, off, none⟩, cap, by rw [List.length_map], fun j u hu => ?_⟩
    rw [List.getElem?_map] at hu
    cases hj : ss[j]? with
    | none => rw [hj] at hu; cases hu
    | some y =>
      rw [hj] at hu
      have hlt := (List.getElem?_eq_some_iff.1 hj).1
      rw [Go.WideShapes.add_plain, hb.cell (p := ⟨g, off + j, none⟩) hg, hc j hlt, List.getD, hj]
      exact hu
def boolsC (rs : List Bool) : List Value := rs.map fun b => Value.bool b
theorem bools_oneCell (rs : List Bool) : ∀ u ∈ boolsC rs, u.oneCell' = true := by
  intro u hu
  obtain ⟨x, _, rfl⟩ := List.mem_map.1 hu
  rfl
theorem src_bools {w : World} {a : Option Addr} {cap : Nat} {rs : List Bool} (h : CellsOf w (.slice a rs.length cap) rs.length (boolAt rs)) (hn : a = none → cap = 0) {w' : World} (hb : Below w.heap.size w w') : SrcOf w' (.slice a rs.length cap) (boolsC rs) := by
  rcases h with ⟨h0, _⟩ | ⟨g, off, cap', hsl, hg, hc⟩
  · have : rs = [] := List.eq_nil_of_length_eq_zero h0
    subst this
    cases a with
    | none => rw [hn rfl]; exact .inl ⟨rfl, rfl⟩
    | some ad => exact .inr ⟨ad, cap, rfl, fun j u hu => by simp [boolsC] at hu⟩
  · cases hsl
    refine .inr ⟨⟨g, off, none⟩, cap, by simp [boolsC], fun j u hu => ?_⟩
    unfold boolsC at hu
    rw [List.getElem?_map] at hu
    cases hj : rs[j]? with
    | none => rw [hj] at hu; cases hu
    | some y =>
      rw [hj] at hu
      have hlt := (List.getElem?_eq_some_iff.1 hj).1
      rw [Go.WideShapes.add_plain, hb.cell (p := ⟨g, off + j, none⟩) hg, hc j hlt, boolAt, List.getD, hj]
      exact hu
theorem cells_bools {w : World} {base : Nat} {a : Option Addr} {cap : Nat} {rs : List Bool} (h : w.ownsRow base 4 1 (.slice a rs.length cap) rs.length (boolsC rs)) : CellsOf w (.slice a rs.length cap) rs.length (boolAt rs) := by
  rcases h.2 with ⟨h0, h1⟩ | ⟨g, cap', cur, h0, hb, hg, hc, _⟩
  · exact .inl ⟨h1, a, cap, by rw [h1]⟩
  · cases h0
    refine .inr ⟨g, 0, cap, rfl, ?_, fun j hj => ?_⟩
    · rcases Nat.lt_or_ge g w.heap.size with h' | h'
      · exact h'
      · rw [Array.getElem?_eq_none h'] at hg; cases hg
    · rw [Nat.zero_add, h.cellAt j (by omega)]
      unfold boolsC boolAt
      rw [List.getElem?_map, List.getD, List.getElem?_eq_getElem hj]
      rfl
/-- A row of texts of one's own reads as them. -/
theorem strs_row {w : World} {base e : Nat} {a : Option Addr} {cap : Nat} {ss : List (List UInt8)} (h : w.ownsRow base e 1 (.slice a ss.length cap) ss.length (ss.map encStr)) : StrsAt w (.slice a ss.length cap) ss := by
  rcases h.2 with ⟨h0, h1⟩ | ⟨g, cap', cur, h0, hb, hg, hc, _⟩
  · have : ss = [] := List.eq_nil_of_length_eq_zero h1
    subst this
    cases h0
    exact .inl ⟨rfl, none, 0, rfl, fun _ => rfl⟩
  · cases h0
    refine .inr ⟨g, 0, cap, rfl, ?_, fun j hj => ?_⟩
    · rcases Nat.lt_or_ge g w.heap.size with h' | h'
      · exact h'
      · rw [Array.getElem?_eq_none h'] at hg; cases hg
    · rw [Nat.zero_add, h.cellAt j (by omega), List.getElem?_map, List.getD, List.getElem?_eq_getElem hj]
      rfl
def rwV (r : Rw) : Value := .slice r.a r.ss.length r.cap
/-- Rows of one's own. -/
structure OwnRows (B : Nat) (w : World) (vo : Value) (L : List Rw) : Prop where
  row : w.ownsRow B 37 1 vo L.length (L.map rwV)
  each : ∀ r ∈ L, w.ownsRow B 9 1 (rwV r) r.ss.length (r.ss.map encStr)
theorem row_ne_type {w : World} {b1 b2 t1 t2 s1 s2 n1 n2 : Nat} {v1 v2 : Value} {x1 x2 : List Value} (h1 : w.ownsRow b1 t1 s1 v1 n1 x1) (h2 : w.ownsRow b2 t2 s2 v2 n2 x2) (hne : t1 ≠ t2) : v1.ownBlock = none ∨ v1.ownBlock ≠ v2.ownBlock := by
  rcases h1.2 with ⟨rfl, _⟩ | ⟨g, cap, cur, rfl, _, hg, _⟩
  · exact .inl rfl
  · refine .inr (fun e => ?_)
    rcases h2.2 with ⟨rfl, _⟩ | ⟨g', cap', cur', rfl, _, hg', _⟩
    · cases e
    · simp only [Value.ownBlock, Option.some.injEq] at e
      subst e
      rw [hg] at hg'
      cases hg'
      exact hne rfl
/-- One more row is put behind them. -/
theorem OwnRows.more {B : Nat} {w w3 w4 : World} {vo v' : Value} {L : List Rw} {r : Rw} (h : OwnRows B w vo L) (hb : Below w.heap.size w w3) (hr : w3.ownsRow B 9 1 (rwV r) r.ss.length (r.ss.map encStr)) (o : Obj)
    (h4 : w4.ownsRow B 37 1 v' (L.length + 1) (L.map rwV ++ [rwV r])) (hg : (w3.alloc o).grownBy w4 vo.ownBlock) : OwnRows B w4 v' (L ++ [r]) := by
  have hrow3 := (row_below h.row hb).alloc o
  refine ⟨by simpa using h4, fun q hq => ?_⟩
  rcases List.mem_append.1 hq with hq | hq
  · have h3 := (row_below (h.each q hq) hb).alloc o
    exact h3.kept hg (row_ne_type h3 hrow3 (by decide))
  · obtain rfl := List.mem_singleton.1 hq
    have h3 := hr.alloc o
    exact h3.kept hg (row_ne_type h3 hrow3 (by decide))
theorem OwnRows.rows {B : Nat} {w : World} {a : Option Addr} {cap : Nat} {L : List Rw} (h : OwnRows B w (.slice a L.length cap) L) : RowsAt w (.slice a L.length cap) L := by
  refine ⟨?_, fun r hr => strs_row (h.each r hr)⟩
  rcases h.row.2 with ⟨h0, h1⟩ | ⟨g, cap', cur, h0, hb, hg, hc, _⟩
  · exact .inl ⟨List.eq_nil_of_length_eq_zero h1, a, cap, by rw [h1]⟩
  · cases h0
    refine .inr ⟨g, 0, cap, rfl, ?_, fun j hj => ?_⟩
    · rcases Nat.lt_or_ge g w.heap.size with h' | h'
      · exact h'
      · rw [Array.getElem?_eq_none h'] at hg; cases hg
    · rw [Nat.zero_add, h.row.cellAt j (by omega), List.getElem?_map, List.getElem?_eq_getElem hj, List.getD, List.getElem?_eq_getElem hj]
      rfl
/-- Two lists of rows with the same texts. -/
def SameRows (L M : List Rw) : Prop := L.map (·.ss) = M.map (·.ss)
theorem SameRows.len {L M : List Rw} (h : SameRows L M) : L.length = M.length := by simpa using congrArg List.length h
theorem SameRows.at_ {L M : List Rw} (h : SameRows L M) (i : Nat) : (L.getD i rw0).ss = (M.getD i rw0).ss := by
  have h1 : (L.map (·.ss))[i]? = (M.map (·.ss))[i]? := by rw [h]
  rw [List.getElem?_map, List.getElem?_map] at h1
  rw [List.getD, List.getD]
  cases hL : L[i]? <;> cases hM : M[i]? <;> rw [hL, hM] at h1 <;> simp at h1 ⊢
  exact h1
theorem updRow_same {ws : List Nat} {r q : Rw} (h : r.ss = q.ss) : ∀ j, updRow ws r j = updRow ws q j
  | 0 => rfl
  | j + 1 => by rw [updRow, updRow, updRow_same h j, h]
theorem wsTo_same {L M : List Rw} (h : SameRows L M) : ∀ n, wsTo L n = wsTo M n
  | 0 => rfl
  | n + 1 => by rw [wsTo, wsTo, wsTo_same h n, updRow_same (h.at_ n), h.at_ n]
theorem linesS_same {L M : List Rw} (h : SameRows L M) (rs : List Bool) : linesS L rs = linesS M rs := by
  unfold linesS
  rw [h.len]
  refine List.map_congr_left fun i _ => ?_
  unfold lineOf
  rw [h.at_ i, h.len, wsTo_same h]
theorem SameRows.small {L M : List Rw} (h : SameRows L M) (hs : SmallRows M) : SmallRows L := by
  have key : ∀ r ∈ L, ∃ q ∈ M, r.ss = q.ss := fun r hr => by
    have h1 : r.ss ∈ L.map (·.ss) := List.mem_map.2 ⟨r, hr, rfl⟩
    rw [h] at h1
    obtain ⟨q, hq, e⟩ := List.mem_map.1 h1
    exact ⟨q, hq, e.symm⟩
  refine ⟨by rw [h.len]; exact hs.rows, fun r hr => ?_, fun r hr x hx => ?_⟩
  · obtain ⟨q, hq, e⟩ := key r hr; rw [e]; exact hs.cells q hq
  · obtain ⟨q, hq, e⟩ := key r hr; rw [e] at hx; exact hs.texts q hq x hx
end Go.Proofs.Ytmmlmpcalhfigaa
