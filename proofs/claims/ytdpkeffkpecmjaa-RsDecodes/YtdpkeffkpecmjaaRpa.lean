/- Rows with room behind them; what the document's Trim answers where something is left, and its Eval, Plus and Times. -/
import Derived.Test.YtdpkeffkpecmjaaApd
namespace Go.Proofs.Ytdpkeffkpecmjaa
open Go.RowKit
set_option linter.unusedVariables false

/-- A block begins with these bytes. -/
def RowX (w : World) (g : Nat) (L : List UInt8) : Prop := ∃ cs : List Value, w.heap[g]? = some (.cells (L.map encB ++ cs).toArray (5 : TypeId) (0, 0))
theorem RowX.lt {w : World} {g : Nat} {L : List UInt8} (h : RowX w g L) : g < w.heap.size := by obtain ⟨cs, h⟩ := h; exact row_lt h
theorem RowX.cell {w : World} {g : Nat} {L : List UInt8} (h : RowX w g L) {k : Nat} (hk : k < L.length) : w.cell? ⟨g, k, none⟩ = some (.int .u8 ((L.getD k 0).toNat : Int)) := by
  obtain ⟨cs, h⟩ := h
  rw [cell_of_row _ _ _ _ _ _ h, List.getElem?_toArray, List.getElem?_append_left (by simpa using hk), List.getElem?_map, List.getElem?_eq_getElem hk, List.getD_eq_getElem?_getD, List.getElem?_eq_getElem hk]; rfl
theorem RowX.frozen {w : World} {g : Nat} {L : List UInt8} (h : RowX w g L) (k : Nat) : w.frozen? ⟨g, k, none⟩ = false := by obtain ⟨cs, h⟩ := h; exact frozen_of_row _ _ _ _ _ h
theorem RowX.set {w : World} {g : Nat} {L : List UInt8} (h : RowX w g L) {k : Nat} (hk : k < L.length) (v : UInt8) : RowX (w.setCell ⟨g, k, none⟩ (.int .u8 (v.toNat : Int))) g (L.set k v) := by
  obtain ⟨cs, h⟩ := h
  refine ⟨cs, ?_⟩
  rw [heap_setCell_same w g k _ _ _ h]
  congr 2
  apply Array.toList_inj.1
  rw [Array.toList_setIfInBounds, List.map_set]
  show (L.map encB ++ cs).set k (encB v) = _
  rw [List.set_append_left _ _ (by simpa using hk)]
theorem RowX.below {w w' : World} {g n : Nat} {L : List UInt8} (h : RowX w g L) (hb : Below n w w') (hn : g < n) : RowX w' g L := by obtain ⟨cs, h⟩ := h; exact ⟨cs, (hb.block g hn).trans h⟩
theorem RowX.next {w w' : World} {g : Nat} {L : List UInt8} (h : RowX w g L) (hb : Below w.heap.size w w') : RowX w' g L := h.below hb h.lt
theorem RowX.put {w : World} {g k : Nat} {L : List UInt8} (h : RowX w g L) (hn : g ≠ k) (i : Nat) (v : Value) : RowX (w.setCell ⟨k, i, none⟩ v) g L := by obtain ⟨cs, h⟩ := h; exact ⟨cs, (Below.heap_setCell w ⟨k, i, none⟩ v g hn).trans h⟩
theorem RowX.sl {w : World} {g : Nat} {L : List UInt8} (h : RowX w g L) {n cap : Nat} (hn : n = L.length) (hc : n ≤ cap) (hm : cap ≤ 9223372036854775807) : SlAt w (.slice (some ⟨g, 0, none⟩) n cap) L := by
  subst hn
  refine ⟨⟨_, _, rfl, hc, hm⟩, .inr ⟨g, 0, cap, rfl, h.lt, fun j hj => ?_⟩⟩
  rw [Nat.zero_add]; exact h.cell hj
theorem RowAt.x {w : World} {g : Nat} {L : List UInt8} (h : RowAt w g L) : RowX w g L := ⟨[], by rw [List.append_nil]; exact h⟩
set_option maxRecDepth 100000 in
/-- Bytes that are put into an empty slice with no room. -/
theorem wpList_append_fresh {ops : Array Oper} {rest : List Oper} {o : Oper} {a : Act} {Q : Exit → Act → World → Prop} {w : World} (hgd : o.guard = none) (s x : Operand)
    (ho : o.op = .call { callee := .builtin .append, args := #[s, x], argTypes := #[22, 22] }) (b : Addr) (hs : a.eval s = .slice (some b) 0 0) (sl : Value) (bs : List UInt8) (hx : a.eval x = sl) (hsrc : ByAt w sl bs) (hpos : 0 < bs.length) (hl : bs.length ≤ 281474976710656)
    (h : ∀ cap w', bs.length ≤ cap → cap ≤ 9223372036854775807 → RowX w' w.heap.size bs → Below w.heap.size w w' → wpList Try.prog ops Q rest (a.put o.dst (.slice (some ⟨w.heap.size, 0, none⟩) bs.length cap)) w') : wpList Try.prog ops Q (o :: rest) a w := by
  obtain ⟨i0, hi, hz0, hz1, hz2⟩ := info_parts Try.info5
  rcases hsrc with ⟨rfl, _⟩ | ⟨g, off, cap, rfl, hg, hc⟩
  · simp at hpos
  · have hr := run_append_grow (P := Try.prog) w 22 o.type 5 i0 (.int .u8 0) Try.underlying22 hi hz0 b 0 0 [] (by simp) (fun j v hv => by simp at hv) ⟨g, off, none⟩ bs.length cap (bs.map encB) (by rw [hz1]; simp) (fun j u hu => by
      rw [List.getElem?_map] at hu
      cases hj : bs[j]? with
      | none => rw [hj] at hu; cases hu
      | some y =>
        rw [hj] at hu
        have hlt := (List.getElem?_eq_some_iff.1 hj).1
        rw [Go.WideShapes.add_plain, hc j hlt, List.getD_eq_getElem?_getD, hj]
        exact hu) (by omega) (by omega) (by rw [Nat.zero_add, next_zero _ hpos, hz2]; omega)
    rw [Nat.zero_add] at hr
    have hge := grownCap_ge w bs.length 0 5
    have hle := grownCap_le_maxLen w bs.length 0 5 (by unfold maxLen; omega)
    refine wpList_plain hgd fun K hK => ?_
    unfold Oper.wp execOp
    simp only [ho, resolve, invoke, builtin, Sem.run_bind, Sem.run_pure, Result.andThen_ok, List.map_toArray, List.map_cons, List.map_nil, hs, hx, hr]
    refine hK _ _ (h _ _ hge (by unfold maxLen at hle; omega) ⟨(Builtin.zeroCells (Value.int .u8 0).cells (grownCap w bs.length 0 5 - bs.length)).toList, ?_⟩ (((Below.refl w.heap.size w).drew).alloc (Nat.le_refl _) _))
    have e : (w.drew.alloc (.cells (#[] ++ (bs.map encB).toArray ++ Builtin.zeroCells (Value.int .u8 0).cells (grownCap w bs.length 0 5 - bs.length)) (5 : TypeId))).heap[w.drew.heap.size]? = _ := heap_alloc_last _ _
    refine e.trans ?_
    congr 2
    apply Array.toList_inj.1
    simp

theorem calls_below {f : Nat} {xs : Array Value} {w : World} {v : Value} (h : Calls Try.prog f xs w fun e w' => e = .returned v ∧ w' = w) : Calls Try.prog f xs w fun e w' => e = .returned v ∧ Below w.heap.size w w' :=
  h.mono fun e w' ⟨h1, h2⟩ => ⟨h1, by rw [h2]; exact Below.refl _ _⟩
end Go.Proofs.Ytdpkeffkpecmjaa
