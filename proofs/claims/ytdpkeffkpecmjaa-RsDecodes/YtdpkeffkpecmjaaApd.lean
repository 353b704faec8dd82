/- Bytes that are put into an empty slice, as many as memory bears; what Trim of the document answers. -/
import Derived.Test.YtdpkeffkpecmjaaEvl
namespace Go.Proofs.Ytdpkeffkpecmjaa
open Go.RowKit
set_option linter.unusedVariables false

theorem sl_of_own {w : World} {base : Nat} {v : Value} {l : List UInt8} (h : w.ownsRow base 5 1 v l.length (l.map encB)) : SlAt w v l := by
  refine ⟨?_, row_by h⟩
  rcases h.2 with ⟨rfl, h0⟩ | ⟨g, cap, cur, rfl, hb, hg, hnc, hcm, _⟩
  · exact ⟨none, 0, by rw [h0], by omega, by omega⟩
  · exact ⟨_, cap, rfl, hnc, by unfold maxLen at hcm; omega⟩
theorem next_zero (m : Nat) (h : 0 < m) : Builtin.nextslicecap m 0 = m := by
  unfold Builtin.nextslicecap
  rw [if_pos (by omega)]
/-- Bytes that are put into an empty slice with no room. -/
theorem wpList_append_first {ops : Array Oper} {rest : List Oper} {o : Oper} {a : Act} {Q : Exit → Act → World → Prop} {w : World} (hgd : o.guard = none) (s x : Operand)
    (ho : o.op = .call { callee := .builtin .append, args := #[s, x], argTypes := #[22, 22] }) (b : Addr) (hs : a.eval s = .slice (some b) 0 0) (sl : Value) (bs : List UInt8) (hx : a.eval x = sl) (hsrc : ByAt w sl bs) (hpos : 0 < bs.length) (hl : bs.length ≤ 281474976710656)
    (h : ∀ v' w', SlAt w' v' bs → Below w.heap.size w w' → wpList Try.prog ops Q rest (a.put o.dst v') w') : wpList Try.prog ops Q (o :: rest) a w := by
  obtain ⟨i0, hi, hz0, hz1, hz2⟩ := info_parts Try.info5
  rcases hsrc with ⟨rfl, _⟩ | ⟨g, off, cap, rfl, hg, hc⟩
  · simp at hpos
  · have hr := run_append_grow (P := Try.prog) w 22 o.type 5 i0 (.int .u8 0) Try.underlying22 hi hz0 b 0 0 [] (by simp) (fun j v hv => by simp at hv) ⟨g, off, none⟩ bs.length cap (bs.map encB) (by rw [hz1]; simp) (fun j u hu => by
      rw [List.getElem?_map] at hu
      cases hj : bs[j]? with
      | none => rw [hj] at hu; cases hu
      | some y =>
        rw [hj] at hu
        have hlt := (List.getElem?_eq_some_iff.1 hj).1
        rw [Go.WideShapes.add_plain, hc j hlt, List.getD_eq_getElem?_getD, hj]
        exact hu) (by omega) (by omega) (by rw [Nat.zero_add, next_zero _ hpos, hz2]; omega)
    rw [Nat.zero_add] at hr
    have hge := grownCap_ge w bs.length 0 5
    have hle := grownCap_le_maxLen w bs.length 0 5 (by unfold maxLen; omega)
    refine wpList_plain hgd fun K hK => ?_
    unfold Oper.wp execOp
    simp only [ho, resolve, invoke, builtin, Sem.run_bind, Sem.run_pure, Result.andThen_ok, List.map_toArray, List.map_cons, List.map_nil, hs, hx, hr]
    refine hK _ _ (h _ _ ⟨⟨_, _, rfl, hge, by unfold maxLen at hle; omega⟩, .inr ⟨w.heap.size, 0, _, rfl, by simp, fun j hj => ?_⟩⟩ (((Below.refl w.heap.size w).drew).alloc (Nat.le_refl _) _))
    have e : (w.drew.alloc (.cells (#[] ++ (bs.map encB).toArray ++ Builtin.zeroCells (Value.int .u8 0).cells (grownCap w bs.length 0 5 - bs.length)) (5 : TypeId))).cell? ⟨w.drew.heap.size, 0 + j, none⟩ = _ := World.cell?_alloc_new _ _ _ _
    refine e.trans ?_
    rw [Nat.zero_add, Array.getElem?_append_left (by simpa using hj), Array.empty_append, List.getElem?_toArray, List.getElem?_map, List.getElem?_eq_getElem hj, List.getD_eq_getElem?_getD, List.getElem?_eq_getElem hj]; rfl

end Go.Proofs.Ytdpkeffkpecmjaa
