/- One operation of SboxBack's four calls, whatever the frame. -/
import Derived.Test.YtdbledfpphkppaaBki
namespace Go.Proofs.Ytdbledfpphkppaa
open Go.RowKit
set_option linter.unusedVariables false

theorem size22 (C : Nat → UInt8) : (Try.prog.info? 22).map (·.size) = some (colR C).size := by
  rw [(zero_of_info Try.zero22).2]; rfl
theorem load_op {L : List Oper} {i : Nat} {o : Oper} {Q : Exit → Act → World → Prop} {K : Act → World → Prop} {a : Act} {w : World} {g t s : Nat} {C : Nat → UInt8} (hi : L[i]? = some o) (hg : o.guard = none) (ho : o.op = .load 22 (.tmp s)) (hd : o.dst = some t)
    (hx : a.eval (.tmp s) = .pointer (some ⟨g, 0, none⟩)) (hr : w.heap[g]? = some (.cells (colR C) (22 : TypeId) (0, 0))) (h : K (a.put (some t) (.agg (colR C))) w) : wpOp Try.prog L.toArray Q i K a w :=
  wpOp_plain hi (wpList_load_row hg 22 _ ho g hx 22 (colR C) (0, 0) _ hr Try.underlying22 rfl (size22 C) (.inl ⟨rfl, by rw [hd]; exact h⟩))
theorem store_op {L : List Oper} {i : Nat} {o : Oper} {Q : Exit → Act → World → Prop} {K : Act → World → Prop} {a : Act} {w : World} {g t s : Nat} {C : Nat → UInt8} {f : Nat → Int} (hi : L[i]? = some o) (hg : o.guard = none) (ho : o.op = .store 22 (.tmp s) (.tmp t)) (hd : o.dst = none)
    (hx : a.eval (.tmp s) = .pointer (some ⟨g, 0, none⟩)) (hy : a.eval (.tmp t) = .agg (colR C)) (hr : RowZ w g .u8 4 22 f) (h : K a (w.setRow g (colR C))) : wpOp Try.prog L.toArray Q i K a w :=
  wpOp_plain hi (wpList_store_row hg 22 _ _ ho g (colR C) hx hy 22 _ hr (size22 C) (by rw [rowZ_size]; exact (rowZ_size _ _ _).symm) (rowZ_one _ _ _) (.inl ⟨rfl, by rw [hd]; exact h⟩))
theorem alloc_op {L : List Oper} {i : Nat} {o : Oper} {Q : Exit → Act → World → Prop} {K : Act → World → Prop} {a : Act} {w : World} {t : Nat} (hi : L[i]? = some o) (hg : o.guard = none) (ho : o.op = .alloc 22) (hd : o.dst = some t)
    (h : K (a.put (some t) (.pointer (some ⟨w.heap.size, 0, none⟩))) (w.alloc (.cells (rowZ .u8 4 (fun _ => 0)) (22 : TypeId)))) : wpOp Try.prog L.toArray Q i K a w := by
  refine wpOp_plain hi (wpList_plain hg fun K' hK => ?_)
  have hz := (zero_of_info Try.zero22).1
  unfold Oper.wp execOp
  rw [ho]
  simp only [Instr.alloc, Sem.run_bind, hz, Result.andThen_ok]
  go_simp
  exact hK _ _ (.inl ⟨rfl, h⟩)
theorem call_op {L : List Oper} {i : Nat} {o : Oper} {Q : Exit → Act → World → Prop} {K : Act → World → Prop} {a : Act} {w : World} {t s : Nat} {C : Nat → UInt8} (hi : L[i]? = some o) (hg : o.guard = none) (ho : o.op = .call { callee := .value (.func 15), args := #[.tmp s], argTypes := #[22] }) (hd : o.dst = some t)
    (hx : a.eval (.tmp s) = .agg (colR C)) (h : ∀ w2, Below w.heap.size w w2 → K (a.put (some t) (.agg (colR (mixS C mixM)))) w2) : wpOp Try.prog L.toArray Q i K a w := by
  refine wpOp_plain hi (wpList_plain hg fun K' hK => ?_)
  unfold Oper.wp execOp
  rw [ho]
  simp only [resolve, invoke, Sem.run_bind, List.map_toArray, List.map_cons, List.map_nil, hx]
  have hf := Try.func15
  go_simp
  refine (pMix_any C w).mono ?_
  rintro e w2 ⟨rfl, hb⟩
  exact hK _ _ (.inl ⟨rfl, h w2 hb⟩)
end Go.Proofs.Ytdbledfpphkppaa
