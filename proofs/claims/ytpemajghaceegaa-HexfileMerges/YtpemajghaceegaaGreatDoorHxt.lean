/- Two segments that follow each other, joined. -/
import Derived.Test.YtpemajghaceegaaGreatDoorHxs
namespace Go.Proofs.YtpemajghaceegaaGreatDoor
open Go.RowKit
set_option linter.unusedVariables false

theorem row_cells {w : World} {base e k n : Nat} {v : Value} {xs : List Value} (h : w.ownsRow base e k v n xs) (hn : 0 < n) : ∃ g cap cur, v = .slice (some ⟨g, 0, none⟩) n cap ∧ base ≤ g ∧ w.heap[g]? = some (.cells cur e (0, 0)) ∧ n ≤ cap ∧ cap ≤ maxLen ∧ ∀ j, j < n * k → cur[j]? = xs[j]? := by
  rcases h.2 with ⟨rfl, rfl⟩ | ⟨g, cap, cur, rfl, hb, hg, h1, h2, h3, h4⟩
  · omega
  · refine ⟨g, cap, cur, rfl, hb, hg, h1, h2, fun j hj => ?_⟩
    rw [← h4, List.getElem?_take_of_lt hj, Array.getElem?_toList]
theorem Tryz.infoSg : (Tryz.prog.info? 36).map (fun i => (i.zero, i.size, i.bytes)) = some (some (.agg #[.int .i64 0, .slice none 0 0]), 2, 32) := by kernel_rfl
theorem Tryz.underSg : Tryz.prog.underlying 23 = some (.slice 36) := by kernel_rfl
theorem wpList_append_sg {ops : Array Oper} {rest : List Oper} {o : Oper} {a : Act} {Q : Exit → Act → World → Prop} {w : World} (hgd : o.guard = none) (s x : Operand)
    (ho : o.op = .call { callee := .builtin .append, args := #[s, x], argTypes := #[23, 23] }) (base : Nat) (v : Value) (n : Nat) (xs : List Value)
    (hs : a.eval s = v) (hown : w.ownsRow base 36 2 v n xs) (g : Nat) (u1 u2 : Value) (hx : a.eval x = .slice (some ⟨g, 0, none⟩) 1 1) (hg : w.heap[g]? = some (.cells #[u1, u2] 36 (0, 0))) (h1 : u1.oneCell' = true) (h2 : u2.oneCell' = true)
    (hl : n + 1 ≤ 4398046511104) (hbase : base ≤ w.heap.size)
    (h : ∀ v' w', w'.ownsRow base 36 2 v' (n + 1) (xs ++ [u1, u2]) → w.grownBy w' v.ownBlock → wpList Tryz.prog ops Q rest (a.put o.dst v') w') : wpList Tryz.prog ops Q (o :: rest) a w := by
  obtain ⟨i0, hi, hz0, hz1, hz2⟩ := info_parts Tryz.infoSg
  refine wpList_append_own w hgd s x 23 ho base 36 i0 _ 2 32 Tryz.underSg hi hz0 hz1 hz2 rfl (by decide) v n xs hs hown ⟨g, 0, none⟩ 1 1 [u1, u2] hx rfl (fun j u hu => ?_) (fun u hu => ?_) (by unfold maxLen; omega) (by omega) hbase fun v' w' h1 h2 _ => h v' w' h1 h2
  · rw [Go.WideShapes.add_plain, cell_of_row _ _ _ _ _ _ hg]
    match j, hu with
    | 0, hu => simpa using hu
    | 1, hu => simpa using hu
    | j + 2, hu => simp at hu
  · simp only [List.mem_cons, List.not_mem_nil, or_false] at hu
    rcases hu with rfl | rfl
    · exact h1
    · exact h2
set_option maxRecDepth 100000 in
set_option maxHeartbeats 800000 in
theorem fitsMemory_any (x : Sgc) (hx : x.2.2.1 ≤ 140737488355328) (w : World) : Calls Tryz.prog 26 #[.agg #[.int .i64 x.1, .slice x.2.1 x.2.2.1 x.2.2.2]] w fun e w' => e = .returned (.bool (decide (0 ≤ x.1) && decide (x.1 ≤ 65536 - x.2.2.1))) ∧ Below w.heap.size w w' := by
  obtain ⟨a, p, n, c⟩ := x
  have HAL := hidD ((Below.refl w.heap.size w).alloc (Nat.le_refl _) (.cells #[.int .i64 a, .slice p n c] (36 : TypeId)))
  by_cases h0 : 0 ≤ a
  · have h1 : a ≥ 0 := h0
    go_enter Tryz.func26, Tryz.ntmps26
    go_wp2_with fail
    go_ret
    have hw : wrap64 (65536 - (n : Int)) = 65536 - (n : Int) := by have hn : n ≤ 140737488355328 := hx; unfold wrap64; omega
    exact ⟨by simp [hw], HAL.out⟩
  · have h1 : ¬ a ≥ 0 := h0
    go_enter Tryz.func26, Tryz.ntmps26
    go_wp2_with fail
    go_ret
    exact ⟨by show _ = Ending.returned (.bool (decide (0 ≤ a) && _)); rw [decide_eq_false (Int.not_le.2 h0), Bool.false_and]; rfl, HAL.out⟩
/- the last segment's bytes in their row: what the list's block holds -/
def ListAt (w : World) (g : Nat) (a : Int) (x : Value) : Prop := ∃ cur, w.heap[g]? = some (.cells cur (36 : TypeId) (0, 0)) ∧ cur[0]? = some (.int .i64 a) ∧ cur[1]? = some x
theorem ListAt.c0 {w : World} {g : Nat} {a : Int} {x : Value} (h : ListAt w g a x) : w.cell? ⟨g, 0, none⟩ = some (.int .i64 a) := by
  obtain ⟨cur, h0, h1, h2⟩ := h
  rw [cell_of_row _ _ _ _ _ _ h0]; exact h1
theorem ListAt.c1 {w : World} {g : Nat} {a : Int} {x : Value} (h : ListAt w g a x) : w.cell? ⟨g, 1, none⟩ = some x := by
  obtain ⟨cur, h0, h1, h2⟩ := h
  rw [cell_of_row _ _ _ _ _ _ h0]; exact h2
theorem ListAt.fz {w : World} {g : Nat} {a : Int} {x : Value} (h : ListAt w g a x) : w.frozen? ⟨g, 1, none⟩ = false := by
  obtain ⟨cur, h0, h1, h2⟩ := h
  exact frozen_of_row _ _ _ _ _ h0
theorem ListAt.lt {w : World} {g : Nat} {a : Int} {x : Value} (h : ListAt w g a x) : g < w.heap.size := by
  obtain ⟨cur, h0, h1, h2⟩ := h
  exact row_lt h0
theorem ListAt.keep {w w' : World} {g : Nat} {a : Int} {x : Value} (h : ListAt w g a x) (hk : w'.heap[g]? = w.heap[g]?) : ListAt w' g a x := by
  obtain ⟨cur, h0, h1, h2⟩ := h
  exact ⟨cur, hk.trans h0, h1, h2⟩
theorem ListAt.put {w : World} {g : Nat} {a : Int} {x : Value} (h : ListAt w g a x) (y : Value) : ListAt (w.setCell ⟨g, 1, none⟩ y) g a y := by
  obtain ⟨cur, h0, h1, h2⟩ := h
  have hs : 1 < cur.size := by
    by_cases hh : 1 < cur.size
    · exact hh
    · rw [Array.getElem?_eq_none (by omega)] at h2; cases h2
  refine ⟨_, heap_setCell_same _ g 1 _ _ _ h0, ?_, ?_⟩
  · simp [h1]
  · simp [hs]
theorem ListAt.of {w : World} {base : Nat} {a : Int} {x v : Value} (h : w.ownsRow base 36 2 v 1 [.int .i64 a, x]) : ∃ g c, v = .slice (some ⟨g, 0, none⟩) 1 c ∧ base ≤ g ∧ 1 ≤ c ∧ ListAt w g a x := by
  obtain ⟨g, cap, cur, rfl, hb, hg, h1, h2, h3⟩ := row_cells h (by omega)
  exact ⟨g, cap, rfl, hb, h1, cur, hg, h3 0 (by omega), h3 1 (by omega)⟩
/- a byte row lies apart from a block: it may be written -/
theorem row_put {w : World} {base g o n k : Nat} {e : TypeId} {v : Value} {xs : List Value} (h : w.ownsRow base e k v n xs) (hg : g < base) (y : Value) : (w.setCell ⟨g, o, none⟩ y).ownsRow base e k v n xs := by
  refine ⟨h.1, ?_⟩
  rcases h.2 with h | ⟨b, cap, cur, h1, h2, h3, h4⟩
  · exact .inl h
  · exact .inr ⟨b, cap, cur, h1, h2, (heap_setCell_other w ⟨g, o, none⟩ b y (by show b ≠ g; omega)).trans h3, h4⟩
end Go.Proofs.YtpemajghaceegaaGreatDoor
