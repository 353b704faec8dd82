/- Texts of one proof, one behind the other. -/
import Derived.Test.YtgmbkelmgolkpaaDoorRfm
/- What the document's Find answers. -/
namespace Go.Proofs.YtgmbkelmgolkpaaDoor
open Go.RowKit Go.Maps
set_option linter.unusedVariables false

theorem at_lt (L : List Tx) (x : Tx) : -1 ≤ atS L x ∧ atS L x < (L.length : Int) := by
  by_cases h : x ∈ L
  · obtain ⟨j, h1, h2, _⟩ := at_mem h
    rw [h2]; omega
  · have h1 := (at_neg L x).2 h
    rcases at_spec L x L.length (Nat.le_refl _) with ⟨h2, _⟩ | ⟨j, h2, h3, _⟩
    · unfold atS; rw [h2]; omega
    · unfold atS at h1; omega
/-- The document's grammar: its four cells. -/
def RgC (w : World) (p : Nat) (v0 v1 v2 : Value) (s : Int) : Prop := w.heap[p]? = some (.cells #[v0, v1, v2, .int .i64 s] (78 : TypeId) (0, 0))
theorem RgC.cells {w : World} {p : Nat} {v0 v1 v2 : Value} {s : Int} (h : RgC w p v0 v1 v2 s) : w.cell? ⟨p, 0, none⟩ = some v0 ∧ w.cell? ⟨p, 1, none⟩ = some v1 ∧ w.cell? ⟨p, 2, none⟩ = some v2 ∧ w.cell? ⟨p, 3, none⟩ = some (.int .i64 s) :=
  ⟨(cell_of_row _ _ _ _ _ _ h).trans rfl, (cell_of_row _ _ _ _ _ _ h).trans rfl, (cell_of_row _ _ _ _ _ _ h).trans rfl, (cell_of_row _ _ _ _ _ _ h).trans rfl⟩
theorem RgC.next {w w' : World} {p : Nat} {v0 v1 v2 : Value} {s : Int} (h : RgC w p v0 v1 v2 s) (hb : Below w.heap.size w w') : RgC w' p v0 v1 v2 s := (hb.block p (row_lt h)).trans h
set_option maxRecDepth 100000 in
set_option maxHeartbeats 1600000 in
theorem refFind_any (T O : List Tx) (hT : T.length ≤ 4398046511104) (hO : O.length ≤ 4398046511104) (x : Tx) (p B : Nat) (v0 v1 v2 : Value) (s : Int) (w : World) (hp : RgC w p v0 v1 v2 s) (h0 : SrAt w B v0 T) (h1 : SrAt w B v1 O) : Calls Tryd.prog 14 #[.pointer (some ⟨p, 0, none⟩), encT x] w fun e w' => e = .returned (.int .i64 (dfS T O x)) ∧ w' = w := by
  have HA0 : Hid (Calls Tryd.prog 46 #[v0, encT x] w fun e w' => e = .returned (.int .i64 (atS T x)) ∧ w' = w) := refAt_any T hT B v0 x w h0
  have HA1 : Hid (Calls Tryd.prog 46 #[v1, encT x] w fun e w' => e = .returned (.int .i64 (atS O x)) ∧ w' = w) := refAt_any O hO B v1 x w h1
  obtain ⟨a0, k0, rfl⟩ := h0.shape
  obtain ⟨a1, k1, rfl⟩ := h1.shape
  obtain ⟨c0, c1, _, _⟩ := hp.cells
  have l0 := at_lt T x
  have l1 := at_lt O x
  have HD : Hid (dfS T O x = if x = tEnd then (T.length : Int) else if 0 ≤ atS T x then atS T x else if 0 ≤ atS O x then (T.length : Int) + 1 + atS O x else -1) := rfl
  have hq : ((bA x).toList == [36]) = decide (x = tEnd) := by
    rw [ba_list, Bool.eq_iff_iff, beq_iff_eq, decide_eq_true_eq]; rfl
  clear h0 h1 hp
  unfold encT at *
  generalize dfS T O x = R at *
  generalize T.length = n at *
  generalize O.length = m at *
  generalize atS T x = i at *
  generalize atS O x = j at *
  by_cases hx : x = tEnd
  · have hR := HD.out
    rw [if_pos hx] at hR
    subst hR
    rw [decide_eq_true hx] at hq
    clear HD HA0 HA1 hx
    generalize bA x = X at *
    go_enter Tryd.func14, Tryd.ntmps14
    go_wp2_with fail
    go_ret
    exact ⟨rfl, rfl⟩
  · rw [decide_eq_false hx] at hq
    by_cases hi : 0 ≤ i
    · have hid : decide (0 ≤ i) = true := decide_eq_true hi
      have hR := HD.out
      rw [if_neg hx, if_pos hi] at hR
      subst hR
      clear HD HA1 hx
      generalize bA x = X at *
      go_enter Tryd.func14, Tryd.ntmps14
      go_wp2_with (go_at_call 46; refine HA0.out.mono ?_; rintro e w1 ⟨rfl, rfl⟩)
      go_ret
      exact ⟨rfl, rfl⟩
    · have hid : decide (0 ≤ i) = false := decide_eq_false hi
      by_cases hj : 0 ≤ j
      · have hR := HD.out
        rw [if_neg hx, if_neg hi, if_pos hj] at hR
        subst hR
        have hjd : decide (0 ≤ j) = true := decide_eq_true hj
        have hb1 : (n : Int) + 1 ≤ 9223372036854775807 := by omega
        have hb2 : (n : Int) + 1 + j ≤ 9223372036854775807 := by omega
        clear HD hx
        generalize bA x = X at *
        go_enter Tryd.func14, Tryd.ntmps14
        go_wp2_with (first | (go_at_call 46; have := m0; clear this; refine HA1.out.mono ?_; rintro e w2 ⟨rfl, rfl⟩) | (go_at_call 46; refine HA0.out.mono ?_; clear HA0; rintro e w1 ⟨rfl, rfl⟩; have m0 := trivial))
        go_ret
        exact ⟨by go_num, rfl⟩
      · have hR := HD.out
        rw [if_neg hx, if_neg hi, if_neg hj] at hR
        subst hR
        have hjd : decide (0 ≤ j) = false := decide_eq_false hj
        clear HD hx
        generalize bA x = X at *
        go_enter Tryd.func14, Tryd.ntmps14
        go_wp2_with (first | (go_at_call 46; have := m0; clear this; refine HA1.out.mono ?_; rintro e w2 ⟨rfl, rfl⟩) | (go_at_call 46; refine HA0.out.mono ?_; clear HA0; rintro e w1 ⟨rfl, rfl⟩; have m0 := trivial))
        go_ret
        exact ⟨rfl, rfl⟩
end Go.Proofs.YtgmbkelmgolkpaaDoor
/- The document's grammar in memory; a rule put behind its rules. -/
namespace Go.Proofs.YtgmbkelmgolkpaaDoor
open Go.RowKit Go.Maps
set_option linter.unusedVariables false

theorem Tryd.info80 : (Tryd.prog.info? 80).map (fun i => (i.zero, i.size, i.bytes)) = some (some (.agg #[.int .i64 0, .slice none 0 0]), 2, 32) := by kernel_rfl
theorem Tryd.under76 : Tryd.prog.underlying 76 = some (.slice 80) := by kernel_rfl
theorem wpList_append_drule {ops : Array Oper} {rest : List Oper} {o : Oper} {a : Act} {Q : Exit → Act → World → Prop} {w : World} (hgd : o.guard = none) (s x : Operand)
    (ho : o.op = .call { callee := .builtin .append, args := #[s, x], argTypes := #[76, 76] }) (base : Nat) (v : Value) (n : Nat) (xs : List Value)
    (hs : a.eval s = v) (hown : w.ownsRow base 80 2 v n xs) (g : Nat) (y z : Value) (hx : a.eval x = .slice (some ⟨g, 0, none⟩) 1 1) (hc : w.cell? ⟨g, 0, none⟩ = some y) (hc2 : w.cell? ⟨g, 1, none⟩ = some z) (hy : y.oneCell' = true) (hz : z.oneCell' = true) (hl : n ≤ 4398046511103) (hbase : base ≤ w.heap.size)
    (h : ∀ v' w', w'.ownsRow base 80 2 v' (n + 1) (xs ++ [y, z]) → Below base w w' → Kept 80 w w' → w.grownBy w' v.ownBlock → wpList Tryd.prog ops Q rest (a.put o.dst v') w') : wpList Tryd.prog ops Q (o :: rest) a w := by
  obtain ⟨i0, hi, hz0, hz1, hz2⟩ := info_parts Tryd.info80
  refine wpList_append_own w hgd s x 76 ho base 80 i0 _ 2 32 Tryd.under76 hi hz0 hz1 hz2 rfl (by decide) v n xs hs hown ⟨g, 0, none⟩ 1 1 [y, z] hx (by simp) (fun j u hu => ?_) (by intro u hu; simp only [List.mem_cons, List.not_mem_nil, or_false] at hu; rcases hu with rfl | rfl <;> assumption) (by unfold maxLen; omega) (by omega) hbase ?_
  · rw [Addr.add_lit]
    match j, hu with
    | 0, hu => simp at hu; rw [← hu]; exact hc
    | 1, hu => simp at hu; rw [← hu]; exact hc2
    | j + 2, hu => simp at hu
  · intro v' w' h1 h2 _
    exact h v' w' h1 (row_grown hown (Below.refl _ _) h2 hbase) (kept_of_grown hown h2) h2
/-- The rules with the document's numbers. -/
def dnF (T O : List Tx) (r : List Tx) : Nat × List Int := ((dfS T O (r.getD 0 [])).toNat, (r.drop 1).map (dfS T O))
/-- The document's grammar. -/
def RgAt (w : World) (p : Nat) (T O : List Tx) (R : List (Nat × List Int)) (s : Int) : Prop :=
  ∃ v0 v1 v2 base xs, RgC w p v0 v1 v2 s ∧ SrAt w p v0 T ∧ SrAt w p v1 O ∧ w.ownsRow base 80 2 v2 R.length xs ∧ RuB w w.heap.size xs R
theorem RgAt.next {w w' : World} {p : Nat} {T O : List Tx} {R : List (Nat × List Int)} {s : Int} (h : RgAt w p T O R s) (hb : Below w.heap.size w w') : RgAt w' p T O R s := by
  obtain ⟨v0, v1, v2, base, xs, h1, h2, h3, h4, h5⟩ := h
  exact ⟨v0, v1, v2, base, xs, h1.next hb, h2.next hb, h3.next hb, row_below h4 hb, (h5.next hb).mono hb.size⟩
theorem own_none (w : World) (b : Nat) (e : TypeId) (k : Nat) : w.ownsRow b e k (.slice none 0 0) 0 [] := ⟨by simp, .inl ⟨rfl, rfl⟩⟩
theorem own_empty (w : World) : (w.alloc (.cells #[] (9 : TypeId))).ownsRow w.heap.size 9 1 (.slice (some ⟨w.heap.size, 0, none⟩) 0 0) 0 [] :=
  ⟨rfl, .inr ⟨w.heap.size, 0, #[], rfl, Nat.le_refl _, heap_alloc_new _ _, Nat.le_refl _, Nat.zero_le _, rfl, rfl⟩⟩
end Go.Proofs.YtgmbkelmgolkpaaDoor
