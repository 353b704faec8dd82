/- What Parse answers. -/
import Derived.Test.YtgmbkelmgolkpabDoorNwb
import Derived.Test.YtgmbkelmgolkpabDoorAlt
import Derived.Test.YtgmbkelmgolkpabDoorFld
import Derived.Test.YtgmbkelmgolkpabDoorShelf
namespace Go.Proofs.YtgmbkelmgolkpabDoor
open Go.RowKit Go.Maps Go.Lib
set_option linter.unusedVariables false

set_option maxRecDepth 100000 in
theorem isBlank_any (r : Nat) (w : World) : Calls Tryd.prog 26 #[.int .i32 (r : Int)] w fun e w' => e = .returned (.bool (isBl r)) ∧ w' = w := by
  have HB : Hid (isBl r = (r == 32 || r == 9)) := rfl
  by_cases h1 : (r : Int) = 32
  · have HF : Hid (isBl r = true) := by show _ = _; rw [HB.out, show r = 32 by omega]; rfl
    rw [h1]
    go_enter Tryd.func26, Tryd.ntmps26
    go_wp2
    go_ret
    exact ⟨ret_bool HF.out.symm, rfl⟩
  · by_cases h2 : (r : Int) = 9
    · have HF : Hid (isBl r = true) := by show _ = _; rw [HB.out, show r = 9 by omega]; rfl
      rw [h2]
      go_enter Tryd.func26, Tryd.ntmps26
      go_wp2
      go_ret
      exact ⟨ret_bool HF.out.symm, rfl⟩
    · have HF : Hid (isBl r = false) := by show _ = _; rw [HB.out, beq_eq_false_iff_ne.2 (show r ≠ 32 by omega), beq_eq_false_iff_ne.2 (show r ≠ 9 by omega)]; rfl
      have h1b : ((r : Int) == 32) = false := beq_eq_false_iff_ne.2 h1
      have h2b : ((r : Int) == 9) = false := beq_eq_false_iff_ne.2 h2
      go_enter Tryd.func26, Tryd.ntmps26
      go_wp2
      go_ret
      exact ⟨ret_bool HF.out.symm, rfl⟩
theorem fieldsOf_any (l : Tx) (hl : l.length ≤ 4294967296) (w : World) : Calls Tryd.prog 25 #[.string (bA l), .func (.func 26) #[] #[]] w fun e w' => ∃ u, e = .returned u ∧ w'.ownsRow w.heap.size 9 1 u (fldS l).length ((fldS l).map encT) ∧ Below w.heap.size w w' := by
  have hp : PredAt Tryd.prog 26 #[] encR isBl w := fun W x _ => (isBlank_any x W).mono fun e w' ⟨h1, h2⟩ => ⟨h1, 0, h2⟩
  refine (Tryd.strings_FieldsFunc 26 #[] (enters_of Tryd.func26 (by kernel_rfl) rfl) isBl (bA l) w (by rw [ba_size]; exact hl) hp).mono fun e w' ⟨A, h1, _, h2, h3⟩ => ⟨_, h1, ?_, h3⟩
  have he : (fldS l).map encT = (Lib.goFieldsP isBl (bA l)).map Value.string := by
    unfold fldS
    rw [List.map_map]
    rfl
  have hn : (fldS l).length = (Lib.goFieldsP isBl (bA l)).length := by unfold fldS; rw [List.length_map]; rfl
  rw [he, hn]
  exact h2
theorem split_any (x : Tx) (hx : x.length ≤ 1048576) (m : Int) (w : World) (hm : w.cell? ⟨0, 0, none⟩ = some (.int .i64 m)) : Calls Tryd.prog 24 #[.string (bA x), .string ⟨#[10]⟩] w fun e w' => ∃ u, e = .returned u ∧ w'.ownsRow w.heap.size 9 1 u (lnsS x).length ((lnsS x).map encT) ∧ Below w.heap.size w w' := by
  refine (Tryd.strings_Split (bA x) nlB m w (by rw [ba_size]; omega) hm (by decide)).mono fun e w' ⟨h1, h2⟩ => ⟨_, h1, ?_, ?_⟩
  · have he : (lnsS x).map encT = (Lib.splitB nlB 0 (Lib.countB (bA x) nlB) (bA x)).map Value.string := by
      unfold lnsS
      rw [List.map_map]
      rfl
    have hl := lns_len x
    rw [h2, he]
    have hll : ((Lib.splitB nlB 0 (Lib.countB (bA x) nlB) (bA x)).map Value.string).length = (lnsS x).length := by rw [← he, List.length_map]
    have hc : Lib.countB (bA x) nlB + 1 = (lnsS x).length := hl.1.symm
    rw [hc]
    refine ⟨by rw [hll]; omega, .inr ⟨w.heap.size, _, _, rfl, Nat.le_refl _, heap_alloc_new _ _, Nat.le_refl _, by unfold maxLen; omega, ?_, ?_⟩⟩
    · rw [List.size_toArray, hll]; omega
    · rw [List.take_of_length_le]
      rw [hll]; omega
  · rw [h2]; exact (Below.refl _ _).alloc (Nat.le_refl _) _
/-- Rows that are put behind rows. -/
theorem wpList_append_rows {ops : Array Oper} {rest : List Oper} {o : Oper} {a : Act} {Q : Exit → Act → World → Prop} {w : World} (hgd : o.guard = none) (s x : Operand)
    (ho : o.op = .call { callee := .builtin .append, args := #[s, x], argTypes := #[50, 50] }) (base : Nat) (v : Value) (n : Nat) (xs : List Value)
    (hs : a.eval s = v) (hown : w.ownsRow base 48 1 v n xs) (b2 : Nat) (u : Value) (m : Nat) (ys : List Value) (hx : a.eval x = u) (hu : w.ownsRow b2 48 1 u m ys) (h1c : ∀ y ∈ ys, y.oneCell' = true) (hl : n + m ≤ 4398046511104) (hbase : base ≤ w.heap.size)
    (h : ∀ v' w', w'.ownsRow base 48 1 v' (n + m) (xs ++ ys) → Below base w w' → Kept 48 w w' → wpList Tryd.prog ops Q rest (a.put o.dst v') w') : wpList Tryd.prog ops Q (o :: rest) a w := by
  obtain ⟨i0, hi, hz0, hz1, hz2⟩ := info_parts Tryd.info48
  have hu' := hu
  rcases hu'.2 with ⟨rfl, rfl⟩ | ⟨g, cap, cur, rfl, hb, hg, _⟩
  · have hy : ys = [] := List.eq_nil_of_length_eq_zero (by simpa using hu.1)
    subst hy
    refine wpList_append_own_none hgd s x 50 ho base 48 i0 1 Tryd.under50 hi v n xs hs hown hx ?_
    exact h v w (by simpa using hown) (Below.refl _ _) fun _ _ _ => rfl
  · refine wpList_append_own w hgd s x 50 ho base 48 i0 _ 1 24 Tryd.under50 hi hz0 hz1 hz2 rfl (by decide) v n xs hs hown ⟨g, 0, none⟩ m cap ys hx (by rw [hu.1]) (hu.cells (g := g) rfl) h1c (by unfold maxLen; omega) (by omega) hbase ?_
    intro v' w' h1 h2 _
    exact h v' w' h1 (row_grown hown (Below.refl _ _) h2 hbase) (kept_of_grown hown h2)
theorem RvAt.one_cell {w : World} {B : Nat} {vs : List Value} {L : List (List Tx)} (h : RvAt w B vs L) : ∀ y ∈ vs, y.oneCell' = true := by
  intro y hy
  obtain ⟨k, hk, rfl⟩ := List.mem_iff_getElem.1 hy
  obtain ⟨u, h1, h2⟩ := h.2 k (by rw [← h.1]; exact hk)
  obtain ⟨a, c, rfl⟩ := h2.shape
  rw [List.getElem?_eq_getElem hk, Option.some.injEq] at h1
  rw [h1]; rfl
end Go.Proofs.YtgmbkelmgolkpabDoor
