/- Sets of symbols: has, add, join. -/
import Derived.Test.YtgmbkelmgolkpabDoorBase
import Derived.Laws.ShiftsVarLaws
import Derived.Laws.BitsAllLaws
namespace Go.Proofs.YtgmbkelmgolkpabDoor
open Go.RowKit
set_option linter.unusedVariables false

/-- A set of symbols as a value: two words. -/
def lw (M : Nat) : Nat := M % 18446744073709551616
def hw (M : Nat) : Nat := M / 18446744073709551616
def setV (M : Nat) : Value := .agg #[.int .u64 (lw M : Int), .int .u64 (hw M : Int)]
/-- Sets are below this. -/
abbrev Top : Nat := 340282366920938463463374607431768211456
theorem lw_lt (M : Nat) : lw M < 18446744073709551616 := Nat.mod_lt _ (by decide)
theorem hw_lt {M : Nat} (h : M < Top) : hw M < 18446744073709551616 := Nat.div_lt_of_lt_mul h
theorem lw_bit (M : Nat) {s : Nat} (h : s < 64) : (lw M).testBit s = M.testBit s := by
  unfold lw
  rw [show (18446744073709551616 : Nat) = 2 ^ 64 from rfl, Nat.testBit_mod_two_pow, decide_eq_true h, Bool.true_and]
theorem hw_bit (M : Nat) (s : Nat) : (hw M).testBit s = M.testBit (64 + s) := by
  unfold hw
  rw [show (18446744073709551616 : Nat) = 2 ^ 64 from rfl, Nat.testBit_div_two_pow, Nat.add_comm]
theorem bit_u64 {a : Nat} (k : Nat) (ha : a < 18446744073709551616) : (bits .and .u64 ((a : Int) / 2 ^ k) 1 == 1) = a.testBit k := by
  have h1 : (a : Int) / 2 ^ k = ((a / 2 ^ k : Nat) : Int) := by simp
  have h2 : a / 2 ^ k ≤ a := Nat.div_le_self _ _
  rw [h1, show (1 : Int) = ((1 : Nat) : Int) from rfl, u64_and_nat _ _ (by omega) (by omega), nat_mask1]
  rw [Nat.testBit, Nat.shiftRight_eq_div_pow, nat_mask1']
  rcases Nat.mod_two_eq_zero_or_one (a / 2 ^ k) with h | h <;> rw [h] <;> rfl
set_option maxRecDepth 100000 in
set_option maxHeartbeats 1600000 in
theorem setHas_low (M : Nat) (hM : M < Top) (s : Nat) (hs : s < 64) (w : World) : Calls Tryd.prog 34 #[setV M, .int .i64 s] w fun e w' => e = .returned (.bool (M.testBit s)) ∧ Below w.heap.size w w' := by
  have h1 := lw_lt M
  have h2 := hw_lt hM
  have hq : (s : Int).tdiv 64 = 0 := by rw [Int.tdiv_eq_ediv_of_nonneg (by omega)]; omega
  have hq2 : (s : Int) / 64 = 0 := by omega
  have hr : (s : Int).tmod 64 = (s : Int) := by rw [Int.tmod_eq_emod_of_nonneg (by omega)]; omega
  have hr2 : (s : Int) % 64 = (s : Int) := by omega
  have HB := hidD (lw_bit M hs)
  unfold setV
  have HBB := hidD (bit_u64 s h1)
  generalize lw M = a at *
  generalize hw M = b at *
  have HW : Hid (∀ o, Below w.heap.size w (w.alloc o)) := fun o => (Below.refl _ _).alloc (Nat.le_refl _) o
  go_enter Tryd.func34, Tryd.ntmps34
  go_wp2_with fail
  go_ret
  refine ⟨?_, HW.out _⟩
  show Ending.returned (Value.bool (bits .and .u64 ((a : Int) / 2 ^ s) 1 == 1)) = _
  rw [HBB.out, HB.out]
set_option maxRecDepth 100000 in
set_option maxHeartbeats 1600000 in
theorem setHas_high (M : Nat) (hM : M < Top) (s : Nat) (hs : s < 64) (w : World) : Calls Tryd.prog 34 #[setV M, .int .i64 ((64 + s : Nat) : Int)] w fun e w' => e = .returned (.bool (M.testBit (64 + s))) ∧ Below w.heap.size w w' := by
  have h1 := lw_lt M
  have h2 := hw_lt hM
  obtain ⟨t, ht⟩ : ∃ t : Nat, t = 64 + s := ⟨_, rfl⟩
  have hq : (t : Int).tdiv 64 = 1 := by rw [Int.tdiv_eq_ediv_of_nonneg (by omega)]; omega
  have hq2 : (t : Int) / 64 = 1 := by omega
  have hr : (t : Int).tmod 64 = (s : Int) := by rw [Int.tmod_eq_emod_of_nonneg (by omega)]; omega
  have hr2 : (t : Int) % 64 = (s : Int) := by omega
  have HB := hidD (hw_bit M s)
  have htb : (t : Int) < 128 := by omega
  rw [← ht] at HB ⊢
  clear ht
  unfold setV
  have HBB := hidD (bit_u64 s h2)
  generalize lw M = a at *
  generalize hw M = b at *
  have HW : Hid (∀ o, Below w.heap.size w (w.alloc o)) := fun o => (Below.refl _ _).alloc (Nat.le_refl _) o
  go_enter Tryd.func34, Tryd.ntmps34
  go_wp2_with fail
  go_ret
  refine ⟨?_, HW.out _⟩
  show Ending.returned (Value.bool (bits .and .u64 ((b : Int) / 2 ^ s) 1 == 1)) = _
  rw [HBB.out, HB.out]
theorem setHas_any (M : Nat) (hM : M < Top) (s : Nat) (hs : s < 128) (w : World) : Calls Tryd.prog 34 #[setV M, .int .i64 s] w fun e w' => e = .returned (.bool (M.testBit s)) ∧ Below w.heap.size w w' := by
  by_cases h : s < 64
  · exact setHas_low M hM s h w
  · obtain ⟨t, rfl⟩ : ∃ t, s = 64 + t := ⟨s - 64, by omega⟩
    exact setHas_high M hM t (by omega) w
/-- A set lies in memory. -/
structure SetAt (w : World) (g o M : Nat) : Prop where
  top : M < Top
  c0 : w.cell? ⟨g, o, none⟩ = some (.int .u64 (lw M : Int))
  c1 : w.cell? ⟨g, o + 1, none⟩ = some (.int .u64 (hw M : Int))
  f0 : w.frozen? ⟨g, o, none⟩ = false
  f1 : w.frozen? ⟨g, o + 1, none⟩ = false
theorem lw_or (M N : Nat) : lw (M ||| N) = lw M ||| lw N := by
  unfold lw
  exact Nat.or_mod_two_pow (n := 64)
theorem hw_or (M N : Nat) : hw (M ||| N) = hw M ||| hw N := Nat.eq_of_testBit_eq fun i => by
  rw [Nat.testBit_or, hw_bit, hw_bit, hw_bit, Nat.testBit_or]
theorem lw_two {s : Nat} (hs : s < 64) : lw (2 ^ s) = 2 ^ s := Nat.mod_eq_of_lt (Nat.pow_lt_pow_right (a := 2) (n := 64) (by decide) hs)
theorem hw_two {s : Nat} (hs : s < 64) : hw (2 ^ s) = 0 := Nat.div_eq_of_lt (Nat.pow_lt_pow_right (a := 2) (n := 64) (by decide) hs)
theorem lw_two' (s : Nat) : lw (2 ^ (64 + s)) = 0 := by
  unfold lw
  rw [Nat.pow_add]
  exact Nat.mul_mod_right _ _
theorem hw_two' (s : Nat) : hw (2 ^ (64 + s)) = 2 ^ s := by
  unfold hw
  rw [Nat.pow_add]
  exact Nat.mul_div_cancel_left _ (by decide)
theorem or_top {M N : Nat} (h1 : M < Top) (h2 : N < Top) : M ||| N < Top := Nat.or_lt_two_pow (n := 128) h1 h2
theorem two_top {s : Nat} (h : s < 128) : 2 ^ s < Top := Nat.pow_lt_pow_right (a := 2) (n := 128) (by decide) h
theorem or_word {a s : Nat} (ha : a < 18446744073709551616) (hs : s < 64) : bits .or .u64 (a : Int) (IntKind.u64.wrap (2 ^ s)) = ((a ||| 2 ^ s : Nat) : Int) := by
  have h2 : (2 : Nat) ^ s < 18446744073709551616 := Nat.pow_lt_pow_right (a := 2) (n := 64) (by decide) hs
  have h1 : IntKind.u64.wrap ((2 : Int) ^ s) = ((2 ^ s : Nat) : Int) := by
    rw [IntKind.wrap_u64, show ((2 : Int) ^ s) = ((2 ^ s : Nat) : Int) by simp]
    generalize 2 ^ s = T at *
    omega
  rw [h1, u64_or_nat _ _ ha h2]
/-- Of a set's two words the one that an element lies in. -/
def wdS (M i : Nat) : Nat := if i < 64 then lw M else hw M
set_option maxRecDepth 100000 in
set_option maxHeartbeats 1600000 in
theorem setAdd_low (M g o : Nat) (s : Nat) (hs : s < 64) (w : World) (h : SetAt w g o M) : Calls Tryd.prog 51 #[.pointer (some ⟨g, o, none⟩), .int .i64 (s : Nat)] w fun e w' => e = .returned (.tuple #[]) ∧ w' = w.drew.setCell ⟨g, o, none⟩ (.int .u64 (lw (M ||| 2 ^ (s)) : Int)) := by
  have h1 := lw_lt M
  have h2 := hw_lt h.top
  obtain ⟨t, ht⟩ : ∃ t : Nat, t = s := ⟨_, rfl⟩
  have hq : (t : Int).tdiv 64 = 0 := by rw [Int.tdiv_eq_ediv_of_nonneg (by omega)]; omega
  have hq2 : (t : Int) / 64 = 0 := by omega
  have hr : (t : Int).tmod 64 = (s : Int) := by rw [Int.tmod_eq_emod_of_nonneg (by omega)]; omega
  have hr2 : (t : Int) % 64 = (s : Int) := by omega
  have HO := hidD (or_word (a := lw M) (s := s) (by omega) hs)
  have HL : Hid (lw (M ||| 2 ^ (s)) = lw M ||| 2 ^ s) := by show _ = _; rw [lw_or, lw_two hs]
  generalize lw (M ||| 2 ^ (s)) = R at *
  rw [← ht]
  clear ht
  have f1 : ∀ i : KB w [g], i.v.cell? ⟨g, o, none⟩ = some (.int .u64 (lw M : Int)) := fun i => (i.cell (b := g) (by simp) _).trans h.c0
  have hcd : w.drew.cell? ⟨g, o, none⟩ = some (.int .u64 (lw M : Int)) := h.c0
  have hfd : w.drew.frozen? ⟨g, o, none⟩ = false := h.f0
  clear h
  generalize lw M = a at *
  go_enter Tryd.func51, Tryd.ntmps51
  go_wp2_with fail
  refine wp_region_seg [0, 0, 0, 0, 0, 0, 0, 0, 0, 0, 0, 0, 99] 0 12 [g] (by kernel_rfl) (by kernel_rfl) (by kernel_rfl) (by kernel_rfl) (by kernel_rfl) (by kernel_rfl) (by kernel_rfl) (by kernel_rfl) (fun _ _ _ _ _ h => h) ?_
  simp only [SegW, pk, Nat.reduceMul, Nat.reduceBEq, cond_true, cond_false]
  repeat (go_big_quiet_step (fail))
  refine wpQuiet_nil ?_
  go_wp2_with fail
  refine bodyPost_end (v := .tuple #[]) (by simp [results, Tryd.results51, go_sem]) rfl ?_
  refine ⟨rfl, ?_⟩
  rw [HL.out, ← HO.out]
set_option maxRecDepth 100000 in
set_option maxHeartbeats 1600000 in
theorem setAdd_high (M g o : Nat) (s : Nat) (hs : s < 64) (w : World) (h : SetAt w g o M) : Calls Tryd.prog 51 #[.pointer (some ⟨g, o, none⟩), .int .i64 (64 + s : Nat)] w fun e w' => e = .returned (.tuple #[]) ∧ w' = w.drew.setCell ⟨g, o + 1, none⟩ (.int .u64 (hw (M ||| 2 ^ (64 + s)) : Int)) := by
  have h1 := lw_lt M
  have h2 := hw_lt h.top
  obtain ⟨t, ht⟩ : ∃ t : Nat, t = 64 + s := ⟨_, rfl⟩
  have hq : (t : Int).tdiv 64 = 1 := by rw [Int.tdiv_eq_ediv_of_nonneg (by omega)]; omega
  have hq2 : (t : Int) / 64 = 1 := by omega
  have hr : (t : Int).tmod 64 = (s : Int) := by rw [Int.tmod_eq_emod_of_nonneg (by omega)]; omega
  have hr2 : (t : Int) % 64 = (s : Int) := by omega
  have HO := hidD (or_word (a := hw M) (s := s) (by omega) hs)
  have HL : Hid (hw (M ||| 2 ^ (64 + s)) = hw M ||| 2 ^ s) := by show _ = _; rw [hw_or, hw_two']
  generalize hw (M ||| 2 ^ (64 + s)) = R at *
  rw [← ht]
  clear ht
  have f1 : ∀ i : KB w [g], i.v.cell? ⟨g, o + 1, none⟩ = some (.int .u64 (hw M : Int)) := fun i => (i.cell (b := g) (by simp) _).trans h.c1
  have hcd : w.drew.cell? ⟨g, o + 1, none⟩ = some (.int .u64 (hw M : Int)) := h.c1
  have hfd : w.drew.frozen? ⟨g, o + 1, none⟩ = false := h.f1
  clear h
  generalize hw M = a at *
  go_enter Tryd.func51, Tryd.ntmps51
  go_wp2_with fail
  refine wp_region_seg [0, 0, 0, 0, 0, 0, 0, 0, 0, 0, 0, 0, 99] 0 12 [g] (by kernel_rfl) (by kernel_rfl) (by kernel_rfl) (by kernel_rfl) (by kernel_rfl) (by kernel_rfl) (by kernel_rfl) (by kernel_rfl) (fun _ _ _ _ _ h => h) ?_
  simp only [SegW, pk, Nat.reduceMul, Nat.reduceBEq, cond_true, cond_false]
  repeat (go_big_quiet_step (fail))
  refine wpQuiet_nil ?_
  go_wp2_with fail
  refine bodyPost_end (v := .tuple #[]) (by simp [results, Tryd.results51, go_sem]) rfl ?_
  refine ⟨rfl, ?_⟩
  rw [HL.out, ← HO.out]
/-- What an added element makes of the set's words in memory. -/
theorem setAdd_any (M g o : Nat) (s : Nat) (hs : s < 128) (w : World) (h : SetAt w g o M) : Calls Tryd.prog 51 #[.pointer (some ⟨g, o, none⟩), .int .i64 s] w fun e w' => e = .returned (.tuple #[]) ∧ w' = w.drew.setCell ⟨g, o + s / 64, none⟩ (.int .u64 (wdS (M ||| 2 ^ s) s : Int)) := by
  by_cases h1 : s < 64
  · have := setAdd_low M g o s h1 w h
    rw [show s / 64 = 0 by omega, Nat.add_zero]
    unfold wdS
    rw [if_pos h1]
    exact this
  · obtain ⟨t, rfl⟩ : ∃ t, s = 64 + t := ⟨s - 64, by omega⟩
    have := setAdd_high M g o t (by omega) w h
    rw [show (64 + t) / 64 = 1 by omega]
    unfold wdS
    rw [if_neg (by omega)]
    exact this
end Go.Proofs.YtgmbkelmgolkpabDoor
