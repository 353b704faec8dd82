/- Texts of one proof, one behind the other. -/
import Derived.Test.YtgmbkelmgolkpaaDoorBase
import Derived.Laws.ShiftsVarLaws
import Derived.Laws.BitsAllLaws
import Derived.Deep.WholeRow
/- Sets of symbols: has, add, join. -/
namespace Go.Proofs.YtgmbkelmgolkpaaDoor
open Go.RowKit
set_option linter.unusedVariables false

/-- A set of symbols as a value: two words. -/
def lw (M : Nat) : Nat := M % 18446744073709551616
def hw (M : Nat) : Nat := M / 18446744073709551616
def setV (M : Nat) : Value := .agg #[.int .u64 (lw M : Int), .int .u64 (hw M : Int)]
/-- Sets are below this. -/
abbrev Top : Nat := 340282366920938463463374607431768211456
theorem lw_lt (M : Nat) : lw M < 18446744073709551616 := Nat.mod_lt _ (by decide)
theorem hw_lt {M : Nat} (h : M < Top) : hw M < 18446744073709551616 := Nat.div_lt_of_lt_mul h
theorem lw_bit (M : Nat) {s : Nat} (h : s < 64) : (lw M).testBit s = M.testBit s := by
  unfold lw
  rw [show (18446744073709551616 : Nat) = 2 ^ 64 from rfl, Nat.testBit_mod_two_pow, decide_eq_true h, Bool.true_and]
theorem hw_bit (M : Nat) (s : Nat) : (hw M).testBit s = M.testBit (64 + s) := by
  unfold hw
  rw [show (18446744073709551616 : Nat) = 2 ^ 64 from rfl, Nat.testBit_div_two_pow, Nat.add_comm]
theorem bit_u64 {a : Nat} (k : Nat) (ha : a < 18446744073709551616) : (bits .and .u64 ((a : Int) / 2 ^ k) 1 == 1) = a.testBit k := by
  have h1 : (a : Int) / 2 ^ k = ((a / 2 ^ k : Nat) : Int) := by simp
  have h2 : a / 2 ^ k ≤ a := Nat.div_le_self _ _
  rw [h1, show (1 : Int) = ((1 : Nat) : Int) from rfl, u64_and_nat _ _ (by omega) (by omega), nat_mask1]
  rw [Nat.testBit, Nat.shiftRight_eq_div_pow, nat_mask1']
  rcases Nat.mod_two_eq_zero_or_one (a / 2 ^ k) with h | h <;> rw [h] <;> rfl
set_option maxRecDepth 100000 in
set_option maxHeartbeats 1600000 in
theorem setHas_low (M : Nat) (hM : M < Top) (s : Nat) (hs : s < 64) (w : World) : Calls Tryd.prog 64 #[setV M, .int .i64 s] w fun e w' => e = .returned (.bool (M.testBit s)) ∧ Below w.heap.size w w' := by
  have h1 := lw_lt M
  have h2 := hw_lt hM
  have hq : (s : Int).tdiv 64 = 0 := by rw [Int.tdiv_eq_ediv_of_nonneg (by omega)]; omega
  have hq2 : (s : Int) / 64 = 0 := by omega
  have hr : (s : Int).tmod 64 = (s : Int) := by rw [Int.tmod_eq_emod_of_nonneg (by omega)]; omega
  have hr2 : (s : Int) % 64 = (s : Int) := by omega
  have HB := hidD (lw_bit M hs)
  unfold setV
  have HBB := hidD (bit_u64 s h1)
  generalize lw M = a at *
  generalize hw M = b at *
  have HW : Hid (∀ o, Below w.heap.size w (w.alloc o)) := fun o => (Below.refl _ _).alloc (Nat.le_refl _) o
  go_enter Tryd.func64, Tryd.ntmps64
  go_wp2_with fail
  go_ret
  refine ⟨?_, HW.out _⟩
  show Ending.returned (Value.bool (bits .and .u64 ((a : Int) / 2 ^ s) 1 == 1)) = _
  rw [HBB.out, HB.out]
set_option maxRecDepth 100000 in
set_option maxHeartbeats 1600000 in
theorem setHas_high (M : Nat) (hM : M < Top) (s : Nat) (hs : s < 64) (w : World) : Calls Tryd.prog 64 #[setV M, .int .i64 ((64 + s : Nat) : Int)] w fun e w' => e = .returned (.bool (M.testBit (64 + s))) ∧ Below w.heap.size w w' := by
  have h1 := lw_lt M
  have h2 := hw_lt hM
  obtain ⟨t, ht⟩ : ∃ t : Nat, t = 64 + s := ⟨_, rfl⟩
  have hq : (t : Int).tdiv 64 = 1 := by rw [Int.tdiv_eq_ediv_of_nonneg (by omega)]; omega
  have hq2 : (t : Int) / 64 = 1 := by omega
  have hr : (t : Int).tmod 64 = (s : Int) := by rw [Int.tmod_eq_emod_of_nonneg (by omega)]; omega
  have hr2 : (t : Int) % 64 = (s : Int) := by omega
  have HB := hidD (hw_bit M s)
  have htb : (t : Int) < 128 := by omega
  rw [← ht] at HB ⊢
  clear ht
  unfold setV
  have HBB := hidD (bit_u64 s h2)
  generalize lw M = a at *
  generalize hw M = b at *
  have HW : Hid (∀ o, Below w.heap.size w (w.alloc o)) := fun o => (Below.refl _ _).alloc (Nat.le_refl _) o
  go_enter Tryd.func64, Tryd.ntmps64
  go_wp2_with fail
  go_ret
  refine ⟨?_, HW.out _⟩
  show Ending.returned (Value.bool (bits .and .u64 ((b : Int) / 2 ^ s) 1 == 1)) = _
  rw [HBB.out, HB.out]
theorem setHas_any (M : Nat) (hM : M < Top) (s : Nat) (hs : s < 128) (w : World) : Calls Tryd.prog 64 #[setV M, .int .i64 s] w fun e w' => e = .returned (.bool (M.testBit s)) ∧ Below w.heap.size w w' := by
  by_cases h : s < 64
  · exact setHas_low M hM s h w
  · obtain ⟨t, rfl⟩ : ∃ t, s = 64 + t := ⟨s - 64, by omega⟩
    exact setHas_high M hM t (by omega) w
/-- A set lies in memory. -/
structure SetAt (w : World) (g o M : Nat) : Prop where
  top : M < Top
  c0 : w.cell? ⟨g, o, none⟩ = some (.int .u64 (lw M : Int))
  c1 : w.cell? ⟨g, o + 1, none⟩ = some (.int .u64 (hw M : Int))
  f0 : w.frozen? ⟨g, o, none⟩ = false
  f1 : w.frozen? ⟨g, o + 1, none⟩ = false
theorem lw_or (M N : Nat) : lw (M ||| N) = lw M ||| lw N := by
  unfold lw
  exact Nat.or_mod_two_pow (n := 64)
theorem hw_or (M N : Nat) : hw (M ||| N) = hw M ||| hw N := Nat.eq_of_testBit_eq fun i => by
  rw [Nat.testBit_or, hw_bit, hw_bit, hw_bit, Nat.testBit_or]
theorem lw_two {s : Nat} (hs : s < 64) : lw (2 ^ s) = 2 ^ s := Nat.mod_eq_of_lt (Nat.pow_lt_pow_right (a := 2) (n := 64) (by decide) hs)
theorem hw_two {s : Nat} (hs : s < 64) : hw (2 ^ s) = 0 := Nat.div_eq_of_lt (Nat.pow_lt_pow_right (a := 2) (n := 64) (by decide) hs)
theorem lw_two' (s : Nat) : lw (2 ^ (64 + s)) = 0 := by
  unfold lw
  rw [Nat.pow_add]
  exact Nat.mul_mod_right _ _
theorem hw_two' (s : Nat) : hw (2 ^ (64 + s)) = 2 ^ s := by
  unfold hw
  rw [Nat.pow_add]
  exact Nat.mul_div_cancel_left _ (by decide)
theorem or_top {M N : Nat} (h1 : M < Top) (h2 : N < Top) : M ||| N < Top := Nat.or_lt_two_pow (n := 128) h1 h2
theorem two_top {s : Nat} (h : s < 128) : 2 ^ s < Top := Nat.pow_lt_pow_right (a := 2) (n := 128) (by decide) h
theorem or_word {a s : Nat} (ha : a < 18446744073709551616) (hs : s < 64) : bits .or .u64 (a : Int) (IntKind.u64.wrap (2 ^ s)) = ((a ||| 2 ^ s : Nat) : Int) := by
  have h2 : (2 : Nat) ^ s < 18446744073709551616 := Nat.pow_lt_pow_right (a := 2) (n := 64) (by decide) hs
  have h1 : IntKind.u64.wrap ((2 : Int) ^ s) = ((2 ^ s : Nat) : Int) := by
    rw [IntKind.wrap_u64, show ((2 : Int) ^ s) = ((2 ^ s : Nat) : Int) by simp]
    generalize 2 ^ s = T at *
    omega
  rw [h1, u64_or_nat _ _ ha h2]
/-- Of a set's two words the one that an element lies in. -/
def wdS (M i : Nat) : Nat := if i < 64 then lw M else hw M
set_option maxRecDepth 100000 in
set_option maxHeartbeats 1600000 in
theorem setAdd_low (M g o : Nat) (s : Nat) (hs : s < 64) (w : World) (h : SetAt w g o M) : Calls Tryd.prog 92 #[.pointer (some ⟨g, o, none⟩), .int .i64 (s : Nat)] w fun e w' => e = .returned (.tuple #[]) ∧ w' = w.drew.setCell ⟨g, o, none⟩ (.int .u64 (lw (M ||| 2 ^ (s)) : Int)) := by
  have h1 := lw_lt M
  have h2 := hw_lt h.top
  obtain ⟨t, ht⟩ : ∃ t : Nat, t = s := ⟨_, rfl⟩
  have hq : (t : Int).tdiv 64 = 0 := by rw [Int.tdiv_eq_ediv_of_nonneg (by omega)]; omega
  have hq2 : (t : Int) / 64 = 0 := by omega
  have hr : (t : Int).tmod 64 = (s : Int) := by rw [Int.tmod_eq_emod_of_nonneg (by omega)]; omega
  have hr2 : (t : Int) % 64 = (s : Int) := by omega
  have HO := hidD (or_word (a := lw M) (s := s) (by omega) hs)
  have HL : Hid (lw (M ||| 2 ^ (s)) = lw M ||| 2 ^ s) := by show _ = _; rw [lw_or, lw_two hs]
  generalize lw (M ||| 2 ^ (s)) = R at *
  rw [← ht]
  clear ht
  have f1 : ∀ i : KB w [g], i.v.cell? ⟨g, o, none⟩ = some (.int .u64 (lw M : Int)) := fun i => (i.cell (b := g) (by simp) _).trans h.c0
  have hcd : w.drew.cell? ⟨g, o, none⟩ = some (.int .u64 (lw M : Int)) := h.c0
  have hfd : w.drew.frozen? ⟨g, o, none⟩ = false := h.f0
  clear h
  generalize lw M = a at *
  go_enter Tryd.func92, Tryd.ntmps92
  go_wp2_with fail
  refine wp_region_seg [0, 0, 0, 0, 0, 0, 0, 0, 0, 0, 0, 0, 99] 0 12 [g] (by kernel_rfl) (by kernel_rfl) (by kernel_rfl) (by kernel_rfl) (by kernel_rfl) (by kernel_rfl) (by kernel_rfl) (by kernel_rfl) (fun _ _ _ _ _ h => h) ?_
  simp only [SegW, pk, Nat.reduceMul, Nat.reduceBEq, cond_true, cond_false]
  repeat (go_big_quiet_step (fail))
  refine wpQuiet_nil ?_
  go_wp2_with fail
  refine bodyPost_end (v := .tuple #[]) (by simp [results, Tryd.results92, go_sem]) rfl ?_
  refine ⟨rfl, ?_⟩
  rw [HL.out, ← HO.out]
set_option maxRecDepth 100000 in
set_option maxHeartbeats 1600000 in
theorem setAdd_high (M g o : Nat) (s : Nat) (hs : s < 64) (w : World) (h : SetAt w g o M) : Calls Tryd.prog 92 #[.pointer (some ⟨g, o, none⟩), .int .i64 (64 + s : Nat)] w fun e w' => e = .returned (.tuple #[]) ∧ w' = w.drew.setCell ⟨g, o + 1, none⟩ (.int .u64 (hw (M ||| 2 ^ (64 + s)) : Int)) := by
  have h1 := lw_lt M
  have h2 := hw_lt h.top
  obtain ⟨t, ht⟩ : ∃ t : Nat, t = 64 + s := ⟨_, rfl⟩
  have hq : (t : Int).tdiv 64 = 1 := by rw [Int.tdiv_eq_ediv_of_nonneg (by omega)]; omega
  have hq2 : (t : Int) / 64 = 1 := by omega
  have hr : (t : Int).tmod 64 = (s : Int) := by rw [Int.tmod_eq_emod_of_nonneg (by omega)]; omega
  have hr2 : (t : Int) % 64 = (s : Int) := by omega
  have HO := hidD (or_word (a := hw M) (s := s) (by omega) hs)
  have HL : Hid (hw (M ||| 2 ^ (64 + s)) = hw M ||| 2 ^ s) := by show _ = _; rw [hw_or, hw_two']
  generalize hw (M ||| 2 ^ (64 + s)) = R at *
  rw [← ht]
  clear ht
  have f1 : ∀ i : KB w [g], i.v.cell? ⟨g, o + 1, none⟩ = some (.int .u64 (hw M : Int)) := fun i => (i.cell (b := g) (by simp) _).trans h.c1
  have hcd : w.drew.cell? ⟨g, o + 1, none⟩ = some (.int .u64 (hw M : Int)) := h.c1
  have hfd : w.drew.frozen? ⟨g, o + 1, none⟩ = false := h.f1
  clear h
  generalize hw M = a at *
  go_enter Tryd.func92, Tryd.ntmps92
  go_wp2_with fail
  refine wp_region_seg [0, 0, 0, 0, 0, 0, 0, 0, 0, 0, 0, 0, 99] 0 12 [g] (by kernel_rfl) (by kernel_rfl) (by kernel_rfl) (by kernel_rfl) (by kernel_rfl) (by kernel_rfl) (by kernel_rfl) (by kernel_rfl) (fun _ _ _ _ _ h => h) ?_
  simp only [SegW, pk, Nat.reduceMul, Nat.reduceBEq, cond_true, cond_false]
  repeat (go_big_quiet_step (fail))
  refine wpQuiet_nil ?_
  go_wp2_with fail
  refine bodyPost_end (v := .tuple #[]) (by simp [results, Tryd.results92, go_sem]) rfl ?_
  refine ⟨rfl, ?_⟩
  rw [HL.out, ← HO.out]
/-- What an added element makes of the set's words in memory. -/
theorem setAdd_any (M g o : Nat) (s : Nat) (hs : s < 128) (w : World) (h : SetAt w g o M) : Calls Tryd.prog 92 #[.pointer (some ⟨g, o, none⟩), .int .i64 s] w fun e w' => e = .returned (.tuple #[]) ∧ w' = w.drew.setCell ⟨g, o + s / 64, none⟩ (.int .u64 (wdS (M ||| 2 ^ s) s : Int)) := by
  by_cases h1 : s < 64
  · have := setAdd_low M g o s h1 w h
    rw [show s / 64 = 0 by omega, Nat.add_zero]
    unfold wdS
    rw [if_pos h1]
    exact this
  · obtain ⟨t, rfl⟩ : ∃ t, s = 64 + t := ⟨s - 64, by omega⟩
    have := setAdd_high M g o t (by omega) w h
    rw [show (64 + t) / 64 = 1 by omega]
    unfold wdS
    rw [if_neg (by omega)]
    exact this
end Go.Proofs.YtgmbkelmgolkpaaDoor
/- Sets of symbols: join, list, upTo. -/
namespace Go.Proofs.YtgmbkelmgolkpaaDoor
open Go.RowKit
set_option linter.unusedVariables false

/-- A block's cells. -/
def CsAt (w : World) (g : Nat) (cs : Array Value) (t : TypeId) : Prop := w.heap[g]? = some (.cells cs t (0, 0))
theorem CsAt.lt {w : World} {g : Nat} {cs : Array Value} {t : TypeId} (h : CsAt w g cs t) : g < w.heap.size := row_lt h
theorem CsAt.next {w w' : World} {g : Nat} {cs : Array Value} {t : TypeId} (h : CsAt w g cs t) (hb : Below w.heap.size w w') : CsAt w' g cs t := (hb.block g h.lt).trans h
theorem CsAt.cell {w : World} {g : Nat} {cs : Array Value} {t : TypeId} (h : CsAt w g cs t) (i : Nat) : w.cell? ⟨g, i, none⟩ = cs[i]? := cell_of_row _ _ _ _ _ _ h
theorem CsAt.frz {w : World} {g : Nat} {cs : Array Value} {t : TypeId} (h : CsAt w g cs t) (i : Nat) : w.frozen? ⟨g, i, none⟩ = false := frozen_of_row _ _ _ _ _ h
theorem CsAt.put {w : World} {g : Nat} {cs : Array Value} {t : TypeId} (h : CsAt w g cs t) (i : Nat) (v : Value) : CsAt (w.setCell ⟨g, i, none⟩ v) g (cs.setIfInBounds i v) t := heap_setCell_same w g i _ _ _ h
/-- A set among a block's cells. -/
structure SetIn (cs : Array Value) (o M : Nat) : Prop where
  top : M < Top
  c0 : cs[o]? = some (.int .u64 (lw M : Int))
  c1 : cs[o + 1]? = some (.int .u64 (hw M : Int))
/-- The cells with another set there. -/
def setC (cs : Array Value) (o M : Nat) : Array Value := (cs.setIfInBounds o (.int .u64 (lw M : Int))).setIfInBounds (o + 1) (.int .u64 (hw M : Int))
theorem SetIn.lt {cs : Array Value} {o M : Nat} (h : SetIn cs o M) : o + 1 < cs.size := by
  rcases Nat.lt_or_ge (o + 1) cs.size with h1 | h1
  · exact h1
  · have := h.c1; rw [Array.getElem?_eq_none h1] at this; cases this
theorem SetIn.at {w : World} {g o M : Nat} {cs : Array Value} {t : TypeId} (h : SetIn cs o M) (hc : CsAt w g cs t) : SetAt w g o M := ⟨h.top, by rw [hc.cell]; exact h.c0, by rw [hc.cell]; exact h.c1, hc.frz _, hc.frz _⟩
theorem setC_size (cs : Array Value) (o M : Nat) : (setC cs o M).size = cs.size := by simp [setC]
theorem setC_same {cs : Array Value} {o : Nat} (h : o + 1 < cs.size) {M : Nat} (hM : M < Top) : SetIn (setC cs o M) o M := by
  refine ⟨hM, ?_, ?_⟩
  · unfold setC
    rw [Array.getElem?_setIfInBounds, if_neg (by omega), Array.getElem?_setIfInBounds, if_pos rfl, if_pos (by omega)]
  · unfold setC
    rw [Array.getElem?_setIfInBounds, if_pos rfl, if_pos (by simpa using h)]
theorem setC_other (cs : Array Value) (o M i : Nat) (h0 : i ≠ o) (h1 : i ≠ o + 1) : (setC cs o M)[i]? = cs[i]? := by
  unfold setC
  rw [Array.getElem?_setIfInBounds, if_neg (fun e => h1 e.symm), Array.getElem?_setIfInBounds, if_neg (fun e => h0 e.symm)]
theorem setC_ext {cs cs' : Array Value} {o M : Nat} (h : SetIn cs' o M) (hs : cs'.size = cs.size) (ho : ∀ i, i ≠ o → i ≠ o + 1 → cs'[i]? = cs[i]?) : cs' = setC cs o M := by
  apply Array.ext_getElem?
  intro i
  have hlt : o + 1 < cs.size := by rw [← hs]; exact h.lt
  have h2 := setC_same (cs := cs) hlt h.top
  by_cases h0 : i = o
  · subst h0; rw [h.c0, h2.c0]
  · by_cases h1 : i = o + 1
    · subst h1; rw [h.c1, h2.c1]
    · rw [ho i h0 h1, setC_other _ _ _ _ h0 h1]
/-- An added element. -/
theorem setAdd_cs (M g o : Nat) (s : Nat) (hs : s < 128) (w : World) {cs : Array Value} {t : TypeId} (hc : CsAt w g cs t) (h : SetIn cs o M) : Calls Tryd.prog 92 #[.pointer (some ⟨g, o, none⟩), .int .i64 s] w fun e w' => e = .returned (.tuple #[]) ∧ CsAt w' g (setC cs o (M ||| 2 ^ s)) t ∧ But g w w' := by
  refine (setAdd_any M g o s hs w (h.at hc)).mono fun e w' ⟨h1, h2⟩ => ⟨h1, ?_, ?_⟩
  · rw [h2]
    have hd : CsAt w.drew g cs t := hc
    have hlt := h.lt
    have h3 := hd.put (o + s / 64) (.int .u64 (wdS (M ||| 2 ^ s) s : Int))
    have htop := or_top h.top (two_top hs)
    rw [setC_ext (cs := cs) (o := o) (M := M ||| 2 ^ s) (cs' := cs.setIfInBounds (o + s / 64) (.int .u64 (wdS (M ||| 2 ^ s) s : Int))) ?_ (by simp) ?_] at h3
    · exact h3
    · unfold wdS
      by_cases h4 : s < 64
      · rw [if_pos h4, show s / 64 = 0 by omega, Nat.add_zero]
        refine ⟨htop, by rw [Array.getElem?_setIfInBounds, if_pos rfl, if_pos (by omega)], ?_⟩
        rw [Array.getElem?_setIfInBounds, if_neg (by omega), h.c1, hw_or, hw_two h4, Nat.or_zero]
      · obtain ⟨u, rfl⟩ : ∃ u, s = 64 + u := ⟨s - 64, by omega⟩
        rw [if_neg h4, show (64 + u) / 64 = 1 by omega]
        refine ⟨htop, ?_, by rw [Array.getElem?_setIfInBounds, if_pos rfl, if_pos hlt]⟩
        rw [Array.getElem?_setIfInBounds, if_neg (by omega), h.c0, lw_or, lw_two', Nat.or_zero]
    · intro i h5 h6
      rw [Array.getElem?_setIfInBounds, if_neg (by have : s / 64 = 0 ∨ s / 64 = 1 := by omega
                                                   omega)]
  · rw [h2]
    exact (But.of ((Below.refl w.heap.size w).drew) (Nat.le_of_lt hc.lt)).put _ _
theorem Tryd.info84 : (Tryd.prog.info? 84).map (fun i => (i.zero, i.size, i.bytes)) = some (some (.int .u64 0), 1, 8) := by kernel_rfl
theorem index_set (C : Array Value) (k : Nat) (u : Value) (hk : k < 2) (h : C[k]? = some u) (w : World) : (Instr.index 86 (.agg C) (.int .i64 (k : Int))).run Tryd.prog w = .ok u w := by
  have hu : Tryd.prog.underlying 86 = some (.array 2 84) := by kernel_rfl
  have hpk : Tryd.prog.plainKey 84 = true := by kernel_rfl
  have hc : Tryd.prog.cellsOf 84 = 1 := by kernel_rfl
  obtain ⟨i0, hi, _⟩ := info_parts Tryd.info84
  have hn : (0 : Int) ≤ (k : Int) ∧ (k : Int) < ((2 : Nat) : Int) := by omega
  have hp := run_part_plain (P := Tryd.prog) (w := w) hpk (xs := C) (off := k) (v := u) h
  simp only [Instr.index, asIntOf, Sem.run_bind, Sem.run_pure, Result.andThen_ok, run_underlying hu, if_pos hn, run_sizeOf w hi, hc, Nat.mul_one, Int.toNat_natCast, hp]
theorem or_words {a b : Nat} (ha : a < 18446744073709551616) (hb : b < 18446744073709551616) : bits .or .u64 (a : Int) (b : Int) = ((a ||| b : Nat) : Int) := u64_or_nat a b ha hb
set_option maxRecDepth 100000 in
set_option maxHeartbeats 1600000 in
theorem setJoin_any (M N g o : Nat) (hN : N < Top) (w : World) {cs : Array Value} {t : TypeId} (hc : CsAt w g cs t) (h : SetIn cs o M) : Calls Tryd.prog 68 #[.pointer (some ⟨g, o, none⟩), setV N] w fun e w' => e = .returned (.tuple #[]) ∧ CsAt w' g (setC cs o (M ||| N)) t ∧ But g w w' := by
  have hlt := h.lt
  have HGL := hidD hc.lt
  have HC : Hid (CsAt (w.alloc (.cells #[.int .u64 (lw N : Int), .int .u64 (hw N : Int)] (86 : TypeId))) g cs t) := hc.next ((Below.refl _ _).alloc (Nat.le_refl _) _)
  have HB0 : Hid (But g w (w.alloc (.cells #[.int .u64 (lw N : Int), .int .u64 (hw N : Int)] (86 : TypeId)))) := But.of ((Below.refl _ _).alloc (Nat.le_refl _) _) (Nat.le_of_lt hc.lt)
  have hx0 := or_words (lw_lt M) (lw_lt N)
  have hx1 := or_words (hw_lt h.top) (hw_lt hN)
  have HC0 := hidD h.c0
  have HC1 : Hid ((cs.setIfInBounds o (.int .u64 (lw (M ||| N) : Int)))[o + 1]? = some (.int .u64 (hw M : Int))) := by
    show _ = _
    rw [Array.getElem?_setIfInBounds, if_neg (by omega), h.c1]
  have HS : Hid ((cs.setIfInBounds o (.int .u64 (lw (M ||| N) : Int))).setIfInBounds (o + 1) (.int .u64 (hw (M ||| N) : Int)) = setC cs o (M ||| N)) := rfl
  rw [← lw_or] at hx0
  rw [← hw_or] at hx1
  unfold setV
  generalize lw (M ||| N) = R0 at *
  generalize hw (M ||| N) = R1 at *
  generalize lw M = a0 at *
  generalize hw M = a1 at *
  generalize lw N = b0 at *
  generalize hw N = b1 at *
  have hi0 : ∀ w, (Instr.index 86 (.agg #[.int .u64 (b0 : Int), .int .u64 (b1 : Int)]) (.int .i64 0)).run Tryd.prog w = .ok (.int .u64 (b0 : Int)) w := fun w => index_set _ 0 _ (by omega) rfl w
  have hi1 : ∀ w, (Instr.index 86 (.agg #[.int .u64 (b0 : Int), .int .u64 (b1 : Int)]) (.int .i64 1)).run Tryd.prog w = .ok (.int .u64 (b1 : Int)) w := fun w => index_set _ 1 _ (by omega) rfl w
  clear h hc
  go_enter Tryd.func68, Tryd.ntmps68
  go_wp2_with fail
  go_loopw [7] (fun i wr => ∃ k : Nat, k ≤ 2 ∧ i = .int .i64 k ∧ CsAt wr g (if k = 0 then cs else if k = 1 then cs.setIfInBounds o (.int .u64 (R0 : Int)) else (cs.setIfInBounds o (.int .u64 (R0 : Int))).setIfInBounds (o + 1) (.int .u64 (R1 : Int))) t ∧ But g w wr) (fun i _ => 2 - (intOf i).toNat)
  case atStart => exact ⟨0, by omega, rfl, HC.out, HB0.out⟩
  case round =>
    obtain ⟨k, hk, rfl, hcs, hbut⟩ := hrel
    have HBU := hidD hbut
    rcases (show k = 0 ∨ k = 1 ∨ k = 2 by omega) with rfl | rfl | rfl
    · rw [if_pos rfl] at hcs
      have hcell : wr.cell? ⟨g, o, none⟩ = some (.int .u64 (a0 : Int)) := by rw [hcs.cell]; exact HC0.out
      have f1 : ∀ i : KB wr [g], i.v.cell? ⟨g, o, none⟩ = some (.int .u64 (a0 : Int)) := fun i => (i.cell (b := g) (by simp) _).trans hcell
      have hcd : wr.drew.cell? ⟨g, o, none⟩ = some (.int .u64 (a0 : Int)) := hcell
      have hfd : wr.drew.frozen? ⟨g, o, none⟩ = false := hcs.frz o
      have HN : Hid (CsAt (wr.drew.setCell ⟨g, o, none⟩ (.int .u64 (R0 : Int))) g (cs.setIfInBounds o (.int .u64 (R0 : Int))) t) := (show CsAt wr.drew g cs t from hcs).put o _
      have HBN : Hid (But g w (wr.drew.setCell ⟨g, o, none⟩ (.int .u64 (R0 : Int)))) := (hbut.next ((Below.refl wr.heap.size wr).drew) (Nat.le_of_lt HGL.out)).put o _
      clear hcs hbut hcell
      go_wp2_with fail
      refine wp_region_seg [0, 0, 0, 0, 0, 0, 0, 0, 0, 99] 0 9 [g] (by kernel_rfl) (by kernel_rfl) (by kernel_rfl) (by kernel_rfl) (by kernel_rfl) (by kernel_rfl) (by kernel_rfl) (by kernel_rfl) (fun _ _ _ _ _ h => h) ?_
      simp only [SegW, pk, Nat.reduceMul, Nat.reduceBEq, cond_true, cond_false]
      repeat (go_big_quiet_step (fail))
      refine wpQuiet_nil ?_
      go_wp2_with fail
      go_roundw
      case rel => exact ⟨1, by omega, by go_num, by rw [if_neg (by decide), if_pos rfl]; exact HN.out, HBN.out⟩
      case measure => simp [intOf]
    · rw [if_neg (by decide), if_pos rfl] at hcs
      have hcell : wr.cell? ⟨g, o + 1, none⟩ = some (.int .u64 (a1 : Int)) := by rw [hcs.cell]; exact HC1.out
      have f1 : ∀ i : KB wr [g], i.v.cell? ⟨g, o + 1, none⟩ = some (.int .u64 (a1 : Int)) := fun i => (i.cell (b := g) (by simp) _).trans hcell
      have hcd : wr.drew.cell? ⟨g, o + 1, none⟩ = some (.int .u64 (a1 : Int)) := hcell
      have hfd : wr.drew.frozen? ⟨g, o + 1, none⟩ = false := hcs.frz (o + 1)
      have HN : Hid (CsAt (wr.drew.setCell ⟨g, o + 1, none⟩ (.int .u64 (R1 : Int))) g ((cs.setIfInBounds o (.int .u64 (R0 : Int))).setIfInBounds (o + 1) (.int .u64 (R1 : Int))) t) := (show CsAt wr.drew g _ t from hcs).put (o + 1) _
      have HBN : Hid (But g w (wr.drew.setCell ⟨g, o + 1, none⟩ (.int .u64 (R1 : Int)))) := (hbut.next ((Below.refl wr.heap.size wr).drew) (Nat.le_of_lt HGL.out)).put (o + 1) _
      clear hcs hbut hcell
      go_wp2_with fail
      refine wp_region_seg [0, 0, 0, 0, 0, 0, 0, 0, 0, 99] 0 9 [g] (by kernel_rfl) (by kernel_rfl) (by kernel_rfl) (by kernel_rfl) (by kernel_rfl) (by kernel_rfl) (by kernel_rfl) (by kernel_rfl) (fun _ _ _ _ _ h => h) ?_
      simp only [SegW, pk, Nat.reduceMul, Nat.reduceBEq, cond_true, cond_false]
      repeat (go_big_quiet_step (fail))
      refine wpQuiet_nil ?_
      go_wp2_with fail
      go_roundw
      case rel => exact ⟨2, by omega, by go_num, by rw [if_neg (by decide), if_neg (by decide)]; exact HN.out, HBN.out⟩
      case measure => simp [intOf]
    · rw [if_neg (by decide), if_neg (by decide)] at hcs
      have HN := hidD hcs
      clear hcs hbut
      go_wp2_with fail
      refine bodyPost_end (v := .tuple #[]) (by simp [results, Tryd.results68, go_sem]) rfl ?_
      exact ⟨rfl, by rw [← HS.out]; exact HN.out, HBU.out⟩
end Go.Proofs.YtgmbkelmgolkpaaDoor
/- Sets of symbols: list, upTo; numbers held against numbers. -/
namespace Go.Proofs.YtgmbkelmgolkpaaDoor
open Go.RowKit
set_option linter.unusedVariables false

/-- A set's elements below k, rising. -/
def liTo (M : Nat) : Nat → List Int
  | 0 => []
  | k + 1 => if M.testBit k then liTo M k ++ [(k : Int)] else liTo M k
theorem liTo_len (M : Nat) : ∀ k, (liTo M k).length ≤ k
  | 0 => Nat.le_refl _
  | k + 1 => by
    have := liTo_len M k
    rw [liTo]; split
    · rw [List.length_append, List.length_singleton]; omega
    · omega
set_option maxRecDepth 100000 in
set_option maxHeartbeats 1600000 in
theorem setList_any (M : Nat) (hM : M < Top) (w : World) : Calls Tryd.prog 69 #[setV M] w fun e w' => ∃ u, e = .returned u ∧ IlAt w' u (liTo M 128) ∧ Below w.heap.size w w' := by
  have HH := hidD (fun s hs w' => setHas_any M hM s hs w')
  have HLN := hidD (liTo_len M)
  have HLX : Hid (∀ k, liTo M (k + 1) = if M.testBit k then liTo M k ++ [(k : Int)] else liTo M k) := fun k => rfl
  have HAL : Hid (∀ (w' : World) o, Below w'.heap.size w' (w'.alloc o)) := fun w' o => (Below.refl _ _).alloc (Nat.le_refl _) o
  have HB0 : Hid (Below w.heap.size w (w.alloc (.cells #[.int .u64 (lw M : Int), .int .u64 (hw M : Int)] (86 : TypeId)))) := HAL.out _ _
  have HC0 : Hid (CsAt (w.alloc (.cells #[.int .u64 (lw M : Int), .int .u64 (hw M : Int)] (86 : TypeId))) w.heap.size #[.int .u64 (lw M : Int), .int .u64 (hw M : Int)] 86) := heap_alloc_last _ _
  unfold setV at HH ⊢
  generalize lw M = a at *
  generalize hw M = b at *
  go_enter Tryd.func69, Tryd.ntmps69
  go_wp2_with fail
  generalize hW1 : (w.alloc (.cells #[.int .u64 (a : Int), .int .u64 (b : Int)] (86 : TypeId))) = w1 at *
  clear hW1
  have HG := hidD HC0.out.lt
  go_loopw [3, 5] (fun o i wr => ∃ k : Nat, k ≤ 128 ∧ i = .int .i64 k ∧ wr.ownsRow w1.heap.size 3 1 o (liTo M k).length ((liTo M k).map encI) ∧ Below w1.heap.size w1 wr) (fun _ i _ => 128 - (intOf i).toNat)
  case atStart => exact ⟨0, by omega, rfl, World.ownsRow_nil _ _ _ _, Below.refl _ _⟩
  case round =>
    obtain ⟨k, hk, rfl, hown, hbel⟩ := hrel
    have HOW := hidD hown
    have HBW := hidD hbel
    by_cases hlt : k < 128
    · have hlti : (k : Int) < 128 := by omega
      have f0 : wr.cell? ⟨w.heap.size, 0, none⟩ = some (.int .u64 (a : Int)) := (hbel.cell (p := ⟨w.heap.size, 0, none⟩) HG.out).trans (by rw [HC0.out.cell]; rfl)
      have f1 : wr.cell? ⟨w.heap.size, 1, none⟩ = some (.int .u64 (b : Int)) := (hbel.cell (p := ⟨w.heap.size, 1, none⟩) HG.out).trans (by rw [HC0.out.cell]; rfl)
      have HHK := hidD (fun w' => HH.out k hlt w')
      have HNX := hidD (HLX.out k)
      have hln := HLN.out k
      clear hown hbel
      generalize hLL : liTo M k = LL at *
      clear hLL
      generalize hll : LL.length = ll at *
      have HLL := hidD hll
      clear hll
      obtain ⟨a5, c5, h5⟩ := row_shape HOW.out
      subst h5
      cases hb : M.testBit k with
      | true =>
        rw [hb] at HHK HNX
        rw [if_pos rfl] at HNX
        clear hb
        go_wp2_with (first
          | (go_at_call 64; refine (HHK.out _).mono ?_; rintro e w5 ⟨rfl, hb5⟩; have HO5 := hidD (row_below HOW.out hb5); have HB5 := hidD (Below.next HBW.out hb5); clear hb5)
          | (at_builtin; refine wpList_append_int rfl _ _ rfl w1.heap.size (.slice a5 ll c5) ll (LL.map encI) rfl (HO5.out.alloc _) w5.heap.size (k : Int) rfl (new_cell1 w5 (.int .i64 (k : Int)) 3 0 _ rfl) (by omega) (by have := HB5.out.size; simp; omega) ?_; intro v8 w8 hown8 hg8; have HO8 := hidD hown8; have HB8 := hidD (row_grown (HO5.out.alloc _) (Below.next HB5.out (HAL.out _ _)) hg8 (by have := HB5.out.size; simp; omega)); clear hown8 hg8))
        go_roundw
        case rel => exact ⟨k + 1, by omega, by go_num, by rw [HNX.out, List.length_append, List.map_append, HLL.out]; exact HO8.out, HB8.out⟩
        case measure => simp [intOf]; omega
      | false =>
        rw [hb] at HHK HNX
        rw [if_neg (by decide)] at HNX
        clear hb
        go_wp2_with (go_at_call 64; refine (HHK.out _).mono ?_; rintro e w5 ⟨rfl, hb5⟩; have HO5 := hidD (row_below HOW.out hb5); have HB5 := hidD (Below.next HBW.out hb5); clear hb5)
        go_roundw
        case rel => exact ⟨k + 1, by omega, by go_num, by rw [HNX.out, HLL.out]; exact HO5.out, HB5.out⟩
        case measure => simp [intOf]; omega
    · obtain rfl : k = 128 := by omega
      have HIL : Hid (IlAt wr u3 (liTo M 128)) := il_of_own hown
      obtain ⟨a5, c5, h5⟩ := row_shape hown
      subst h5
      clear hown hbel
      go_wp2_with fail
      go_ret
      exact ⟨_, rfl, HIL.out, Below.next HB0.out HBW.out⟩
theorem int_ext {x y : List Int} (hl : x.length = y.length) (h : ∀ j, j < x.length → x.getD j 0 = y.getD j 0) : x = y :=
  List.ext_getElem hl fun i h1 h2 => by
    have := h i h1
    rwa [List.getD_eq_getElem?_getD, List.getD_eq_getElem?_getD, List.getElem?_eq_getElem h1, List.getElem?_eq_getElem h2] at this
set_option maxRecDepth 100000 in
set_option maxHeartbeats 1600000 in
theorem ints_any (x y : List Int) (hx : x.length ≤ 9223372036854775806) (u v : Value) (w : World) (hu : IlAt w u x) (hv : IlAt w v y) : Calls Tryd.prog 20 #[u, v] w fun e w' => e = .returned (.bool (decide (x = y))) ∧ Below w.heap.size w w' := by
  obtain ⟨a1, c1, rfl, hc11, hc12, hcell1⟩ := hu
  obtain ⟨a2, c2, rfl, hc21, hc22, hcell2⟩ := hv
  have HW : Hid (Below w.heap.size w w) := Below.refl _ _
  by_cases hn : x.length = y.length
  · have HC1 := hidD hcell1
    have HC2 := hidD hcell2
    have HX := hidD (fun h => int_ext (x := x) (y := y) hn h)
    clear hcell1 hcell2
    rw [← hn] at *
    generalize x.length = n at *
    have hbn : ((n : Int) == (n : Int)) = true := beq_self_eq_true _
    clear hn
    go_enter Tryd.func20, Tryd.ntmps20
    go_wp2_with fail
    go_loopw [5] (fun i wr => ∃ k : Nat, k ≤ n ∧ i = .int .i64 k ∧ (∀ j, j < k → x.getD j 0 = y.getD j 0) ∧ Below w.heap.size w wr) (fun i _ => n - (intOf i).toNat)
    case atStart => exact ⟨0, Nat.zero_le _, rfl, fun j hj => absurd hj (by omega), HW.out⟩
    case round =>
      obtain ⟨k, hk, rfl, hok, hbel⟩ := hrel
      have HOK := hidD hok
      have HBW := hidD hbel
      clear hok
      by_cases hlt : k < n
      · have hlti : (k : Int) < n := by omega
        obtain ⟨g1, o1, rfl, hg1, hcl1⟩ := HC1.out k hlt
        obtain ⟨g2, o2, rfl, hg2, hcl2⟩ := HC2.out k hlt
        have f1 : wr.cell? ⟨g1, o1 + k, none⟩ = some (.int .i64 (x.getD k 0)) := (hbel.cell (p := ⟨g1, _, none⟩) hg1).trans hcl1
        have f2 : wr.cell? ⟨g2, o2 + k, none⟩ = some (.int .i64 (y.getD k 0)) := (hbel.cell (p := ⟨g2, _, none⟩) hg2).trans hcl2
        clear hcl1 hcl2 hbel
        by_cases he : x.getD k 0 = y.getD k 0
        · have HE := hidD he
          rw [he] at f1
          have hbb : (y.getD k 0 == y.getD k 0) = true := beq_self_eq_true _
          clear he
          generalize hyy : y.getD k 0 = z at *
          have HYY := hidD hyy
          clear hyy
          go_wp2_with fail
          go_quiet (fail)
          go_wp2_with fail
          go_roundw
          case rel => exact ⟨k + 1, by omega, by go_num, fun i hi => by
            by_cases he : i = k
            · rw [he]; exact HE.out.trans HYY.out.symm
            · exact HOK.out i (by omega), below_drewN HBW.out _⟩
          case measure => simp [intOf]; omega
        · have HA : Hid (decide (x = y) = false) := decide_eq_false fun h => he (by rw [h])
          have hbb : (x.getD k 0 == y.getD k 0) = false := beq_eq_false_iff_ne.2 he
          generalize x.getD k 0 = p at *
          generalize y.getD k 0 = q at *
          go_wp2_with fail
          go_quiet (fail)
          go_wp2_with fail
          go_ret
          exact ⟨by rw [HA.out]; rfl, below_drewN HBW.out _⟩
      · obtain rfl : k = n := by omega
        have HA : Hid (decide (x = y) = true) := decide_eq_true (HX.out HOK.out)
        clear hbel
        go_wp2_with fail
        go_ret
        exact ⟨by rw [HA.out]; rfl, HBW.out⟩
  · have HA : Hid (decide (x = y) = false) := decide_eq_false fun h => hn (by rw [h])
    clear hcell1 hcell2
    have hne : (x.length : Int) ≠ (y.length : Int) := by omega
    have hbn : ((x.length : Int) == (y.length : Int)) = false := beq_eq_false_iff_ne.2 hne
    generalize x.length = n at *
    generalize y.length = m at *
    go_enter Tryd.func20, Tryd.ntmps20
    go_wp2_with fail
    go_ret
    exact ⟨by rw [HA.out]; rfl, HW.out⟩
end Go.Proofs.YtgmbkelmgolkpaaDoor
