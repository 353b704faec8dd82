/- Kind; the cell of a place. -/
import Derived.Test.YtjnfnihhihncmaaMmb
namespace Go.Proofs.Ytjnfnihhihncmaa
open Go.RowKit
set_option linter.unusedVariables false

set_option maxRecDepth 100000 in
theorem kind_nil (a : Int) (w : World) : Calls Try.prog 26 #[.pointer none, .int .i64 a] w fun e w' => e = .returned (.int .i64 0) ∧ Below w.heap.size w w' := by
  have HK : Hid (∀ w, Calls Try.prog 48 #[.pointer none, .int .i64 a] w fun e w' => e = .returned (.tuple #[.agg #[.int .i64 0, .int .i64 0, .int .i64 0], .int .i64 2]) ∧ Below w.heap.size w w') := fun w => regionOf_nil a w
  go_enter Try.func26, Try.ntmps26
  go_wp2_with (go_at_call 48; refine (HK.out _).mono ?_; rintro e w2 ⟨rfl, hb2⟩; have HB2 := hidD hb2; clear hb2; obtain ⟨g0, g1, g2⟩ := rg_cells w2 0 0 0; have HA : Hid (Below w2.heap.size w2 (w2.alloc (.cells #[.int .i64 0, .int .i64 0, .int .i64 0] 35))) := (Below.refl _ _).alloc (Nat.le_refl _) _)
  go_ret
  exact ⟨rfl, HB2.out.trans (HA.out.mono HB2.out.size)⟩
set_option maxRecDepth 100000 in
theorem kind_any {w : World} {k : Mk} {Z : Nat → Nat × Nat} {x y : Int} (h : MeAt w k Z x y) (a : Int) : Calls Try.prog 26 #[.pointer (some ⟨k.m, 0, none⟩), .int .i64 a] w fun e w' => e = .returned (.int .i64 (rgo k.R a).1.2.2) ∧ Below w.heap.size w w' := by
  have HK : Hid (Calls Try.prog 48 #[.pointer (some ⟨k.m, 0, none⟩), .int .i64 a] w fun e w' => e = .returned (.tuple #[.agg #[.int .i64 (rgo k.R a).1.1, .int .i64 (rgo k.R a).1.2.1, .int .i64 (rgo k.R a).1.2.2], .int .i64 (rgo k.R a).2]) ∧ Below w.heap.size w w') := regionOf_any h a
  clear h
  generalize rgo k.R a = q at *
  generalize k.m = m at *
  obtain ⟨⟨f, t, kd⟩, er⟩ := q
  go_enter Try.func26, Try.ntmps26
  go_wp2_with (go_at_call 48; refine HK.out.mono ?_; rintro e w2 ⟨rfl, hb2⟩; have HB2 := hidD hb2; clear hb2; obtain ⟨g0, g1, g2⟩ := rg_cells w2 f t kd; have HA : Hid (Below w2.heap.size w2 (w2.alloc (.cells #[.int .i64 f, .int .i64 t, .int .i64 kd] 35))) := (Below.refl _ _).alloc (Nat.le_refl _) _)
  go_ret
  exact ⟨rfl, HB2.out.trans (HA.out.mono HB2.out.size)⟩
theorem wd_zero (w : World) : Hid (∀ cs, Below w.heap.size w ((w.alloc (.cells #[.int .u64 0, .int .u8 0] 58)).setRow w.heap.size cs)) := fun cs => below_setRow ((Below.refl _ _).alloc (Nat.le_refl _) _) (Nat.le_refl _) cs
theorem reg_next {w w1 : World} {k : Mk} {Z : Nat → Nat × Nat} {x y : Int} (h : MeAt w k Z x y) (a : Int) (hb : Below w.heap.size w w1) {f t kd er : Int} (hq : rgo k.R a = ((f, t, kd), er)) :
    Calls Try.prog 48 #[.pointer (some ⟨k.m, 0, none⟩), .int .i64 a] w1 fun e w' => e = .returned (.tuple #[.agg #[.int .i64 f, .int .i64 t, .int .i64 kd], .int .i64 er]) ∧ Below w1.heap.size w1 w' := by
  have := regionOf_any (h.next hb) a
  rw [hq] at this
  exact this
set_option maxRecDepth 100000 in
set_option maxHeartbeats 800000 in
theorem cell_err (pv : Value) (a f t kd er : Int) (her : er ≠ 0) (w : World) (HK : Hid (∀ w1, Below w.heap.size w w1 → Calls Try.prog 48 #[pv, .int .i64 a] w1 fun e w' => e = .returned (.tuple #[.agg #[.int .i64 f, .int .i64 t, .int .i64 kd], .int .i64 er]) ∧ Below w1.heap.size w1 w')) :
    Calls Try.prog 18 #[pv, .int .i64 a] w fun e w' => e = .returned (.tuple #[.agg (wdC 0 0), .int .i64 er]) ∧ Below w.heap.size w w' := by
  have HR : Hid ((w.alloc (.cells #[.int .u64 0, .int .u8 0] (58 : TypeId))).heap[w.heap.size]? = some (.cells #[.int .u64 0, .int .u8 0] (58 : TypeId) (0, 0))) := heap_alloc_last _ _
  have HB1 : Hid (Below w.heap.size w (w.alloc (.cells #[.int .u64 0, .int .u8 0] (58 : TypeId)))) := (Below.refl _ _).alloc (Nat.le_refl _) _
  obtain ⟨hz, hsz⟩ := zero_of_info Try.zeroWd
  have HI : Hid ((Try.prog.info? 58).map (·.size) = some 2) := hsz
  clear hsz
  go_enter Try.func18, Try.ntmps18
  go_wp2_with (first
    | (go_at_call 48; refine (HK.out _ HB1.out).mono ?_; rintro e w2 ⟨rfl, hb2⟩
       have HA : Hid (Below w2.heap.size w2 (w2.alloc (.cells #[.int .i64 f, .int .i64 t, .int .i64 kd] 35))) := (Below.refl _ _).alloc (Nat.le_refl _) _
       have HB2 := hidD (HB1.out.trans (hb2.mono HB1.out.size))
       have HB3 := hidD (HB2.out.trans (HA.out.mono HB2.out.size))
       have HR3 := hidD ((HA.out.block _ (Nat.lt_of_lt_of_le (row_lt HR.out) hb2.size)).trans ((hb2.block _ (row_lt HR.out)).trans HR.out))
       clear hb2)
    | (refine wpList_store_row rfl 58 _ _ rfl w.heap.size (wdC 0 0) rfl rfl 58 #[.int .u64 0, .int .u8 0] HR3.out HI.out rfl (wd_one 0 0) ?_))
  refine bodyPost_ret (v := .tuple #[.agg (wdC 0 0), .int .i64 er]) ?_ rfl ?_
  · exact res_word (p := 4) (u := 5) (by kernel_rfl) _ _ w.heap.size (wdC 0 0) rfl (setRow_heap _ _ _ _ _ _ HR3.out) Try.underlying58 HI.out
  exact ⟨rfl, below_setRow HB3.out (Nat.le_refl _) _⟩
set_option maxRecDepth 100000 in
set_option maxHeartbeats 800000 in
theorem cell_no (pv : Value) (a f t kd : Int) (hkd : ¬ (kd = 1 ∨ kd = 2)) (w : World) (HK : Hid (∀ w1, Below w.heap.size w w1 → Calls Try.prog 48 #[pv, .int .i64 a] w1 fun e w' => e = .returned (.tuple #[.agg #[.int .i64 f, .int .i64 t, .int .i64 kd], .int .i64 0]) ∧ Below w1.heap.size w1 w')) :
    Calls Try.prog 18 #[pv, .int .i64 a] w fun e w' => e = .returned (.tuple #[.agg (wdC 0 0), .int .i64 230]) ∧ Below w.heap.size w w' := by
  have HR : Hid ((w.alloc (.cells #[.int .u64 0, .int .u8 0] (58 : TypeId))).heap[w.heap.size]? = some (.cells #[.int .u64 0, .int .u8 0] (58 : TypeId) (0, 0))) := heap_alloc_last _ _
  have HB1 : Hid (Below w.heap.size w (w.alloc (.cells #[.int .u64 0, .int .u8 0] (58 : TypeId)))) := (Below.refl _ _).alloc (Nat.le_refl _) _
  obtain ⟨hz, hsz⟩ := zero_of_info Try.zeroWd
  have HI : Hid ((Try.prog.info? 58).map (·.size) = some 2) := hsz
  have HH : Hid (∀ w, Calls Try.prog 52 #[.agg #[.int .i64 f, .int .i64 t, .int .i64 kd]] w fun e w' => e = .returned (.bool false) ∧ Below w.heap.size w w') := fun w => by have := hasCells_any f t kd w; rw [decide_eq_false hkd] at this; exact this
  clear hsz hkd
  go_enter Try.func18, Try.ntmps18
  go_wp2_with (first
    | (go_at_call 48; refine (HK.out _ HB1.out).mono ?_; rintro e w2 ⟨rfl, hb2⟩
       obtain ⟨g0, g1, g2⟩ := rg_cells w2 f t kd
       have HA : Hid (Below w2.heap.size w2 (w2.alloc (.cells #[.int .i64 f, .int .i64 t, .int .i64 kd] 35))) := (Below.refl _ _).alloc (Nat.le_refl _) _
       have HB2 := hidD (HB1.out.trans (hb2.mono HB1.out.size))
       have HB3 := hidD (HB2.out.trans (HA.out.mono HB2.out.size))
       have HR3 := hidD ((HA.out.block _ (Nat.lt_of_lt_of_le (row_lt HR.out) hb2.size)).trans ((hb2.block _ (row_lt HR.out)).trans HR.out))
       clear hb2)
    | (go_at_call 52; refine (HH.out _).mono ?_; rintro e w3 ⟨rfl, hb3⟩
       have HB4 := hidD (HB3.out.trans (hb3.mono HB3.out.size))
       have HR4 := hidD ((hb3.block _ (row_lt HR3.out)).trans HR3.out)
       clear hb3)
    | (refine wpList_store_row rfl 58 _ _ rfl w.heap.size (wdC 0 0) rfl rfl 58 #[.int .u64 0, .int .u8 0] HR4.out HI.out rfl (wd_one 0 0) ?_))
  refine bodyPost_ret (v := .tuple #[.agg (wdC 0 0), .int .i64 230]) ?_ rfl ?_
  · exact res_word (p := 4) (u := 5) (by kernel_rfl) _ _ w.heap.size (wdC 0 0) rfl (setRow_heap _ _ _ _ _ _ HR4.out) Try.underlying58 HI.out
  exact ⟨rfl, below_setRow HB4.out (Nat.le_refl _) _⟩
set_option maxRecDepth 100000 in
set_option maxHeartbeats 1600000 in
theorem cell_ok {w : World} {k : Mk} {Z : Nat → Nat × Nat} {x y : Int} (h : MeAt w k Z x y) (a : Nat) (f t kd : Int) (hq : rgo k.R a = ((f, t, kd), 0)) (hkd : kd = 1 ∨ kd = 2) :
    Calls Try.prog 18 #[.pointer (some ⟨k.m, 0, none⟩), .int .i64 a] w fun e w' => e = .returned (.tuple #[.agg (wdC (Z a).1 (Z a).2), .int .i64 0]) ∧ Below w.heap.size w w' := by
  have HR : Hid ((w.alloc (.cells #[.int .u64 0, .int .u8 0] (58 : TypeId))).heap[w.heap.size]? = some (.cells #[.int .u64 0, .int .u8 0] (58 : TypeId) (0, 0))) := heap_alloc_last _ _
  have HB1 : Hid (Below w.heap.size w (w.alloc (.cells #[.int .u64 0, .int .u8 0] (58 : TypeId)))) := (Below.refl _ _).alloc (Nat.le_refl _) _
  obtain ⟨hz, hsz⟩ := zero_of_info Try.zeroWd
  have HI : Hid ((Try.prog.info? 58).map (·.size) = some 2) := hsz
  have HH : Hid (∀ w, Calls Try.prog 52 #[.agg #[.int .i64 f, .int .i64 t, .int .i64 kd]] w fun e w' => e = .returned (.bool true) ∧ Below w.heap.size w w') := fun w => by have := hasCells_any f t kd w; rw [decide_eq_true hkd] at this; exact this
  have HK : Hid (∀ w1, Below w.heap.size w w1 → Calls Try.prog 48 #[.pointer (some ⟨k.m, 0, none⟩), .int .i64 a] w1 fun e w' => e = .returned (.tuple #[.agg #[.int .i64 f, .int .i64 t, .int .i64 kd], .int .i64 0]) ∧ Below w1.heap.size w1 w') := fun w1 hb => reg_next h a hb hq
  obtain ⟨hp0, hp1⟩ := rgo_place hq
  have ha : a < 65536 := by omega
  obtain ⟨-, -, c2, -⟩ := h.cells
  obtain ⟨⟨z0, z1⟩, -⟩ := h.ce.cell ha
  have HL := hidD h.lt
  clear hsz hkd h hq hp0 hp1
  generalize k.m = m at *
  generalize k.c = c at *
  generalize Z a = z at *
  obtain ⟨D, C⟩ := z
  change w.cell? ⟨c, a * 2, none⟩ = some (.int .u64 (D : Int)) at z0
  change w.cell? ⟨c, a * 2 + 1, none⟩ = some (.int .u8 (C : Int)) at z1
  go_enter Try.func18, Try.ntmps18
  go_wp2_with (first
    | (go_at_call 48; refine (HK.out _ HB1.out).mono ?_; rintro e w2 ⟨rfl, hb2⟩
       obtain ⟨g0, g1, g2⟩ := rg_cells w2 f t kd
       have HA : Hid (Below w2.heap.size w2 (w2.alloc (.cells #[.int .i64 f, .int .i64 t, .int .i64 kd] 35))) := (Below.refl _ _).alloc (Nat.le_refl _) _
       have HB2 := hidD (HB1.out.trans (hb2.mono HB1.out.size))
       have HB3 := hidD (HB2.out.trans (HA.out.mono HB2.out.size))
       have HR3 := hidD ((HA.out.block _ (Nat.lt_of_lt_of_le (row_lt HR.out) hb2.size)).trans ((hb2.block _ (row_lt HR.out)).trans HR.out))
       clear hb2)
    | (go_at_call 52; refine (HH.out _).mono ?_; rintro e w3 ⟨rfl, hb3⟩
       have HB4 := hidD (HB3.out.trans (hb3.mono HB3.out.size))
       have HR4 := hidD ((hb3.block _ (row_lt HR3.out)).trans HR3.out)
       have d2 := (HB4.out.cell (p := ⟨m, 2, none⟩) HL.out.1).trans c2
       have d3 := (HB4.out.cell (p := ⟨c, a * 2, none⟩) HL.out.2.2).trans z0
       have d4 := (HB4.out.cell (p := ⟨c, a * 2 + 1, none⟩) HL.out.2.2).trans z1
       clear hb3)
    | (refine wpList_store_row rfl 58 _ _ rfl w.heap.size (wdC D C) rfl rfl 58 #[.int .u64 0, .int .u8 0] HR4.out HI.out rfl (wd_one D C) ?_))
  refine bodyPost_ret (v := .tuple #[.agg (wdC D C), .int .i64 0]) ?_ rfl ?_
  · exact res_word (p := 4) (u := 5) (by kernel_rfl) _ _ w.heap.size (wdC D C) rfl (setRow_heap _ _ _ _ _ _ HR4.out) Try.underlying58 HI.out
  exact ⟨rfl, below_setRow HB4.out (Nat.le_refl _) _⟩
end Go.Proofs.Ytjnfnihhihncmaa
