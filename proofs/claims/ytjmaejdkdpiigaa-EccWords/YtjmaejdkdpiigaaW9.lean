/- EccWords: the walk, over what both answer. -/
import Derived.Test.YtjmaejdkdpiigaaW5
import Derived.Test.YtjmaejdkdpiigaaW5b
import Derived.Test.YtjmaejdkdpiigaaW6
import Derived.Test.YtjmaejdkdpiigaaW7
import Derived.Test.YtjmaejdkdpiigaaL1
namespace Go.Proofs.Ytjmaejdkdpiigaa
open Go.RowKit
set_option linter.unusedVariables false

theorem at_world {P : Program} {c : Code} {Q : Exit → Act → World → Prop} {a : Act} {w w' : World} (h : w' = w) (hk : Code.wp P c Q a w') : Code.wp P c Q a w := h ▸ hk
/- a word that is laid into a new block, and what stood there ahead -/
theorem wd_laid (W : World) (D C : Nat) (ty : TypeId) : ∃ W1 : World, W1 = (W.alloc (.cells #[.int .u64 0, .int .u8 0] ty)).setRow W.heap.size (wdC D C) ∧ W1.heap[W.heap.size]? = some (.cells (wdC D C) ty (0, 0)) ∧ Below W.heap.size W W1 := ⟨_, rfl, wd_new W D C ty, wd_bel W D C ty⟩
set_option maxRecDepth 100000 in
set_option maxHeartbeats 8000000 in
theorem words_walk (x bit : Int) (d D C D' C' : Nat) (c ec : Int) (v : Bool) (eD eC : Nat) (ee s : Int) (odd : Bool) (es g k i ed : Int) (tD tC : Nat) (et m em : Int)
    (HC1 : Hid (∀ w, Calls Try.prog 8 #[.int .i64 x] w fun e w' => e = .returned (.tuple #[.int .i64 c, .int .i64 ec]) ∧ w' = w))
    (HC2 : Hid (∀ w, Calls Try.prog 9 #[.int .i64 x] w fun e w' => e = .returned (.tuple #[.int .i64 c, .int .i64 ec]) ∧ w' = w))
    (HV1 : Hid (∀ w, Calls Try.prog 11 #[.int .i64 x, .agg (wdC D C)] w fun e w' => e = .returned (.bool v) ∧ Below w.heap.size w w'))
    (HV2 : Hid (∀ w, Calls Try.prog 12 #[.int .i64 x, .agg (wdC D C)] w fun e w' => e = .returned (.bool v) ∧ Below w.heap.size w w'))
    (HE1 : Hid (∀ w, Calls Try.prog 14 #[.int .i64 x, .int .u64 (d : Int)] w fun e w' => e = .returned (.tuple #[.agg (wdC eD eC), .int .i64 ee]) ∧ Below w.heap.size w w'))
    (HE2 : Hid (∀ w, Calls Try.prog 15 #[.int .i64 x, .int .u64 (d : Int)] w fun e w' => e = .returned (.tuple #[.agg (wdC eD eC), .int .i64 ee]) ∧ Below w.heap.size w w'))
    (HS1 : Hid (∀ w, Calls Try.prog 16 #[.int .i64 x, .agg (wdC D C)] w fun e w' => e = .returned (.tuple #[.int .i64 s, .bool odd, .int .i64 es]) ∧ Below w.heap.size w w'))
    (HS2 : Hid (∀ w, Calls Try.prog 17 #[.int .i64 x, .agg (wdC D C)] w fun e w' => e = .returned (.tuple #[.int .i64 s, .bool odd, .int .i64 es]) ∧ Below w.heap.size w w'))
    (HD1 : Hid (∀ w, Calls Try.prog 18 #[.int .i64 x, .agg (wdC D C)] w fun e w' => e = .returned (.tuple #[.int .u64 g, .int .i64 k, .int .i64 i, .int .i64 ed]) ∧ Below w.heap.size w w'))
    (HD2 : Hid (∀ w, Calls Try.prog 19 #[.int .i64 x, .agg (wdC D C)] w fun e w' => e = .returned (.tuple #[.int .u64 g, .int .i64 k, .int .i64 i, .int .i64 ed]) ∧ Below w.heap.size w w'))
    (HT1 : Hid (∀ w, Calls Try.prog 20 #[.int .i64 x, .agg (wdC D C), .int .i64 bit] w fun e w' => e = .returned (.tuple #[.agg (wdC tD tC), .int .i64 et]) ∧ Below w.heap.size w w'))
    (HT2 : Hid (∀ w, Calls Try.prog 21 #[.int .i64 x, .agg (wdC D C), .int .i64 bit] w fun e w' => e = .returned (.tuple #[.agg (wdC tD tC), .int .i64 et]) ∧ Below w.heap.size w w'))
    (HX1 : Hid (∀ w, Calls Try.prog 22 #[.int .i64 x, .agg (wdC D C), .agg (wdC D' C')] w fun e w' => e = .returned (.tuple #[.int .i64 m, .int .i64 em]) ∧ Below w.heap.size w w'))
    (HX2 : Hid (∀ w, Calls Try.prog 23 #[.int .i64 x, .agg (wdC D C), .agg (wdC D' C')] w fun e w' => e = .returned (.tuple #[.int .i64 m, .int .i64 em]) ∧ Below w.heap.size w w'))
    (w : World) : Calls Try.prog 3 #[.int .i64 x, .int .u64 (d : Int), .agg (wdC D C), .agg (wdC D' C'), .int .i64 bit] w fun e w' => e = .returned (.bool true) ∧ Below w.heap.size w w' := by
  have HL : Hid (∀ w, Calls Try.prog 13 #[] w fun e w' => e = .returned (.bool true) ∧ Below w.heap.size w w') := fun w => live_any w
  have HN : Hid (∀ z w, Calls Try.prog 10 #[.int .i64 z] w fun e w' => e = .returned (.int .i64 z) ∧ w' = w) := fun z w => no_any z w
  have HNb : Hid (∀ z w, Calls Try.prog 10 #[.int .i64 z] w fun e w' => e = .returned (.int .i64 z) ∧ Below w.heap.size w w') := fun z w => Calls.bel (no_any z w)
  obtain ⟨hz, hsz⟩ := zero_of_info Try.zeroWd
  obtain ⟨hy, hsy⟩ := zero_of_info Try.zeroRw
  have HI : Hid (∀ D C, (Try.prog.info? 25).map (·.size) = some (wdC D C).size) := fun _ _ => hsz
  have HJ : Hid (∀ D C, (Try.prog.info? 26).map (·.size) = some (wdC D C).size) := fun _ _ => hsy
  clear hsz hsy
  obtain ⟨b1, b2, b3, b4⟩ := two_blocks w (wdC D C) (wdC D' C') 24
  go_enter Try.func3, Try.ntmps3
  go_upto_region 1 with fail
  obtain ⟨W0, hW0⟩ : ∃ W0 : World, W0 = (w.alloc (.cells (wdC D C) (24 : TypeId))).alloc (.cells (wdC D' C') (24 : TypeId)) := ⟨_, rfl⟩
  refine at_world hW0 ?_
  rw [← hW0] at b1 b2 b3
  clear hW0 b4
  obtain ⟨c0, c1⟩ := wd_at b1
  have B0 := hidD b3
  have R2 := hidD b2
  clear b1 b2 b3
  go_upto_region 2 with (refine wpList_store_row rfl 25 _ _ rfl W0.heap.size (wdC D C) rfl rfl 25 #[.int .u64 0, .int .u8 0] (heap_alloc_last _ _) (HI.out _ _) rfl (wd_one D C) ?_)
  obtain ⟨W1, hW1, nW1, kW1⟩ := wd_laid W0 D C 25
  refine at_world hW1 ?_
  clear hW1
  have R2' := hidD (wd_keep R2.out kW1)
  have B1 := hidD (Below.next B0.out kW1)
  have RW := hidD nW1
  clear c0 c1 R2 B0 kW1 nW1
  obtain ⟨c0, c1⟩ := wd_at R2'.out
  go_upto_region 3 with (refine wpList_store_row rfl 25 _ _ rfl W1.heap.size (wdC D' C') rfl rfl 25 #[.int .u64 0, .int .u8 0] (heap_alloc_last _ _) (HI.out _ _) rfl (wd_one D' C') ?_)
  obtain ⟨W2, hW2, nW2, kW2⟩ := wd_laid W1 D' C' 25
  refine at_world hW2 ?_
  clear hW2
  have RW2 := hidD (wd_keep RW.out kW2)
  have B2 := hidD (Below.next B1.out kW2)
  have RX := hidD nW2
  clear c0 c1 R2' B1 kW2 nW2 RW
  obtain ⟨c0, c1⟩ := wd_at RW2.out
  go_upto_region 4 with (refine wpList_store_row rfl 26 _ _ rfl W2.heap.size (wdC D C) rfl rfl 26 #[.int .u64 0, .int .u8 0] (heap_alloc_last _ _) (HJ.out _ _) rfl (wd_one D C) ?_)
  obtain ⟨W3, hW3, nW3, kW3⟩ := wd_laid W2 D C 26
  refine at_world hW3 ?_
  clear hW3
  have RW3 := hidD (wd_keep RW2.out kW3)
  have RX3 := hidD (wd_keep RX.out kW3)
  have B3 := hidD (Below.next B2.out kW3)
  have RA := hidD nW3
  clear c0 c1 B2 kW3 nW3 RW2 RX
  obtain ⟨c0, c1⟩ := wd_at RX3.out
  go_upto_region 5 with (refine wpList_store_row rfl 26 _ _ rfl W3.heap.size (wdC D' C') rfl rfl 26 #[.int .u64 0, .int .u8 0] (heap_alloc_last _ _) (HJ.out _ _) rfl (wd_one D' C') ?_)
  obtain ⟨W4, hW4, nW4, kW4⟩ := wd_laid W3 D' C' 26
  refine at_world hW4 ?_
  clear hW4
  have PW := hidD (wd_keep RW3.out kW4)
  have PX := hidD (wd_keep RX3.out kW4)
  have PA := hidD (wd_keep RA.out kW4)
  have PB := hidD nW4
  have B4 := hidD (Below.next B3.out kW4)
  clear c0 c1 B3 kW4 nW4 RW3 RX3 RA
  generalize hg1 : W0.heap.size = g1 at *
  generalize hg2 : W1.heap.size = g2 at *
  generalize hg3 : W2.heap.size = g3 at *
  generalize hg4 : W3.heap.size = g4 at *
  clear hg1 hg2 hg3 hg4
  go_upto_region 7 with (first | (go_at_call 8; refine (HC1.out _).mono ?_; rintro e wx ⟨rfl, hx⟩) | (go_at_call 9; refine (HC2.out _).mono ?_; rintro e wx2 ⟨rfl, hx2⟩))
  subst hx2
  subst hx
  have d0 : ∀ i : BW wx, i.v.cell? ⟨g1, 0, none⟩ = some (.int .u64 (D : Int)) := fun i => (wd_row PW.out i).1
  have d1 : ∀ i : BW wx, i.v.cell? ⟨g1, 1, none⟩ = some (.int .u8 (C : Int)) := fun i => (wd_row PW.out i).2
  have d2 : ∀ i : BW wx, i.v.cell? ⟨g3, 0, none⟩ = some (.int .u64 (D : Int)) := fun i => (wd_row PA.out i).1
  have d3 : ∀ i : BW wx, i.v.cell? ⟨g3, 1, none⟩ = some (.int .u8 (C : Int)) := fun i => (wd_row PA.out i).2
  refine wp_region_below (by kernel_rfl) (by kernel_rfl) ?_
  repeat (go_big_quiet_step (first | (go_at_call 10; exact Calls.below_of (HNb.out _ _)) | (go_at_call 11; exact Calls.below_of (HV1.out _)) | (go_at_call 12; exact Calls.below_of (HV2.out _)) | (go_at_call 13; exact Calls.below_of (HL.out _))))
  refine wpQuiet_nil ?_
  intro q
  have KQ := q.below
  have B5 := hidD (Below.next B4.out KQ)
  replace PW := hidD (wd_keep PW.out KQ)
  replace PX := hidD (wd_keep PX.out KQ)
  replace PA := hidD (wd_keep PA.out KQ)
  replace PB := hidD (wd_keep PB.out KQ)
  clear KQ d0 d1 d2 d3 B4 HV1 HV2 HL HNb
  generalize q.v = W5 at *
  go_wp2_with fail
  go_at_call 14
  refine (HE1.out _).mono ?_
  rintro e w6 ⟨rfl, h6⟩
  go_wp2_with (refine wpList_store_row rfl 25 _ _ rfl w6.heap.size (wdC eD eC) rfl rfl 25 #[.int .u64 0, .int .u8 0] (heap_alloc_last _ _) (HI.out _ _) rfl (wd_one eD eC) ?_)
  go_at_call 15
  refine (HE2.out _).mono ?_
  rintro e w7 ⟨rfl, h7⟩
  have L5 : Hid (g1 < w6.heap.size ∧ g2 < w6.heap.size ∧ g3 < w6.heap.size ∧ g4 < w6.heap.size ∧ w.heap.size ≤ w6.heap.size) := ⟨Nat.lt_of_lt_of_le (row_lt PW.out) h6.size, Nat.lt_of_lt_of_le (row_lt PX.out) h6.size, Nat.lt_of_lt_of_le (row_lt PA.out) h6.size, Nat.lt_of_lt_of_le (row_lt PB.out) h6.size, Nat.le_trans B5.out.size h6.size⟩
  have PU := hidD (wd_keep (wd_new w6 eD eC 25) h7)
  have h67 := Below.next h6 (Below.next (wd_bel w6 eD eC 25) h7)
  have B7 := hidD (Below.next B5.out h67)
  replace PW := hidD (wd_keep PW.out h67)
  replace PX := hidD (wd_keep PX.out h67)
  replace PA := hidD (wd_keep PA.out h67)
  replace PB := hidD (wd_keep PB.out h67)
  clear h6 h7 h67 B5 HE1 HE2
  generalize hg5 : w6.heap.size = g5 at *
  clear hg5
  go_upto_region 11 with (refine wpList_store_row rfl 26 _ _ rfl w7.heap.size (wdC eD eC) rfl rfl 26 #[.int .u64 0, .int .u8 0] (heap_alloc_last _ _) (HJ.out _ _) rfl (wd_one eD eC) ?_)
  obtain ⟨W8, hW8, nW8, kW8⟩ := wd_laid w7 eD eC 26
  refine at_world hW8 ?_
  clear hW8
  have L6 : Hid (g1 < w7.heap.size ∧ g2 < w7.heap.size ∧ g3 < w7.heap.size ∧ g4 < w7.heap.size ∧ g5 < w7.heap.size ∧ w.heap.size ≤ w7.heap.size) := ⟨row_lt PW.out, row_lt PX.out, row_lt PA.out, row_lt PB.out, row_lt PU.out, B7.out.size⟩
  have PV := hidD nW8
  have B8 := hidD (Below.next B7.out kW8)
  replace PW := hidD (wd_keep PW.out kW8)
  replace PX := hidD (wd_keep PX.out kW8)
  replace PA := hidD (wd_keep PA.out kW8)
  replace PB := hidD (wd_keep PB.out kW8)
  replace PU := hidD (wd_keep PU.out kW8)
  clear nW8 kW8 B7
  generalize hg6 : w7.heap.size = g6 at *
  clear hg6
  obtain ⟨a0, a1⟩ := wd_at PU.out
  obtain ⟨a2, a3⟩ := wd_at PV.out
  obtain ⟨c0, c1⟩ := wd_at PW.out
  go_wp2_with (go_at_call 10; refine (HN.out _ _).mono ?_; rintro e wn ⟨rfl, hn⟩)
  go_at_call 16
  refine (HS1.out _).mono ?_
  rintro e w9 ⟨rfl, h9⟩
  have B9 := hidD (Below.next B8.out h9)
  replace PW := hidD (wd_keep PW.out h9)
  replace PX := hidD (wd_keep PX.out h9)
  replace PA := hidD (wd_keep PA.out h9)
  replace PB := hidD (wd_keep PB.out h9)
  replace PU := hidD (wd_keep PU.out h9)
  replace PV := hidD (wd_keep PV.out h9)
  clear h9 B8 HS1 a0 a1 a2 a3 c0 c1
  obtain ⟨c0, c1⟩ := wd_at PA.out
  go_wp2_with fail
  go_at_call 17
  refine (HS2.out _).mono ?_
  rintro e w10 ⟨rfl, h10⟩
  have B10 := hidD (Below.next B9.out h10)
  replace PW := hidD (wd_keep PW.out h10)
  replace PX := hidD (wd_keep PX.out h10)
  replace PA := hidD (wd_keep PA.out h10)
  replace PB := hidD (wd_keep PB.out h10)
  replace PU := hidD (wd_keep PU.out h10)
  replace PV := hidD (wd_keep PV.out h10)
  clear h10 B9 HS2 c0 c1
  obtain ⟨c0, c1⟩ := wd_at PW.out
  go_wp2_with (go_at_call 10; refine (HN.out _ _).mono ?_; rintro e wn ⟨rfl, hn⟩)
  go_at_call 18
  refine (HD1.out _).mono ?_
  rintro e w11 ⟨rfl, h11⟩
  have B11 := hidD (Below.next B10.out h11)
  replace PW := hidD (wd_keep PW.out h11)
  replace PX := hidD (wd_keep PX.out h11)
  replace PA := hidD (wd_keep PA.out h11)
  replace PB := hidD (wd_keep PB.out h11)
  replace PU := hidD (wd_keep PU.out h11)
  replace PV := hidD (wd_keep PV.out h11)
  clear h11 B10 HD1 c0 c1
  obtain ⟨c0, c1⟩ := wd_at PA.out
  go_wp2_with fail
  go_at_call 19
  refine (HD2.out _).mono ?_
  rintro e w12 ⟨rfl, h12⟩
  have B12 := hidD (Below.next B11.out h12)
  replace PW := hidD (wd_keep PW.out h12)
  replace PX := hidD (wd_keep PX.out h12)
  replace PA := hidD (wd_keep PA.out h12)
  replace PB := hidD (wd_keep PB.out h12)
  replace PU := hidD (wd_keep PU.out h12)
  replace PV := hidD (wd_keep PV.out h12)
  clear h12 B11 HD2 c0 c1
  obtain ⟨c0, c1⟩ := wd_at PW.out
  go_wp2_with (go_at_call 10; refine (HN.out _ _).mono ?_; rintro e wn ⟨rfl, hn⟩)
  go_at_call 20
  refine (HT1.out _).mono ?_
  rintro e w13 ⟨rfl, h13⟩
  have B13 := hidD (Below.next B12.out h13)
  replace PW := hidD (wd_keep PW.out h13)
  replace PX := hidD (wd_keep PX.out h13)
  replace PA := hidD (wd_keep PA.out h13)
  replace PB := hidD (wd_keep PB.out h13)
  replace PU := hidD (wd_keep PU.out h13)
  replace PV := hidD (wd_keep PV.out h13)
  clear h13 B12 HT1 c0 c1
  go_upto_region 22 with (refine wpList_store_row rfl 25 _ _ rfl g5 (wdC tD tC) rfl rfl 25 (wdC eD eC) PU.out (HI.out _ _) rfl (wd_one tD tC) ?_)
  obtain ⟨W14, hW14⟩ : ∃ W14 : World, W14 = w13.setRow g5 (wdC tD tC) := ⟨_, rfl⟩
  refine at_world hW14 ?_
  replace PU : Hid (W14.heap[g5]? = some (.cells (wdC tD tC) (25 : TypeId) (0, 0))) := by rw [hW14]; exact setRow_heap _ _ _ _ _ _ PU.out
  replace PW : Hid (W14.heap[g1]? = some (.cells (wdC D C) (25 : TypeId) (0, 0))) := by rw [hW14]; exact (setRow_other _ _ _ _ (by have := L5.out; have := L6.out; omega)).trans PW.out
  replace PX : Hid (W14.heap[g2]? = some (.cells (wdC D' C') (25 : TypeId) (0, 0))) := by rw [hW14]; exact (setRow_other _ _ _ _ (by have := L5.out; have := L6.out; omega)).trans PX.out
  replace PA : Hid (W14.heap[g3]? = some (.cells (wdC D C) (26 : TypeId) (0, 0))) := by rw [hW14]; exact (setRow_other _ _ _ _ (by have := L5.out; have := L6.out; omega)).trans PA.out
  replace PB : Hid (W14.heap[g4]? = some (.cells (wdC D' C') (26 : TypeId) (0, 0))) := by rw [hW14]; exact (setRow_other _ _ _ _ (by have := L5.out; have := L6.out; omega)).trans PB.out
  replace PV : Hid (W14.heap[g6]? = some (.cells (wdC eD eC) (26 : TypeId) (0, 0))) := by rw [hW14]; exact (setRow_other _ _ _ _ (by have := L5.out; have := L6.out; omega)).trans PV.out
  have B14 : Hid (Below w.heap.size w W14) := by rw [hW14]; exact below_setRow B13.out (by have := L5.out; have := L6.out; omega) _
  clear hW14 B13
  obtain ⟨c0, c1⟩ := wd_at PA.out
  go_wp2_with fail
  go_at_call 21
  refine (HT2.out _).mono ?_
  rintro e w15 ⟨rfl, h15⟩
  have B15 := hidD (Below.next B14.out h15)
  replace PW := hidD (wd_keep PW.out h15)
  replace PX := hidD (wd_keep PX.out h15)
  replace PA := hidD (wd_keep PA.out h15)
  replace PB := hidD (wd_keep PB.out h15)
  replace PU := hidD (wd_keep PU.out h15)
  replace PV := hidD (wd_keep PV.out h15)
  clear h15 B14 HT2 c0 c1
  go_upto_region 23 with (refine wpList_store_row rfl 26 _ _ rfl g6 (wdC tD tC) rfl rfl 26 (wdC eD eC) PV.out (HJ.out _ _) rfl (wd_one tD tC) ?_)
  obtain ⟨W16, hW16⟩ : ∃ W16 : World, W16 = w15.setRow g6 (wdC tD tC) := ⟨_, rfl⟩
  refine at_world hW16 ?_
  replace PV : Hid (W16.heap[g6]? = some (.cells (wdC tD tC) (26 : TypeId) (0, 0))) := by rw [hW16]; exact setRow_heap _ _ _ _ _ _ PV.out
  replace PW : Hid (W16.heap[g1]? = some (.cells (wdC D C) (25 : TypeId) (0, 0))) := by rw [hW16]; exact (setRow_other _ _ _ _ (by have := L5.out; have := L6.out; omega)).trans PW.out
  replace PX : Hid (W16.heap[g2]? = some (.cells (wdC D' C') (25 : TypeId) (0, 0))) := by rw [hW16]; exact (setRow_other _ _ _ _ (by have := L5.out; have := L6.out; omega)).trans PX.out
  replace PA : Hid (W16.heap[g3]? = some (.cells (wdC D C) (26 : TypeId) (0, 0))) := by rw [hW16]; exact (setRow_other _ _ _ _ (by have := L5.out; have := L6.out; omega)).trans PA.out
  replace PB : Hid (W16.heap[g4]? = some (.cells (wdC D' C') (26 : TypeId) (0, 0))) := by rw [hW16]; exact (setRow_other _ _ _ _ (by have := L5.out; have := L6.out; omega)).trans PB.out
  replace PU : Hid (W16.heap[g5]? = some (.cells (wdC tD tC) (25 : TypeId) (0, 0))) := by rw [hW16]; exact (setRow_other _ _ _ _ (by have := L5.out; have := L6.out; omega)).trans PU.out
  have B16 : Hid (Below w.heap.size w W16) := by rw [hW16]; exact below_setRow B15.out (by have := L5.out; have := L6.out; omega) _
  clear hW16 B15
  obtain ⟨c0, c1⟩ := wd_at PW.out
  obtain ⟨c2, c3⟩ := wd_at PX.out
  go_wp2_with fail
  go_at_call 22
  refine (HX1.out _).mono ?_
  rintro e w17 ⟨rfl, h17⟩
  have B17 := hidD (Below.next B16.out h17)
  replace PW := hidD (wd_keep PW.out h17)
  replace PX := hidD (wd_keep PX.out h17)
  replace PA := hidD (wd_keep PA.out h17)
  replace PB := hidD (wd_keep PB.out h17)
  replace PU := hidD (wd_keep PU.out h17)
  replace PV := hidD (wd_keep PV.out h17)
  clear h17 B16 HX1 c0 c1 c2 c3
  obtain ⟨c0, c1⟩ := wd_at PA.out
  obtain ⟨c2, c3⟩ := wd_at PB.out
  go_wp2_with fail
  go_at_call 23
  refine (HX2.out _).mono ?_
  rintro e w18 ⟨rfl, h18⟩
  have B18 := hidD (Below.next B17.out h18)
  replace PW := hidD (wd_keep PW.out h18)
  replace PX := hidD (wd_keep PX.out h18)
  replace PA := hidD (wd_keep PA.out h18)
  replace PB := hidD (wd_keep PB.out h18)
  replace PU := hidD (wd_keep PU.out h18)
  replace PV := hidD (wd_keep PV.out h18)
  clear h18 B17 HX2 c0 c1 c2 c3
  obtain ⟨c0, c1⟩ := wd_at PU.out
  obtain ⟨c2, c3⟩ := wd_at PV.out
  go_wp2_with (go_at_call 10; refine (HN.out _ _).mono ?_; rintro e wn ⟨rfl, hn⟩)
  go_ret
  exact ⟨by first | rfl | simp, B18.out⟩
end Go.Proofs.Ytjmaejdkdpiigaa
