/- A reading's record of one byte, laid. -/
import Derived.Test.YtpemajghaceegaaGreatDoorHxv
namespace Go.Proofs.YtpemajghaceegaaGreatDoor
open Go.RowKit
set_option linter.unusedVariables false

/- a reading in memory -/
def RdAt (w : World) (r : Nat) (f n dc en : Int) (ended : Bool) (tk : Nat) (sg : Value) : Prop := w.heap[r]? = some (.cells #[.int .i64 f, .int .i64 n, .int .i64 dc, .int .i64 en, .bool ended, .slice (some ⟨tk, 0, none⟩) 65536 65536, sg] (106 : TypeId) (0, 0))
theorem RdAt.keep {w w' : World} {r : Nat} {f n dc en : Int} {ended : Bool} {tk : Nat} {sg : Value} (h : RdAt w r f n dc en ended tk sg) (hk : w'.heap[r]? = w.heap[r]?) : RdAt w' r f n dc en ended tk sg := hk.trans h
theorem RdAt.lt {w : World} {r : Nat} {f n dc en : Int} {ended : Bool} {tk : Nat} {sg : Value} (h : RdAt w r f n dc en ended tk sg) : r < w.heap.size := row_lt h
theorem RdAt.fz {w : World} {r : Nat} {f n dc en : Int} {ended : Bool} {tk : Nat} {sg : Value} (h : RdAt w r f n dc en ended tk sg) (o : Nat) : w.frozen? ⟨r, o, none⟩ = false := frozen_of_row _ _ _ _ _ h
theorem RdAt.cells {w : World} {r : Nat} {f n dc en : Int} {ended : Bool} {tk : Nat} {sg : Value} (h : RdAt w r f n dc en ended tk sg) :
    w.cell? ⟨r, 0, none⟩ = some (.int .i64 f) ∧ w.cell? ⟨r, 1, none⟩ = some (.int .i64 n) ∧ w.cell? ⟨r, 2, none⟩ = some (.int .i64 dc) ∧ w.cell? ⟨r, 3, none⟩ = some (.int .i64 en) ∧ w.cell? ⟨r, 4, none⟩ = some (.bool ended) ∧ w.cell? ⟨r, 5, none⟩ = some (.slice (some ⟨tk, 0, none⟩) 65536 65536) ∧ w.cell? ⟨r, 6, none⟩ = some sg := by
  refine ⟨?_, ?_, ?_, ?_, ?_, ?_, ?_⟩ <;> (rw [cell_of_row _ _ _ _ _ _ h]; rfl)
theorem RdAt.put0 {w : World} {r : Nat} {f n dc en : Int} {ended : Bool} {tk : Nat} {sg : Value} (h : RdAt w r f n dc en ended tk sg) (y : Int) : RdAt (w.setCell ⟨r, 0, none⟩ (.int .i64 y)) r y n dc en ended tk sg := heap_setCell_same _ r 0 _ _ _ h
theorem RdAt.put1 {w : World} {r : Nat} {f n dc en : Int} {ended : Bool} {tk : Nat} {sg : Value} (h : RdAt w r f n dc en ended tk sg) (y : Int) : RdAt (w.setCell ⟨r, 1, none⟩ (.int .i64 y)) r f y dc en ended tk sg := heap_setCell_same _ r 1 _ _ _ h
theorem RdAt.put2 {w : World} {r : Nat} {f n dc en : Int} {ended : Bool} {tk : Nat} {sg : Value} (h : RdAt w r f n dc en ended tk sg) (y : Int) : RdAt (w.setCell ⟨r, 2, none⟩ (.int .i64 y)) r f n y en ended tk sg := heap_setCell_same _ r 2 _ _ _ h
theorem RdAt.put6 {w : World} {r : Nat} {f n dc en : Int} {ended : Bool} {tk : Nat} {sg : Value} (h : RdAt w r f n dc en ended tk sg) (y : Value) : RdAt (w.setCell ⟨r, 6, none⟩ y) r f n dc en ended tk y := heap_setCell_same _ r 6 _ _ _ h
set_option maxRecDepth 100000 in
set_option maxHeartbeats 1600000 in
theorem layOne (B r tk g o c : Nat) (f n : Int) (K : Int) (w : World) (hr : RdAt w r f n 0 (-1) false tk (.slice none 0 0)) (hB : B ≤ w.heap.size) (hBr : B ≤ r) (hBt : B ≤ tk) (hne : r ≠ tk) (htl : tk < w.heap.size) (ht : w.cell? ⟨tk, 0, none⟩ = some (.bool false)) (hf : w.frozen? ⟨tk, 0, none⟩ = false) :
    Calls Tryz.prog 113 #[.pointer (some ⟨r, 0, none⟩), .agg #[.int .i64 K, .int .i64 0, .slice (some ⟨g, o, none⟩) 1 c]] w fun e w' => e = .returned (.int .i64 0) ∧ Below B w w' ∧ ∃ sg, RdAt w' r f n 1 (-1) false tk sg := by
  have HR := hidD hr
  have HAL := hidD ((Below.refl w.heap.size w).alloc (Nat.le_refl _) (.cells #[.int .i64 K, .int .i64 0, .slice (some ⟨g, o, none⟩) 1 c] (80 : TypeId)))
  have HA4 := hidD (heap_alloc_last w (.cells #[.int .i64 K, .int .i64 0, .slice (some ⟨g, o, none⟩) 1 c] (80 : TypeId)))
  have HT1 := hidD ((HAL.out.cell (p := ⟨tk, 0, none⟩) htl).trans ht)
  have HT2 := hidD ((World.frozen?_of_block (a := ⟨tk, 0, none⟩) (HAL.out.block tk htl)).trans hf)
  have HR1 := hidD (HR.out.keep (HAL.out.block r HR.out.lt))
  have HB1 := hidD (HAL.out.mono hB)
  have HRA := hidD HR.out.lt
  have HTL := hidD htl
  clear hr ht hf htl
  go_enter Tryz.func113, Tryz.ntmps113
  go_wp2_with fail
  generalize w.alloc (.cells #[.int .i64 K, .int .i64 0, .slice (some ⟨g, o, none⟩) 1 c] (80 : TypeId)) = W1 at *
  obtain ⟨a, HAE⟩ : ∃ a, Hid (w.heap.size = a) := ⟨_, rfl⟩
  rw [HAE.out] at HA4 HRA HTL ⊢
  have hra : r ≠ a := Nat.ne_of_lt HRA.out
  have hta : tk ≠ a := Nat.ne_of_lt HTL.out
  go_loopw [16] (fun i wr => RdAt wr r f n 0 (-1) false tk (.slice none 0 0) ∧ wr.heap[a]? = some (.cells #[.int .i64 K, .int .i64 0, .slice (some ⟨g, o, none⟩) 1 c] (80 : TypeId) (0, 0)) ∧ Below B w wr ∧ ((i = .int .i64 0 ∧ wr.cell? ⟨tk, 0, none⟩ = some (.bool false) ∧ wr.frozen? ⟨tk, 0, none⟩ = false) ∨ i = .int .i64 1)) (fun i _ => 1 - (intOf i).toNat)
  case atStart => exact ⟨HR1.out, HA4.out, HB1.out, .inl ⟨rfl, HT1.out, HT2.out⟩⟩
  case round =>
    obtain ⟨hrd, hbx, hbel, hs⟩ := hrel
    have HRD := hidD hrd
    have HBX := hidD hbx
    have HBW := hidD hbel
    obtain ⟨x0, x1, x2⟩ := (cells3 hbx).1
    obtain ⟨y0, y1, y2, y3, y4, y5, y6⟩ := hrd.cells
    clear hrd hbx hbel
    rcases hs with ⟨rfl, ht0, hf0⟩ | rfl
    · have HT0 := hidD ht0
      have HF0 := hidD hf0
      clear ht0 hf0
      go_wp2_with fail
      have e5 : ∀ i : KB wr [r, a, tk], i.v.cell? ⟨r, 5, none⟩ = some (.slice (some ⟨tk, 0, none⟩) 65536 65536) := fun i => (i.cell (b := r) (by simp) _).trans y5
      have e1 : ∀ i : KB wr [r, a, tk], i.v.cell? ⟨a, 1, none⟩ = some (.int .i64 0) := fun i => (i.cell (b := a) (by simp) _).trans x1
      have t0 : wr.drew.cell? ⟨tk, 0, none⟩ = some (.bool false) := HT0.out
      clear x0 x1 x2 y0 y1 y2 y3 y4 y5 y6
      refine wp_region_seg [0, 0, 0, 0, 0, 0, 0, 0, 0, 99] 0 9 [r, a, tk] (by kernel_rfl) (by kernel_rfl) (by kernel_rfl) (by kernel_rfl) (by kernel_rfl) (by kernel_rfl) (by kernel_rfl) (by kernel_rfl) (fun _ _ _ _ _ h => h) ?_
      simp only [SegW, pk, Nat.reduceMul, Nat.reduceBEq, cond_true, cond_false]
      repeat (go_big_quiet_step (fail))
      refine wpQuiet_nil ?_
      go_wp2_with fail
      clear e5 e1
      have HDW : Hid (wr.drew.heap = wr.heap) := rfl
      have z1 := (cells3 (w := wr.drew) HBX.out).1.2.1
      have z5 := (RdAt.cells (w := wr.drew) HRD.out).2.2.2.2.2.1
      have e5 : ∀ i : KB wr.drew [r, a, tk], i.v.cell? ⟨r, 5, none⟩ = some (.slice (some ⟨tk, 0, none⟩) 65536 65536) := fun i => (i.cell (b := r) (by simp) _).trans z5
      have e1 : ∀ i : KB wr.drew [r, a, tk], i.v.cell? ⟨a, 1, none⟩ = some (.int .i64 0) := fun i => (i.cell (b := a) (by simp) _).trans z1
      refine wp_region_seg [0, 0, 0, 0, 0, 0, 0, 0, 0, 99] 0 9 [r, a, tk] (by kernel_rfl) (by kernel_rfl) (by kernel_rfl) (by kernel_rfl) (by kernel_rfl) (by kernel_rfl) (by kernel_rfl) (by kernel_rfl) (fun _ _ _ _ _ h => h) ?_
      simp only [SegW, pk, Nat.reduceMul, Nat.reduceBEq, cond_true, cond_false]
      repeat (go_big_quiet_step (fail))
      refine wpQuiet_nil ?_
      clear e5 e1 z1 z5
      have f0 : wr.drew.drew.frozen? ⟨tk, 0, none⟩ = false := HF0.out
      have t1 : wr.drew.drew.cell? ⟨tk, 0, none⟩ = some (.bool false) := HT0.out
      go_wp2_with fail
      go_roundw
      case rel => exact ⟨RdAt.keep (w := wr.drew.drew) HRD.out (heap_setCell_other wr.drew.drew ⟨tk, 0, none⟩ r (.bool true) hne), (heap_setCell_other wr.drew.drew ⟨tk, 0, none⟩ a (.bool true) (Ne.symm hta)).trans HBX.out, (below_drewN HBW.out 2).setCell (p := ⟨tk, 0, none⟩) hBt (.bool true), .inr (by go_num)⟩
      case measure => simp [intOf]
    · go_wp2_with fail
      have e6 : ∀ i : KB wr [r, a], i.v.cell? ⟨r, 6, none⟩ = some (.slice none 0 0) := fun i => (i.cell (b := r) (by simp) _).trans y6
      have e1 : ∀ i : KB wr [r, a], i.v.cell? ⟨a, 1, none⟩ = some (.int .i64 0) := fun i => (i.cell (b := a) (by simp) _).trans x1
      have e2 : ∀ i : KB wr [r, a], i.v.cell? ⟨a, 2, none⟩ = some (.slice (some ⟨g, o, none⟩) 1 c) := fun i => (i.cell (b := a) (by simp) _).trans x2
      have hBs : B ≤ wr.heap.size := by have := HBW.out.size; omega
      have hrl := HRD.out.lt
      have hal : a < wr.heap.size := row_lt HBX.out
      have HKK : Hid (∀ w', Below wr.heap.size wr w' → ∃ i : KB wr [r, a], w' = i.v) := fun w' hb => ⟨⟨w', fun y hy => by
        simp only [List.mem_cons, List.not_mem_nil, or_false] at hy
        rcases hy with rfl | rfl
        · exact hb.block _ hrl
        · exact hb.block _ hal⟩, rfl⟩
      clear x0 x1 x2 y0 y1 y2 y3 y4 y5 y6
      refine wp_region_seg [0, 0, 0, 0, 0, 0, 0, 0, 0, 0, 1, 3, 4, 4, 99] 2 14 [r, a] (by kernel_rfl) (by kernel_rfl) (by kernel_rfl) (by kernel_rfl) (by kernel_rfl) (by kernel_rfl) (by kernel_rfl) (by kernel_rfl) (fun _ _ _ _ _ h => h) ?_
      simp only [SegW, pk, Nat.reduceMul, Nat.reduceAdd, Nat.reduceBEq, cond_true, cond_false]
      repeat (go_big_quiet_step (fail))
      refine wpQuiet_nil ?_
      clear e6 e1 e2
      have HD0 : Hid (Below wr.heap.size wr wr.drew) := below_drewN (Below.refl _ _) 1
      have HAC := hidD (HD0.out.alloc (Nat.le_refl _) (.cells #[.int .i64 0, .slice (some ⟨g, o, none⟩) 1 c] (36 : TypeId)))
      have HL1 := hidD (heap_alloc_last wr.drew (.cells #[.int .i64 0, .slice (some ⟨g, o, none⟩) 1 c] (36 : TypeId)))
      go_wp2_with fail
      refine ⟨HKK.out _ HAC.out, ?_⟩
      repeat (go_big_quiet_step (fail))
      refine wpQuiet_nil ?_
      go_wp2_with (at_builtin; refine wpList_append_sg rfl _ _ rfl wr.heap.size (.slice none 0 0) 0 [] rfl (World.ownsRow_nil _ _ _ _) wr.heap.size (.int .i64 0) (.slice (some ⟨g, o, none⟩) 1 c) rfl HL1.out rfl rfl (by omega) HAC.out.size ?_; intro v4 w4 ho4 hg4; have ho5 : w4.ownsRow wr.heap.size 36 2 v4 1 [.int .i64 0, .slice (some ⟨g, o, none⟩) 1 c] := ho4; have HG4 := hidD hg4; obtain ⟨g4, c4, rfl, _, _, _⟩ := row_shapeC ho5 (by omega); clear ho4 ho5 hg4)
      have HB4 := hidD (nil_below HAC.out HG4.out HAC.out.size)
      refine ⟨HKK.out _ HB4.out, ?_⟩
      repeat (go_big_quiet_step (fail))
      refine wpQuiet_nil ?_
      have HR4 := hidD (HRD.out.keep (HB4.out.block r hrl))
      obtain ⟨y0, y1, y2, y3, y4, y5, y6⟩ := HR4.out.cells
      have f6 := HR4.out.fz 6
      have HR5 := hidD (HR4.out.put6 (.slice (some ⟨g4, 0, none⟩) 1 c4))
      have z2 := HR5.out.cells.2.2.1
      have f2 := HR5.out.fz 2
      have HB5 := hidD ((HBW.out.trans (HB4.out.mono hBs)).setCell (p := ⟨r, 6, none⟩) hBr (.slice (some ⟨g4, 0, none⟩) 1 c4))
      clear y0 y1 y2 y3 y4 y5
      go_wp2_with fail
      go_ret
      exact ⟨rfl, HB5.out.setCell (p := ⟨r, 2, none⟩) hBr _, _, HR5.out.put2 1⟩
end Go.Proofs.YtpemajghaceegaaGreatDoor
