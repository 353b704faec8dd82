/- A reading's line: one record of one byte of Intel's. -/
import Derived.Test.YtpemajghaceegaaGreatDoorHxw
namespace Go.Proofs.YtpemajghaceegaaGreatDoor
open Go.RowKit
set_option linter.unusedVariables false

set_option maxRecDepth 100000 in
set_option maxHeartbeats 1600000 in
theorem takeOne (B r tk g o c : Nat) (f n : Int) (w : World) (hr : RdAt w r f n 0 (-1) false tk (.slice none 0 0)) (hB : B ≤ w.heap.size) (hBr : B ≤ r) (hBt : B ≤ tk) (hne : r ≠ tk) (htl : tk < w.heap.size) (ht : w.cell? ⟨tk, 0, none⟩ = some (.bool false)) (hf : w.frozen? ⟨tk, 0, none⟩ = false) :
    Calls Tryz.prog 67 #[.pointer (some ⟨r, 0, none⟩), .agg #[.int .i64 0, .int .i64 0, .slice (some ⟨g, o, none⟩) 1 c]] w fun e w' => e = .returned (.int .i64 0) ∧ Below B w w' ∧ ∃ sg, RdAt w' r f n 1 (-1) false tk sg := by
  have HAL := hidD ((Below.refl w.heap.size w).alloc (Nat.le_refl _) (.cells #[.int .i64 0, .int .i64 0, .slice (some ⟨g, o, none⟩) 1 c] (80 : TypeId)))
  have HB1 := hidD (HAL.out.mono hB)
  have HLY := hidD (fun w hr hB htl ht hf => layOne B r tk g o c f n 0 w hr hB hBr hBt hne htl ht hf)
  have HR1 := hidD (RdAt.keep hr (HAL.out.block r hr.lt))
  have HT1 := hidD ((HAL.out.cell (p := ⟨tk, 0, none⟩) htl).trans ht)
  have HT2 := hidD ((World.frozen?_of_block (a := ⟨tk, 0, none⟩) (HAL.out.block tk htl)).trans hf)
  have HTL := hidD (Nat.lt_of_lt_of_le htl HAL.out.size)
  have HBS := hidD (Nat.le_trans hB HAL.out.size)
  clear hr ht hf htl
  go_enter Tryz.func67, Tryz.ntmps67
  go_wp2_with fail
  go_at_call 113
  refine (HLY.out _ HR1.out HBS.out HTL.out HT1.out HT2.out).mono ?_
  rintro e w2 ⟨rfl, hb, sg, hr2⟩
  have HB2 := hidD (HB1.out.trans hb)
  have HR2 := hidD hr2
  clear hb hr2
  go_wp2_with fail
  go_ret
  exact ⟨rfl, HB2.out, _, HR2.out⟩
theorem tab_take {w : World} {g : Nat} (h : TabAt w g) : w.cell? ⟨g, 17, none⟩ = some (fnV 67) := by rw [tab_cells h 17]; rfl
set_option maxRecDepth 100000 in
set_option maxHeartbeats 1600000 in
theorem lineOne (B r tk g : Nat) (l : List UInt8) (x : UInt8) (hl : l.length ≤ 140737488355000) (hls : lineS l = .ok (1, 0, 0, [x])) (w : World) (hT : TabAt w g) (hgr : g ≠ r) (hr : RdAt w r 0 0 0 (-1) false tk (.slice none 0 0)) (hB : B ≤ w.heap.size) (hBr : B ≤ r) (hBt : B ≤ tk) (hne : r ≠ tk) (htl : tk < w.heap.size) (ht : w.cell? ⟨tk, 0, none⟩ = some (.bool false)) (hf : w.frozen? ⟨tk, 0, none⟩ = false) :
    Calls Tryz.prog 51 #[.pointer (some ⟨r, 0, none⟩), .slice (some ⟨g, 0, none⟩) 4 4, .string (bA l)] w fun e w' => e = .returned (.int .i64 0) ∧ Below B w w' ∧ ∃ sg, RdAt w' r 1 1 1 (-1) false tk sg := by
  have HSP := hidD (fun w hT => split_any l hl g w hT)
  have HTK := hidD (fun q o c f n w hr hB htl ht hf => takeOne B r tk q o c f n w hr hB hBr hBt hne htl ht hf)
  rw [hls] at HSP
  have hl0 : (bA l).toList.isEmpty = false := by
    rw [ba_list]
    cases l with
    | nil => cases hls
    | cons y t => rfl
  obtain ⟨hz, hsz3⟩ := zero_of_info Tryz.zeroRec
  obtain ⟨y0, y1, y2, y3, y4, y5, y6⟩ := hr.cells
  have HR := hidD hr
  have HT := hidD hT
  have HTC := hidD ht
  have HTF := hidD hf
  have HTL := hidD htl
  generalize bA l = s at *
  clear hls hr hT ht hf htl
  go_enter Tryz.func51, Tryz.ntmps51
  go_wp2_with fail
  go_at_call 42
  refine (HSP.out _ HT.out).mono ?_
  rintro e w2 ⟨hb, v, rfl, hby, hnv⟩
  have HR2 := hidD (HR.out.keep (hb.block r HR.out.lt))
  have HT2 := hidD (HT.out.next hb)
  have HC2 := hidD ((hb.cell (p := ⟨tk, 0, none⟩) HTL.out).trans HTC.out)
  have HF2 := hidD ((World.frozen?_of_block (a := ⟨tk, 0, none⟩) (hb.block tk HTL.out)).trans HTF.out)
  have HL2 := hidD (Nat.lt_of_lt_of_le HTL.out hb.size)
  have HB2 := hidD (hb.mono hB)
  have HS2 := hidD (Nat.le_trans hB hb.size)
  obtain ⟨va, vc, rfl⟩ := hby.len
  obtain ⟨_, _, _, h4⟩ := by_addr hby
  obtain ⟨q, o, rfl, _, _⟩ := h4 (by simp)
  clear h4 hby hnv hb y0 y1 y2 y3 y4 y5 y6 HSP
  have HAL := hidD ((Below.refl w2.heap.size w2).alloc (Nat.le_refl _) (.cells #[.int .i64 0, .int .i64 0, .slice (some ⟨q, o, none⟩) 1 vc] (80 : TypeId)))
  have HA3 := hidD (heap_alloc_last w2 (.cells #[.int .i64 0, .int .i64 0, .slice (some ⟨q, o, none⟩) 1 vc] (80 : TypeId)))
  have HR3 := hidD (HR2.out.keep (HAL.out.block r HR2.out.lt))
  have HT3 := hidD (HT2.out.next HAL.out)
  have HC3 := hidD ((HAL.out.cell (p := ⟨tk, 0, none⟩) HL2.out).trans HC2.out)
  have HF3 := hidD ((World.frozen?_of_block (a := ⟨tk, 0, none⟩) (HAL.out.block tk HL2.out)).trans HF2.out)
  have HL3 := hidD (Nat.lt_of_lt_of_le HL2.out HAL.out.size)
  have HB3 := hidD (HB2.out.trans (HAL.out.mono HS2.out))
  have HS3 := hidD (Nat.le_trans HS2.out HAL.out.size)
  have HRQ := hidD (Nat.ne_of_lt HR2.out.lt)
  obtain ⟨y0, y1, y2, y3, y4, y5, y6⟩ := HR3.out.cells
  have z0 := HR3.out.fz 0
  have HR4 := hidD (HR3.out.put0 1)
  have HA4 := hidD ((heap_setCell_other (w2.alloc (.cells #[.int .i64 0, .int .i64 0, .slice (some ⟨q, o, none⟩) 1 vc] (80 : TypeId))) ⟨r, 0, none⟩ w2.heap.size (.int .i64 1) (Ne.symm HRQ.out)).trans HA3.out)
  have HT4 := hidD ((heap_setCell_other (w2.alloc (.cells #[.int .i64 0, .int .i64 0, .slice (some ⟨q, o, none⟩) 1 vc] (80 : TypeId))) ⟨r, 0, none⟩ g (.int .i64 1) hgr).trans HT3.out)
  have htr := heap_setCell_other (w2.alloc (.cells #[.int .i64 0, .int .i64 0, .slice (some ⟨q, o, none⟩) 1 vc] (80 : TypeId))) ⟨r, 0, none⟩ tk (.int .i64 1) (Ne.symm hne)
  have HC4 := hidD ((World.cell?_of_block (a := ⟨tk, 0, none⟩) htr).trans HC3.out)
  have HF4 := hidD ((World.frozen?_of_block (a := ⟨tk, 0, none⟩) htr).trans HF3.out)
  have HB4 := hidD (HB3.out.setCell (p := ⟨r, 0, none⟩) hBr (.int .i64 1))
  have HL4 : Hid (tk < ((w2.alloc (.cells #[.int .i64 0, .int .i64 0, .slice (some ⟨q, o, none⟩) 1 vc] (80 : TypeId))).setCell ⟨r, 0, none⟩ (.int .i64 1)).heap.size) := by show _ < _; simpa using HL3.out
  have HS4 : Hid (B ≤ ((w2.alloc (.cells #[.int .i64 0, .int .i64 0, .slice (some ⟨q, o, none⟩) 1 vc] (80 : TypeId))).setCell ⟨r, 0, none⟩ (.int .i64 1)).heap.size) := by show _ ≤ _; simpa using HS3.out
  clear htr HC2 HF2 HL2 HB2 HS2 HAL HR2 HT2 HR3 HT3 HA3 HC3 HF3 HL3 HS3 y2 y3 y4 y5 y6
  go_wp2_with fail
  generalize (w2.alloc (.cells #[.int .i64 0, .int .i64 0, .slice (some ⟨q, o, none⟩) 1 vc] (80 : TypeId))).setCell ⟨r, 0, none⟩ (.int .i64 1) = W4 at *
  have x1 := (cells3 HA4.out).1
  obtain ⟨x0, x1, x2⟩ := x1
  have t17 := tab_take HT4.out
  have e1 : ∀ i : KB W4 [g, w2.heap.size], i.v.cell? ⟨w2.heap.size, 0, none⟩ = some (.int .i64 0) := fun i => (i.cell (b := w2.heap.size) (by simp) _).trans x0
  have e2 : ∀ i : KB W4 [g, w2.heap.size], i.v.cell? ⟨w2.heap.size, 1, none⟩ = some (.int .i64 0) := fun i => (i.cell (b := w2.heap.size) (by simp) _).trans x1
  have e3 : ∀ i : KB W4 [g, w2.heap.size], i.v.cell? ⟨w2.heap.size, 2, none⟩ = some (.slice (some ⟨q, o, none⟩) 1 vc) := fun i => (i.cell (b := w2.heap.size) (by simp) _).trans x2
  have e4 : ∀ i : KB W4 [g, w2.heap.size], i.v.cell? ⟨g, 17, none⟩ = some (fnV 67) := fun i => (i.cell (b := g) (by simp) _).trans t17
  clear x0 x1 x2 t17
  refine wp_region_seg [0, 0, 0, 0, 0, 0, 0, 99, 99] 0 7 [g, w2.heap.size] (by kernel_rfl) (by kernel_rfl) (by kernel_rfl) (by kernel_rfl) (by kernel_rfl) (by kernel_rfl) (by kernel_rfl) (by kernel_rfl) (fun _ _ _ _ _ h => h) ?_
  simp only [SegW, pk, Nat.reduceMul, Nat.reduceBEq, cond_true, cond_false]
  repeat (go_big_quiet_step (fail))
  refine wpQuiet_nil ?_
  have hd : W4.drew.heap = W4.heap := rfl
  have HTT := hidD (HTK.out q o vc 1 0 W4.drew (RdAt.keep (w := W4) HR4.out rfl) HS4.out HL4.out HC4.out HF4.out)
  clear HTK
  unfold fnV at *
  go_wp2_with fail
  refine HTT.out.mono ?_
  rintro e w5 ⟨rfl, hb5, sg, hr5⟩
  have HB5 := hidD ((HB4.out.trans (below_drewN (Below.refl _ _) 1)).trans hb5)
  have HR5 := hidD hr5
  clear hb5 hr5
  obtain ⟨y0, y1, y2, y3, y4, y5, y6⟩ := HR5.out.cells
  have z1 := HR5.out.fz 1
  go_wp2_with fail
  go_ret
  exact ⟨rfl, HB5.out.setCell (p := ⟨r, 1, none⟩) hBr _, _, HR5.out.put1 1⟩
end Go.Proofs.YtpemajghaceegaaGreatDoor
