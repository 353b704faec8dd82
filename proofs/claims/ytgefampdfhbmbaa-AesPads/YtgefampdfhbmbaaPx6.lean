/- What the program's ahead answers. -/
import Derived.Test.YtgefampdfhbmbaaPx5
namespace Go.Proofs.Ytgefampdfhbmbaa
open Go.RowKit
set_option linter.unusedVariables false

set_option maxRecDepth 100000 in
set_option maxHeartbeats 1600000 in
theorem pAhead_zero (n B p : Nat) (hn : n ≤ 8) (key : Nat → UInt8) (r : Nat) (hr : r ≤ n + 6) (hr0 : r = 0) (b : Nat → UInt8) (w : World) (h : AcAt w B p n key) : Calls Try.prog 64 #[.pointer (some ⟨p, 0, none⟩), .int .i64 (r : Int), .agg (bR b)] w fun e w' => e = .returned (.agg (bR (xoB b (rkS n key r)))) ∧ Below w.heap.size w w' := by
  have HA := hidD h
  have hpl := h.lt
  obtain ⟨hz, hsz⟩ := zero_of_info Try.zero59
  have hbs : ∀ c : Nat → UInt8, (bR c).size = 16 := fun c => rowZ_size _ _ _
  have HIB : Hid (∀ c : Nat → UInt8, (Try.prog.info? 59).map (·.size) = some (bR c).size) := fun c => by rw [hsz, hbs]
  have HON : Hid (∀ c : Nat → UInt8, (bR c).all (·.oneCell') = true) := fun c => rowZ_one _ _ _
  have HSB : Hid (∀ c d : Nat → UInt8, (bR c).size = (bR d).size) := fun c d => by rw [hbs, hbs]
  have hz0 : (rowZ .u8 16 (fun _ => 0)) = bR (fun _ => 0) := rfl
  rw [hz0] at hz
  obtain ⟨b1, b2, b3, b4⟩ := two_blocks w (bR b) (bR (fun _ => 0)) 59
  have W1 := hidD b1
  have W2 := hidD b2
  have W3 := hidD b3
  have c0 : w.cell? ⟨p, 0, none⟩ = some (.int .i64 ((n + 6 : Nat) : Int)) := h.2.2.1
  have c0' : ((w.alloc (.cells (bR b) (59 : TypeId))).alloc (.cells (bR (fun _ => 0)) (59 : TypeId))).cell? ⟨p, 0, none⟩ = some (.int .i64 ((n + 6 : Nat) : Int)) := (b3.cell (p := ⟨p, 0, none⟩) hpl).trans c0
  clear b1 b2 b3 b4 h hbs c0 hz0
  have g0 : ¬ (0 : Int) < (r : Int) := by omega
  have l1 : (r : Int) < 15 := by omega
  clear c0' hr0
  go_enter Try.func64, Try.ntmps64
  go_wp2_with fail
  generalize hW : World.alloc _ (Obj.cells (bR (fun _ => 0)) (59 : TypeId)) = u0 at *
  have R0 : Hid (RowZ u0 w.heap.size .u8 16 59 (fun i => ((b i).toNat : Int))) := W1.out
  have O0 : Hid (RowZ u0 (w.heap.size + 1) .u8 16 59 (fun i => (((fun _ => 0 : Nat → UInt8) i).toNat : Int))) := W2.out
  have B0 : Hid (Below w.heap.size w u0) := W3.out
  clear hW W1 W2 W3
  have q1 : ∀ i : BW u0, (Instr.loadAt 59 (.pointer (some ⟨w.heap.size, 0, none⟩))).run Try.prog i.v = .ok (.agg (bR (b))) i.v := fun i => (R0.out.next i.below).load59
  have q2 : ∀ i : BW u0, (Instr.loadAt 59 (.pointer (some ⟨p, 1 + r * 16, none⟩))).run Try.prog i.v = .ok (.agg (bR (rkS n key r))) i.v := fun i => ((HA.out.next B0.out).next i.below).load hr
  have HQC : Hid (∀ w, Calls Try.prog 51 #[.agg (bR (b)), .agg (bR (rkS n key r))] w fun e w' => e = .returned (.agg (bR (xoB (b) (rkS n key r)))) ∧ Below w.heap.size w w') := fun w => pWith_any _ _ w
  refine wp_region_put (by simp) (by kernel_rfl) rfl (by kernel_rfl) (by kernel_rfl) (by kernel_rfl) ?_
  simp only [List.dropLast_cons_cons, List.dropLast_singleton, List.getLast_cons_cons, List.getLast_singleton, List.cons_append, List.nil_append, mute]
  refine quiet_load rfl 59 _ rfl ⟨w.heap.size, 0, none⟩ rfl _ (fun w' hw' => by obtain ⟨i, rfl⟩ := hw'; exact q1 i) ?_
  simp only [Act.put, List.setIfInBounds_toArray, List.set_cons_succ, List.set_cons_zero]
  repeat (go_big_quiet_step (fail))
  refine quiet_load rfl 59 _ rfl ⟨p, 1 + r * 16, none⟩ rfl _ (fun w' hw' => by obtain ⟨i, rfl⟩ := hw'; exact q2 i) ?_
  simp only [Act.put, List.setIfInBounds_toArray, List.set_cons_succ, List.set_cons_zero]
  repeat (go_big_quiet_step ((go_at_call 51; exact Calls.below_of (HQC.out _))))
  refine wpQuiet_nil ?_
  intro i
  have Ri := hidD (R0.out.next i.below)
  have Oi := hidD (O0.out.next i.below)
  have Bi : Hid (Below w.heap.size w i.v) := Below.next B0.out i.below
  clear q1 q2 HQC
  go_wp2_with (first
    | (refine wpList_store_row rfl 59 _ _ rfl w.heap.size (bR (xoB b (rkS n key r))) rfl rfl 59 (bR (b)) Ri.out (HIB.out _) (HSB.out _ _) (HON.out _) ?_; have R3 : Hid (RowZ (i.v.setRow w.heap.size (bR (xoB b (rkS n key r)))) w.heap.size .u8 16 59 (fun i => (((xoB b (rkS n key r)) i).toNat : Int))) := row_new Ri.out; have O3 : Hid (RowZ (i.v.setRow w.heap.size (bR (xoB b (rkS n key r)))) (w.heap.size + 1) .u8 16 59 (fun i => (((fun _ => 0 : Nat → UInt8) i).toNat : Int))) := (setRow_other _ _ _ _ (by omega)).trans Oi.out; have B3 : Hid (Below w.heap.size w (i.v.setRow w.heap.size (bR (xoB b (rkS n key r))))) := below_setRow Bi.out (Nat.le_refl _) _; have c3 : (i.v.setRow w.heap.size (bR (xoB b (rkS n key r)))).cell? ⟨p, 0, none⟩ = some (.int .i64 ((n + 6 : Nat) : Int)) := (HA.out.next B3.out).2.2.1; generalize i.v.setRow w.heap.size (bR (xoB b (rkS n key r))) = u3 at *)
    | (refine wpList_load_row rfl 59 _ rfl w.heap.size rfl 59 (bR (xoB b (rkS n key r))) (0, 0) _ R3.out Try.underlying59 rfl (HIB.out _) ?_)
    | (refine wpList_store_row rfl 59 _ _ rfl (w.heap.size + 1) (bR (xoB b (rkS n key r))) rfl rfl 59 (bR (fun _ => 0)) O3.out (HIB.out _) (HSB.out _ _) (HON.out _) ?_))
  refine bodyPost_ret (results_cell_row (P := Try.prog) (p := 6) (ty := 59) (by kernel_rfl) _ _ (w.heap.size + 1) 59 (bR (xoB b (rkS n key r))) (0, 0) _ rfl (setRow_heap _ _ (bR (fun _ => 0)) (bR (xoB b (rkS n key r))) 59 (0, 0) O3.out) Try.underlying59 rfl (HIB.out _)) rfl ?_
  exact ⟨rfl, below_setRow B3.out (by omega) _⟩
set_option maxRecDepth 100000 in
set_option maxHeartbeats 1600000 in
theorem pAhead_mid (n B p : Nat) (hn : n ≤ 8) (key : Nat → UInt8) (r : Nat) (hr : r ≤ n + 6) (hr0 : 0 < r) (hr1 : r < n + 6) (b : Nat → UInt8) (w : World) (h : AcAt w B p n key) : Calls Try.prog 64 #[.pointer (some ⟨p, 0, none⟩), .int .i64 (r : Int), .agg (bR b)] w fun e w' => e = .returned (.agg (bR (ubB (usB (mcB unmM (xoB b (rkS n key r))))))) ∧ Below w.heap.size w w' := by
  have HA := hidD h
  have hpl := h.lt
  obtain ⟨hz, hsz⟩ := zero_of_info Try.zero59
  have hbs : ∀ c : Nat → UInt8, (bR c).size = 16 := fun c => rowZ_size _ _ _
  have HIB : Hid (∀ c : Nat → UInt8, (Try.prog.info? 59).map (·.size) = some (bR c).size) := fun c => by rw [hsz, hbs]
  have HON : Hid (∀ c : Nat → UInt8, (bR c).all (·.oneCell') = true) := fun c => rowZ_one _ _ _
  have HSB : Hid (∀ c d : Nat → UInt8, (bR c).size = (bR d).size) := fun c d => by rw [hbs, hbs]
  have hz0 : (rowZ .u8 16 (fun _ => 0)) = bR (fun _ => 0) := rfl
  rw [hz0] at hz
  obtain ⟨b1, b2, b3, b4⟩ := two_blocks w (bR b) (bR (fun _ => 0)) 59
  have W1 := hidD b1
  have W2 := hidD b2
  have W3 := hidD b3
  have c0 : w.cell? ⟨p, 0, none⟩ = some (.int .i64 ((n + 6 : Nat) : Int)) := h.2.2.1
  have c0' : ((w.alloc (.cells (bR b) (59 : TypeId))).alloc (.cells (bR (fun _ => 0)) (59 : TypeId))).cell? ⟨p, 0, none⟩ = some (.int .i64 ((n + 6 : Nat) : Int)) := (b3.cell (p := ⟨p, 0, none⟩) hpl).trans c0
  clear b1 b2 b3 b4 h hbs c0 hz0
  have g0 : (0 : Int) < (r : Int) := by omega
  have g1 : (r : Int) < ((n + 6 : Nat) : Int) := by omega
  have HM := hidD (fun w => pEachUnmix_any (xoB b (rkS n key r)) w)
  have HU := hidD (fun w => pUnshift_any (mcB unmM (xoB b (rkS n key r))) w)
  have HS := hidD (fun w => pEachUnsub_any (usB (mcB unmM (xoB b (rkS n key r)))) w)
  have l1 : (r : Int) < 15 := by omega
  clear c0' hr0
  go_enter Try.func64, Try.ntmps64
  go_wp2_with fail
  generalize hW : World.alloc _ (Obj.cells (bR (fun _ => 0)) (59 : TypeId)) = u0 at *
  have R0 : Hid (RowZ u0 w.heap.size .u8 16 59 (fun i => ((b i).toNat : Int))) := W1.out
  have O0 : Hid (RowZ u0 (w.heap.size + 1) .u8 16 59 (fun i => (((fun _ => 0 : Nat → UInt8) i).toNat : Int))) := W2.out
  have B0 : Hid (Below w.heap.size w u0) := W3.out
  clear hW W1 W2 W3
  have q1 : ∀ i : BW u0, (Instr.loadAt 59 (.pointer (some ⟨w.heap.size, 0, none⟩))).run Try.prog i.v = .ok (.agg (bR (b))) i.v := fun i => (R0.out.next i.below).load59
  have q2 : ∀ i : BW u0, (Instr.loadAt 59 (.pointer (some ⟨p, 1 + r * 16, none⟩))).run Try.prog i.v = .ok (.agg (bR (rkS n key r))) i.v := fun i => ((HA.out.next B0.out).next i.below).load hr
  have HQC : Hid (∀ w, Calls Try.prog 51 #[.agg (bR (b)), .agg (bR (rkS n key r))] w fun e w' => e = .returned (.agg (bR (xoB (b) (rkS n key r)))) ∧ Below w.heap.size w w') := fun w => pWith_any _ _ w
  refine wp_region_put (by simp) (by kernel_rfl) rfl (by kernel_rfl) (by kernel_rfl) (by kernel_rfl) ?_
  simp only [List.dropLast_cons_cons, List.dropLast_singleton, List.getLast_cons_cons, List.getLast_singleton, List.cons_append, List.nil_append, mute]
  refine quiet_load rfl 59 _ rfl ⟨w.heap.size, 0, none⟩ rfl _ (fun w' hw' => by obtain ⟨i, rfl⟩ := hw'; exact q1 i) ?_
  simp only [Act.put, List.setIfInBounds_toArray, List.set_cons_succ, List.set_cons_zero]
  repeat (go_big_quiet_step (fail))
  refine quiet_load rfl 59 _ rfl ⟨p, 1 + r * 16, none⟩ rfl _ (fun w' hw' => by obtain ⟨i, rfl⟩ := hw'; exact q2 i) ?_
  simp only [Act.put, List.setIfInBounds_toArray, List.set_cons_succ, List.set_cons_zero]
  repeat (go_big_quiet_step ((go_at_call 51; exact Calls.below_of (HQC.out _))))
  refine wpQuiet_nil ?_
  intro i
  have Ri := hidD (R0.out.next i.below)
  have Oi := hidD (O0.out.next i.below)
  have Bi : Hid (Below w.heap.size w i.v) := Below.next B0.out i.below
  clear q1 q2 HQC
  go_wp2_with (first
    | (refine wpList_store_row rfl 59 _ _ rfl w.heap.size (bR (xoB b (rkS n key r))) rfl rfl 59 (bR (b)) Ri.out (HIB.out _) (HSB.out _ _) (HON.out _) ?_; have R3 : Hid (RowZ (i.v.setRow w.heap.size (bR (xoB b (rkS n key r)))) w.heap.size .u8 16 59 (fun i => (((xoB b (rkS n key r)) i).toNat : Int))) := row_new Ri.out; have O3 : Hid (RowZ (i.v.setRow w.heap.size (bR (xoB b (rkS n key r)))) (w.heap.size + 1) .u8 16 59 (fun i => (((fun _ => 0 : Nat → UInt8) i).toNat : Int))) := (setRow_other _ _ _ _ (by omega)).trans Oi.out; have B3 : Hid (Below w.heap.size w (i.v.setRow w.heap.size (bR (xoB b (rkS n key r))))) := below_setRow Bi.out (Nat.le_refl _) _; have c3 : (i.v.setRow w.heap.size (bR (xoB b (rkS n key r)))).cell? ⟨p, 0, none⟩ = some (.int .i64 ((n + 6 : Nat) : Int)) := (HA.out.next B3.out).2.2.1; generalize i.v.setRow w.heap.size (bR (xoB b (rkS n key r))) = u3 at *)
    | (refine wpList_load_row rfl 59 _ rfl w.heap.size rfl 59 (bR (xoB b (rkS n key r))) (0, 0) _ R3.out Try.underlying59 rfl (HIB.out _) ?_)
    | (go_at_call 69; refine (HM.out _).mono ?_; rintro e w4 ⟨rfl, hb4⟩; have B4 : Hid (Below w.heap.size w w4) := Below.next B3.out hb4; have R4 := hidD (R3.out.next hb4); have O4 := hidD (O3.out.next hb4); clear hb4 HM R3 O3)
    | (refine wpList_store_row rfl 59 _ _ rfl w.heap.size (bR (mcB unmM (xoB b (rkS n key r)))) rfl rfl 59 (bR (xoB b (rkS n key r))) R4.out (HIB.out _) (HSB.out _ _) (HON.out _) ?_; have R5 : Hid (RowZ (w4.setRow w.heap.size (bR (mcB unmM (xoB b (rkS n key r))))) w.heap.size .u8 16 59 (fun i => (((mcB unmM (xoB b (rkS n key r))) i).toNat : Int))) := row_new R4.out; have O5 : Hid (RowZ (w4.setRow w.heap.size (bR (mcB unmM (xoB b (rkS n key r))))) (w.heap.size + 1) .u8 16 59 (fun i => (((fun _ => 0 : Nat → UInt8) i).toNat : Int))) := (setRow_other _ _ _ _ (by omega)).trans O4.out; have B5 : Hid (Below w.heap.size w (w4.setRow w.heap.size (bR (mcB unmM (xoB b (rkS n key r)))))) := below_setRow B4.out (Nat.le_refl _) _; have c5 : (w4.setRow w.heap.size (bR (mcB unmM (xoB b (rkS n key r))))).cell? ⟨p, 0, none⟩ = some (.int .i64 ((n + 6 : Nat) : Int)) := (HA.out.next B5.out).2.2.1; generalize w4.setRow w.heap.size (bR (mcB unmM (xoB b (rkS n key r)))) = u5 at *)
    | (refine wpList_load_row rfl 59 _ rfl w.heap.size rfl 59 (bR (mcB unmM (xoB b (rkS n key r)))) (0, 0) _ R5.out Try.underlying59 rfl (HIB.out _) ?_)
    | (go_at_call 37; refine (HU.out _).mono ?_; rintro e w6 ⟨rfl, hb6⟩; have B6 : Hid (Below w.heap.size w w6) := Below.next B5.out hb6; have R6 := hidD (R5.out.next hb6); have O6 := hidD (O5.out.next hb6); clear hb6 HU R5 O5)
    | (go_at_call 67; refine (HS.out _).mono ?_; rintro e w7 ⟨rfl, hb7⟩; have B7 : Hid (Below w.heap.size w w7) := Below.next B6.out hb7; have R7 := hidD (R6.out.next hb7); have O7 := hidD (O6.out.next hb7); clear hb7 HS R6 O6)
    | (refine wpList_store_row rfl 59 _ _ rfl w.heap.size (bR (ubB (usB (mcB unmM (xoB b (rkS n key r)))))) rfl rfl 59 (bR (mcB unmM (xoB b (rkS n key r)))) R7.out (HIB.out _) (HSB.out _ _) (HON.out _) ?_; have R8 : Hid (RowZ (w7.setRow w.heap.size (bR (ubB (usB (mcB unmM (xoB b (rkS n key r))))))) w.heap.size .u8 16 59 (fun i => (((ubB (usB (mcB unmM (xoB b (rkS n key r))))) i).toNat : Int))) := row_new R7.out; have O8 : Hid (RowZ (w7.setRow w.heap.size (bR (ubB (usB (mcB unmM (xoB b (rkS n key r))))))) (w.heap.size + 1) .u8 16 59 (fun i => (((fun _ => 0 : Nat → UInt8) i).toNat : Int))) := (setRow_other _ _ _ _ (by omega)).trans O7.out; have B8 : Hid (Below w.heap.size w (w7.setRow w.heap.size (bR (ubB (usB (mcB unmM (xoB b (rkS n key r)))))))) := below_setRow B7.out (Nat.le_refl _) _; have c8 : (w7.setRow w.heap.size (bR (ubB (usB (mcB unmM (xoB b (rkS n key r))))))).cell? ⟨p, 0, none⟩ = some (.int .i64 ((n + 6 : Nat) : Int)) := (HA.out.next B8.out).2.2.1; generalize w7.setRow w.heap.size (bR (ubB (usB (mcB unmM (xoB b (rkS n key r)))))) = u8 at *)
    | (refine wpList_load_row rfl 59 _ rfl w.heap.size rfl 59 (bR (ubB (usB (mcB unmM (xoB b (rkS n key r)))))) (0, 0) _ R8.out Try.underlying59 rfl (HIB.out _) ?_)
    | (refine wpList_store_row rfl 59 _ _ rfl (w.heap.size + 1) (bR (ubB (usB (mcB unmM (xoB b (rkS n key r)))))) rfl rfl 59 (bR (fun _ => 0)) O8.out (HIB.out _) (HSB.out _ _) (HON.out _) ?_))
  refine bodyPost_ret (results_cell_row (P := Try.prog) (p := 6) (ty := 59) (by kernel_rfl) _ _ (w.heap.size + 1) 59 (bR (ubB (usB (mcB unmM (xoB b (rkS n key r)))))) (0, 0) _ rfl (setRow_heap _ _ (bR (fun _ => 0)) (bR (ubB (usB (mcB unmM (xoB b (rkS n key r)))))) 59 (0, 0) O8.out) Try.underlying59 rfl (HIB.out _)) rfl ?_
  exact ⟨rfl, below_setRow B8.out (by omega) _⟩
set_option maxRecDepth 100000 in
set_option maxHeartbeats 1600000 in
theorem pAhead_last (n B p : Nat) (hn : n ≤ 8) (key : Nat → UInt8) (r : Nat) (hr : r ≤ n + 6) (hr0 : r = n + 6) (b : Nat → UInt8) (w : World) (h : AcAt w B p n key) : Calls Try.prog 64 #[.pointer (some ⟨p, 0, none⟩), .int .i64 (r : Int), .agg (bR b)] w fun e w' => e = .returned (.agg (bR (ubB (usB (xoB b (rkS n key r)))))) ∧ Below w.heap.size w w' := by
  have HA := hidD h
  have hpl := h.lt
  obtain ⟨hz, hsz⟩ := zero_of_info Try.zero59
  have hbs : ∀ c : Nat → UInt8, (bR c).size = 16 := fun c => rowZ_size _ _ _
  have HIB : Hid (∀ c : Nat → UInt8, (Try.prog.info? 59).map (·.size) = some (bR c).size) := fun c => by rw [hsz, hbs]
  have HON : Hid (∀ c : Nat → UInt8, (bR c).all (·.oneCell') = true) := fun c => rowZ_one _ _ _
  have HSB : Hid (∀ c d : Nat → UInt8, (bR c).size = (bR d).size) := fun c d => by rw [hbs, hbs]
  have hz0 : (rowZ .u8 16 (fun _ => 0)) = bR (fun _ => 0) := rfl
  rw [hz0] at hz
  obtain ⟨b1, b2, b3, b4⟩ := two_blocks w (bR b) (bR (fun _ => 0)) 59
  have W1 := hidD b1
  have W2 := hidD b2
  have W3 := hidD b3
  have c0 : w.cell? ⟨p, 0, none⟩ = some (.int .i64 ((n + 6 : Nat) : Int)) := h.2.2.1
  have c0' : ((w.alloc (.cells (bR b) (59 : TypeId))).alloc (.cells (bR (fun _ => 0)) (59 : TypeId))).cell? ⟨p, 0, none⟩ = some (.int .i64 ((n + 6 : Nat) : Int)) := (b3.cell (p := ⟨p, 0, none⟩) hpl).trans c0
  clear b1 b2 b3 b4 h hbs c0 hz0
  have g0 : (0 : Int) < (r : Int) := by omega
  have g1 : ¬ (r : Int) < ((n + 6 : Nat) : Int) := by omega
  have HU := hidD (fun w => pUnshift_any (xoB b (rkS n key r)) w)
  have HS := hidD (fun w => pEachUnsub_any (usB (xoB b (rkS n key r))) w)
  have l1 : (r : Int) < 15 := by omega
  clear c0' hr0
  go_enter Try.func64, Try.ntmps64
  go_wp2_with fail
  generalize hW : World.alloc _ (Obj.cells (bR (fun _ => 0)) (59 : TypeId)) = u0 at *
  have R0 : Hid (RowZ u0 w.heap.size .u8 16 59 (fun i => ((b i).toNat : Int))) := W1.out
  have O0 : Hid (RowZ u0 (w.heap.size + 1) .u8 16 59 (fun i => (((fun _ => 0 : Nat → UInt8) i).toNat : Int))) := W2.out
  have B0 : Hid (Below w.heap.size w u0) := W3.out
  clear hW W1 W2 W3
  have q1 : ∀ i : BW u0, (Instr.loadAt 59 (.pointer (some ⟨w.heap.size, 0, none⟩))).run Try.prog i.v = .ok (.agg (bR (b))) i.v := fun i => (R0.out.next i.below).load59
  have q2 : ∀ i : BW u0, (Instr.loadAt 59 (.pointer (some ⟨p, 1 + r * 16, none⟩))).run Try.prog i.v = .ok (.agg (bR (rkS n key r))) i.v := fun i => ((HA.out.next B0.out).next i.below).load hr
  have HQC : Hid (∀ w, Calls Try.prog 51 #[.agg (bR (b)), .agg (bR (rkS n key r))] w fun e w' => e = .returned (.agg (bR (xoB (b) (rkS n key r)))) ∧ Below w.heap.size w w') := fun w => pWith_any _ _ w
  refine wp_region_put (by simp) (by kernel_rfl) rfl (by kernel_rfl) (by kernel_rfl) (by kernel_rfl) ?_
  simp only [List.dropLast_cons_cons, List.dropLast_singleton, List.getLast_cons_cons, List.getLast_singleton, List.cons_append, List.nil_append, mute]
  refine quiet_load rfl 59 _ rfl ⟨w.heap.size, 0, none⟩ rfl _ (fun w' hw' => by obtain ⟨i, rfl⟩ := hw'; exact q1 i) ?_
  simp only [Act.put, List.setIfInBounds_toArray, List.set_cons_succ, List.set_cons_zero]
  repeat (go_big_quiet_step (fail))
  refine quiet_load rfl 59 _ rfl ⟨p, 1 + r * 16, none⟩ rfl _ (fun w' hw' => by obtain ⟨i, rfl⟩ := hw'; exact q2 i) ?_
  simp only [Act.put, List.setIfInBounds_toArray, List.set_cons_succ, List.set_cons_zero]
  repeat (go_big_quiet_step ((go_at_call 51; exact Calls.below_of (HQC.out _))))
  refine wpQuiet_nil ?_
  intro i
  have Ri := hidD (R0.out.next i.below)
  have Oi := hidD (O0.out.next i.below)
  have Bi : Hid (Below w.heap.size w i.v) := Below.next B0.out i.below
  clear q1 q2 HQC
  go_wp2_with (first
    | (refine wpList_store_row rfl 59 _ _ rfl w.heap.size (bR (xoB b (rkS n key r))) rfl rfl 59 (bR (b)) Ri.out (HIB.out _) (HSB.out _ _) (HON.out _) ?_; have R3 : Hid (RowZ (i.v.setRow w.heap.size (bR (xoB b (rkS n key r)))) w.heap.size .u8 16 59 (fun i => (((xoB b (rkS n key r)) i).toNat : Int))) := row_new Ri.out; have O3 : Hid (RowZ (i.v.setRow w.heap.size (bR (xoB b (rkS n key r)))) (w.heap.size + 1) .u8 16 59 (fun i => (((fun _ => 0 : Nat → UInt8) i).toNat : Int))) := (setRow_other _ _ _ _ (by omega)).trans Oi.out; have B3 : Hid (Below w.heap.size w (i.v.setRow w.heap.size (bR (xoB b (rkS n key r))))) := below_setRow Bi.out (Nat.le_refl _) _; have c3 : (i.v.setRow w.heap.size (bR (xoB b (rkS n key r)))).cell? ⟨p, 0, none⟩ = some (.int .i64 ((n + 6 : Nat) : Int)) := (HA.out.next B3.out).2.2.1; generalize i.v.setRow w.heap.size (bR (xoB b (rkS n key r))) = u3 at *)
    | (refine wpList_load_row rfl 59 _ rfl w.heap.size rfl 59 (bR (xoB b (rkS n key r))) (0, 0) _ R3.out Try.underlying59 rfl (HIB.out _) ?_)
    | (go_at_call 37; refine (HU.out _).mono ?_; rintro e w6 ⟨rfl, hb6⟩; have B6 : Hid (Below w.heap.size w w6) := Below.next B3.out hb6; have R6 := hidD (R3.out.next hb6); have O6 := hidD (O3.out.next hb6); clear hb6 HU R3 O3)
    | (go_at_call 67; refine (HS.out _).mono ?_; rintro e w7 ⟨rfl, hb7⟩; have B7 : Hid (Below w.heap.size w w7) := Below.next B6.out hb7; have R7 := hidD (R6.out.next hb7); have O7 := hidD (O6.out.next hb7); clear hb7 HS R6 O6)
    | (refine wpList_store_row rfl 59 _ _ rfl w.heap.size (bR (ubB (usB (xoB b (rkS n key r))))) rfl rfl 59 (bR (xoB b (rkS n key r))) R7.out (HIB.out _) (HSB.out _ _) (HON.out _) ?_; have R8 : Hid (RowZ (w7.setRow w.heap.size (bR (ubB (usB (xoB b (rkS n key r)))))) w.heap.size .u8 16 59 (fun i => (((ubB (usB (xoB b (rkS n key r)))) i).toNat : Int))) := row_new R7.out; have O8 : Hid (RowZ (w7.setRow w.heap.size (bR (ubB (usB (xoB b (rkS n key r)))))) (w.heap.size + 1) .u8 16 59 (fun i => (((fun _ => 0 : Nat → UInt8) i).toNat : Int))) := (setRow_other _ _ _ _ (by omega)).trans O7.out; have B8 : Hid (Below w.heap.size w (w7.setRow w.heap.size (bR (ubB (usB (xoB b (rkS n key r))))))) := below_setRow B7.out (Nat.le_refl _) _; have c8 : (w7.setRow w.heap.size (bR (ubB (usB (xoB b (rkS n key r)))))).cell? ⟨p, 0, none⟩ = some (.int .i64 ((n + 6 : Nat) : Int)) := (HA.out.next B8.out).2.2.1; generalize w7.setRow w.heap.size (bR (ubB (usB (xoB b (rkS n key r))))) = u8 at *)
    | (refine wpList_load_row rfl 59 _ rfl w.heap.size rfl 59 (bR (ubB (usB (xoB b (rkS n key r))))) (0, 0) _ R8.out Try.underlying59 rfl (HIB.out _) ?_)
    | (refine wpList_store_row rfl 59 _ _ rfl (w.heap.size + 1) (bR (ubB (usB (xoB b (rkS n key r))))) rfl rfl 59 (bR (fun _ => 0)) O8.out (HIB.out _) (HSB.out _ _) (HON.out _) ?_))
  refine bodyPost_ret (results_cell_row (P := Try.prog) (p := 6) (ty := 59) (by kernel_rfl) _ _ (w.heap.size + 1) 59 (bR (ubB (usB (xoB b (rkS n key r))))) (0, 0) _ rfl (setRow_heap _ _ (bR (fun _ => 0)) (bR (ubB (usB (xoB b (rkS n key r))))) 59 (0, 0) O8.out) Try.underlying59 rfl (HIB.out _)) rfl ?_
  exact ⟨rfl, below_setRow B8.out (by omega) _⟩
theorem pAhead_any (n B p : Nat) (hn : n ≤ 8) (key : Nat → UInt8) (r : Nat) (hr : r ≤ n + 6) (b : Nat → UInt8) (w : World) (h : AcAt w B p n key) : Calls Try.prog 64 #[.pointer (some ⟨p, 0, none⟩), .int .i64 (r : Int), .agg (bR b)] w fun e w' => e = .returned (.agg (bR (ahS (n + 6) (rkS n key) r b))) ∧ Below w.heap.size w w' := by
  by_cases h0 : r = 0
  · have := pAhead_zero n B p hn key r hr h0 b w h
    rw [ahS, if_pos h0, show rkS n key 0 = rkS n key r by rw [h0]]; exact this
  · rw [ahS, if_neg h0, rdD, udB]
    by_cases h1 : r < n + 6
    · rw [if_pos h1]; exact pAhead_mid n B p hn key r hr (by omega) h1 b w h
    · rw [if_neg h1]; exact pAhead_last n B p hn key r hr (by omega) b w h
end Go.Proofs.Ytgefampdfhbmbaa
