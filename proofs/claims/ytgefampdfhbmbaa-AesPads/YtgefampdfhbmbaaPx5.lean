/- The program's cipher in memory; what its behind and ahead answer. -/
import Derived.Test.YtgefampdfhbmbaaPx4
namespace Go.Proofs.Ytgefampdfhbmbaa
open Go.RowKit
set_option linter.unusedVariables false

/-- The program's cipher of a key of n words lies in block p, all of its memory at or above B. -/
def AcAt (w : World) (B p n : Nat) (key : Nat → UInt8) : Prop := B ≤ p ∧ p < w.heap.size ∧ w.cell? ⟨p, 0, none⟩ = some (.int .i64 ((n + 6 : Nat) : Int)) ∧ ∀ r, r ≤ n + 6 → ∀ j, j < 16 → w.cell? ⟨p, 1 + r * 16 + j, none⟩ = some (.int .u8 ((rkS n key r j).toNat : Int))
theorem AcAt.keep {w w' : World} {B p n : Nat} {key : Nat → UInt8} (h : AcAt w B p n key) (hk : ∀ g, B ≤ g → g < w.heap.size → w'.heap[g]? = w.heap[g]?) (hs : w.heap.size ≤ w'.heap.size) : AcAt w' B p n key := by
  obtain ⟨h1, h2, h3, h4⟩ := h
  have c : ∀ o, w'.cell? ⟨p, o, none⟩ = w.cell? ⟨p, o, none⟩ := fun o => World.cell?_of_block (hk p h1 h2)
  exact ⟨h1, Nat.lt_of_lt_of_le h2 hs, (c _).trans h3, fun r hr j hj => (c _).trans (h4 r hr j hj)⟩
theorem AcAt.next {w w' : World} {B p n : Nat} {key : Nat → UInt8} (h : AcAt w B p n key) (hb : Below w.heap.size w w') : AcAt w' B p n key := h.keep (fun g _ hg => hb.block g hg) hb.size
theorem AcAt.lt {w : World} {B p n : Nat} {key : Nat → UInt8} (h : AcAt w B p n key) : p < w.heap.size := h.2.1
theorem AcAt.load {w : World} {B p n : Nat} {key : Nat → UInt8} (h : AcAt w B p n key) {r : Nat} (hr : r ≤ n + 6) : (Instr.loadAt 59 (.pointer (some ⟨p, 1 + r * 16, none⟩))).run Try.prog w = .ok (.agg (bR (rkS n key r))) w :=
  run_loadAt_mid (P := Try.prog) w p (1 + r * 16) 59 (lZ .u8 16 (fun i => ((rkS n key r i).toNat : Int))) _ (lZ_range fun j hj => h.2.2.2 r hr j hj) Try.underlying59 rfl (by rw [lZ_len]; exact (zero_of_info Try.zero59).2)
theorem RowZ.load59 {w : World} {g : Nat} {b : Nat → UInt8} (h : RowZ w g .u8 16 59 (fun i => ((b i).toNat : Int))) : (Instr.loadAt 59 (.pointer (some ⟨g, 0, none⟩))).run Try.prog w = .ok (.agg (bR b)) w :=
  run_loadAt_mid (P := Try.prog) w g 0 59 (lZ .u8 16 (fun i => ((b i).toNat : Int))) _ (lZ_range fun j hj => by rw [Nat.zero_add]; exact h.cell hj) Try.underlying59 rfl (by rw [lZ_len]; exact (zero_of_info Try.zero59).2)
/-- The block behind a round. -/
def bhS (R : Nat) (rk : Nat → Nat → UInt8) (r : Nat) (b : Nat → UInt8) : Nat → UInt8 := if r = 0 then xoB b (rk 0) else rdE R rk b r
/-- The block ahead of a round. -/
def ahS (R : Nat) (rk : Nat → Nat → UInt8) (r : Nat) (b : Nat → UInt8) : Nat → UInt8 := if r = 0 then xoB b (rk 0) else rdD R rk b r
theorem row_new {w : World} {g : Nat} {b c : Nat → UInt8} (h : RowZ w g .u8 16 59 (fun i => ((b i).toNat : Int))) : RowZ (w.setRow g (bR c)) g .u8 16 59 (fun i => ((c i).toNat : Int)) := setRow_heap w g _ (bR c) 59 (0, 0) h
set_option maxRecDepth 100000 in
set_option maxHeartbeats 1600000 in
theorem pBehind_zero (n B p : Nat) (hn : n ≤ 8) (key : Nat → UInt8) (r : Nat) (hr : r ≤ n + 6) (hr0 : r = 0) (b : Nat → UInt8) (w : World) (h : AcAt w B p n key) : Calls Try.prog 48 #[.pointer (some ⟨p, 0, none⟩), .int .i64 (r : Int), .agg (bR b)] w fun e w' => e = .returned (.agg (bR (xoB b (rkS n key r)))) ∧ Below w.heap.size w w' := by
  have HA := hidD h
  have hpl := h.lt
  obtain ⟨hz, hsz⟩ := zero_of_info Try.zero59
  have hbs : ∀ c : Nat → UInt8, (bR c).size = 16 := fun c => rowZ_size _ _ _
  have HIB : Hid (∀ c : Nat → UInt8, (Try.prog.info? 59).map (·.size) = some (bR c).size) := fun c => by rw [hsz, hbs]
  have HON : Hid (∀ c : Nat → UInt8, (bR c).all (·.oneCell') = true) := fun c => rowZ_one _ _ _
  have HSB : Hid (∀ c d : Nat → UInt8, (bR c).size = (bR d).size) := fun c d => by rw [hbs, hbs]
  have hz0 : (rowZ .u8 16 (fun _ => 0)) = bR (fun _ => 0) := rfl
  rw [hz0] at hz
  obtain ⟨b1, b2, b3, b4⟩ := two_blocks w (bR b) (bR (fun _ => 0)) 59
  have W1 := hidD b1
  have W2 := hidD b2
  have W3 := hidD b3
  have c0 : w.cell? ⟨p, 0, none⟩ = some (.int .i64 ((n + 6 : Nat) : Int)) := h.2.2.1
  have c0' : ((w.alloc (.cells (bR b) (59 : TypeId))).alloc (.cells (bR (fun _ => 0)) (59 : TypeId))).cell? ⟨p, 0, none⟩ = some (.int .i64 ((n + 6 : Nat) : Int)) := (b3.cell (p := ⟨p, 0, none⟩) hpl).trans c0
  clear b1 b2 b3 b4 h hbs c0 hz0
  have g0 : ¬ (0 : Int) < (r : Int) := by omega
  have l1 : (r : Int) < 15 := by omega
  clear c0' hr0
  go_enter Try.func48, Try.ntmps48
  go_wp2_with fail
  generalize hW : World.alloc _ (Obj.cells (bR (fun _ => 0)) (59 : TypeId)) = u0 at *
  have R0 : Hid (RowZ u0 w.heap.size .u8 16 59 (fun i => ((b i).toNat : Int))) := W1.out
  have O0 : Hid (RowZ u0 (w.heap.size + 1) .u8 16 59 (fun i => (((fun _ => 0 : Nat → UInt8) i).toNat : Int))) := W2.out
  have B0 : Hid (Below w.heap.size w u0) := W3.out
  clear hW W1 W2 W3
  have q1 : ∀ i : BW u0, (Instr.loadAt 59 (.pointer (some ⟨w.heap.size, 0, none⟩))).run Try.prog i.v = .ok (.agg (bR (b))) i.v := fun i => (R0.out.next i.below).load59
  have q2 : ∀ i : BW u0, (Instr.loadAt 59 (.pointer (some ⟨p, 1 + r * 16, none⟩))).run Try.prog i.v = .ok (.agg (bR (rkS n key r))) i.v := fun i => ((HA.out.next B0.out).next i.below).load hr
  have HQC : Hid (∀ w, Calls Try.prog 51 #[.agg (bR (b)), .agg (bR (rkS n key r))] w fun e w' => e = .returned (.agg (bR (xoB (b) (rkS n key r)))) ∧ Below w.heap.size w w') := fun w => pWith_any _ _ w
  refine wp_region_put (by simp) (by kernel_rfl) rfl (by kernel_rfl) (by kernel_rfl) (by kernel_rfl) ?_
  simp only [List.dropLast_cons_cons, List.dropLast_singleton, List.getLast_cons_cons, List.getLast_singleton, List.cons_append, List.nil_append, mute]
  refine quiet_load rfl 59 _ rfl ⟨w.heap.size, 0, none⟩ rfl _ (fun w' hw' => by obtain ⟨i, rfl⟩ := hw'; exact q1 i) ?_
  simp only [Act.put, List.setIfInBounds_toArray, List.set_cons_succ, List.set_cons_zero]
  repeat (go_big_quiet_step (fail))
  refine quiet_load rfl 59 _ rfl ⟨p, 1 + r * 16, none⟩ rfl _ (fun w' hw' => by obtain ⟨i, rfl⟩ := hw'; exact q2 i) ?_
  simp only [Act.put, List.setIfInBounds_toArray, List.set_cons_succ, List.set_cons_zero]
  repeat (go_big_quiet_step ((go_at_call 51; exact Calls.below_of (HQC.out _))))
  refine wpQuiet_nil ?_
  intro i
  have HO : Hid (i.v.heap[w.heap.size + 1]? = some (.cells (bR (fun _ => 0)) (59 : TypeId) (0, 0))) := O0.out.next i.below
  have HBG : Hid (Below w.heap.size w i.v) := Below.next B0.out i.below
  clear q1 q2 HQC
  generalize hC : bR (xoB (b) (rkS n key r)) = C at *
  have HCE := hidD hC
  have HC1 : Hid ((Try.prog.info? 59).map (·.size) = some C.size) := by rw [← hC]; exact HIB.out _
  have HC2 : Hid ((bR (fun _ => 0)).size = C.size) := by rw [← hC]; exact HSB.out _ _
  have HC3 : Hid (C.all (·.oneCell') = true) := by rw [← hC]; exact HON.out _
  clear hC
  go_wp2_with (refine wpList_store_row rfl 59 _ _ rfl (w.heap.size + 1) C rfl rfl 59 (bR (fun _ => 0)) HO.out HC1.out HC2.out HC3.out ?_)
  refine bodyPost_ret (results_cell_row (P := Try.prog) (p := 6) (ty := 59) (by kernel_rfl) _ _ (w.heap.size + 1) 59 C (0, 0) _ rfl (setRow_heap _ _ (bR (fun _ => 0)) C 59 (0, 0) HO.out) Try.underlying59 rfl HC1.out) rfl ?_
  exact ⟨by rw [HCE.out], below_setRow HBG.out (by omega) _⟩
set_option maxRecDepth 100000 in
set_option maxHeartbeats 1600000 in
theorem pBehind_mid (n B p : Nat) (hn : n ≤ 8) (key : Nat → UInt8) (r : Nat) (hr : r ≤ n + 6) (hr0 : 0 < r) (hr1 : r < n + 6) (b : Nat → UInt8) (w : World) (h : AcAt w B p n key) : Calls Try.prog 48 #[.pointer (some ⟨p, 0, none⟩), .int .i64 (r : Int), .agg (bR b)] w fun e w' => e = .returned (.agg (bR (xoB (mcB mixM (shB (sbB b))) (rkS n key r)))) ∧ Below w.heap.size w w' := by
  have HA := hidD h
  have hpl := h.lt
  obtain ⟨hz, hsz⟩ := zero_of_info Try.zero59
  have hbs : ∀ c : Nat → UInt8, (bR c).size = 16 := fun c => rowZ_size _ _ _
  have HIB : Hid (∀ c : Nat → UInt8, (Try.prog.info? 59).map (·.size) = some (bR c).size) := fun c => by rw [hsz, hbs]
  have HON : Hid (∀ c : Nat → UInt8, (bR c).all (·.oneCell') = true) := fun c => rowZ_one _ _ _
  have HSB : Hid (∀ c d : Nat → UInt8, (bR c).size = (bR d).size) := fun c d => by rw [hbs, hbs]
  have hz0 : (rowZ .u8 16 (fun _ => 0)) = bR (fun _ => 0) := rfl
  rw [hz0] at hz
  obtain ⟨b1, b2, b3, b4⟩ := two_blocks w (bR b) (bR (fun _ => 0)) 59
  have W1 := hidD b1
  have W2 := hidD b2
  have W3 := hidD b3
  have c0 : w.cell? ⟨p, 0, none⟩ = some (.int .i64 ((n + 6 : Nat) : Int)) := h.2.2.1
  have c0' : ((w.alloc (.cells (bR b) (59 : TypeId))).alloc (.cells (bR (fun _ => 0)) (59 : TypeId))).cell? ⟨p, 0, none⟩ = some (.int .i64 ((n + 6 : Nat) : Int)) := (b3.cell (p := ⟨p, 0, none⟩) hpl).trans c0
  clear b1 b2 b3 b4 h hbs c0 hz0
  have g0 : (0 : Int) < (r : Int) := by omega
  have g1 : (r : Int) < ((n + 6 : Nat) : Int) := by omega
  have l1 : (r : Int) < 15 := by omega
  have HM := hidD (fun w => pEachMix_any (shB (sbB b)) w)
  have HS := hidD (fun w => pEachSub_any b w)
  have HH := hidD (fun w => pShift_any (sbB b) w)
  clear hr0
  go_enter Try.func48, Try.ntmps48
  go_wp2_with (first
    | (generalize hW : World.alloc _ (Obj.cells (bR (fun _ => 0)) (59 : TypeId)) = u0 at *; have R0 : Hid (RowZ u0 w.heap.size .u8 16 59 (fun i => ((b i).toNat : Int))) := W1.out; have O0 : Hid (RowZ u0 (w.heap.size + 1) .u8 16 59 (fun i => (((fun _ => 0 : Nat → UInt8) i).toNat : Int))) := W2.out; have B0 : Hid (Below w.heap.size w u0) := W3.out; clear hW W1 W2 W3; refine wpList_load_row rfl 59 _ rfl w.heap.size rfl 59 (bR b) (0, 0) _ R0.out Try.underlying59 rfl (HIB.out _) ?_)
    | (go_at_call 67; refine (HS.out _).mono ?_; rintro e w1 ⟨rfl, hb1⟩; have B1 : Hid (Below w.heap.size w w1) := Below.next B0.out hb1; have R1 := hidD (R0.out.next hb1); have O1 := hidD (O0.out.next hb1); clear hb1 HS)
    | (go_at_call 35; refine (HH.out _).mono ?_; rintro e w2 ⟨rfl, hb2⟩; have B2 : Hid (Below w.heap.size w w2) := Below.next B1.out hb2; have R2 := hidD (R1.out.next hb2); have O2 := hidD (O1.out.next hb2); clear hb2 HH R1 O1)
    | (refine wpList_store_row rfl 59 _ _ rfl w.heap.size (bR (shB (sbB b))) rfl rfl 59 (bR (b)) R2.out (HIB.out _) (HSB.out _ _) (HON.out _) ?_; have R3 : Hid (RowZ (w2.setRow w.heap.size (bR (shB (sbB b)))) w.heap.size .u8 16 59 (fun i => (((shB (sbB b)) i).toNat : Int))) := row_new R2.out; have O3 : Hid (RowZ (w2.setRow w.heap.size (bR (shB (sbB b)))) (w.heap.size + 1) .u8 16 59 (fun i => (((fun _ => 0 : Nat → UInt8) i).toNat : Int))) := (setRow_other _ _ _ _ (by omega)).trans O2.out; have B3 : Hid (Below w.heap.size w (w2.setRow w.heap.size (bR (shB (sbB b))))) := below_setRow B2.out (Nat.le_refl _) _; have c3 : (w2.setRow w.heap.size (bR (shB (sbB b)))).cell? ⟨p, 0, none⟩ = some (.int .i64 ((n + 6 : Nat) : Int)) := (HA.out.next B3.out).2.2.1; generalize w2.setRow w.heap.size (bR (shB (sbB b))) = u3 at *)
    | (refine wpList_load_row rfl 59 _ rfl w.heap.size rfl 59 (bR (shB (sbB b))) (0, 0) _ R3.out Try.underlying59 rfl (HIB.out _) ?_)
    | (go_at_call 69; refine (HM.out _).mono ?_; rintro e w4 ⟨rfl, hb4⟩; have B4 : Hid (Below w.heap.size w w4) := Below.next B3.out hb4; have R4 := hidD (R3.out.next hb4); have O4 := hidD (O3.out.next hb4); clear hb4 HM R3 O3)
    | (refine wpList_store_row rfl 59 _ _ rfl w.heap.size (bR (mcB mixM (shB (sbB b)))) rfl rfl 59 (bR (shB (sbB b))) R4.out (HIB.out _) (HSB.out _ _) (HON.out _) ?_; have R5 : Hid (RowZ (w4.setRow w.heap.size (bR (mcB mixM (shB (sbB b))))) w.heap.size .u8 16 59 (fun i => (((mcB mixM (shB (sbB b))) i).toNat : Int))) := row_new R4.out; have O5 : Hid (RowZ (w4.setRow w.heap.size (bR (mcB mixM (shB (sbB b))))) (w.heap.size + 1) .u8 16 59 (fun i => (((fun _ => 0 : Nat → UInt8) i).toNat : Int))) := (setRow_other _ _ _ _ (by omega)).trans O4.out; have B5 : Hid (Below w.heap.size w (w4.setRow w.heap.size (bR (mcB mixM (shB (sbB b)))))) := below_setRow B4.out (Nat.le_refl _) _; have c5 : (w4.setRow w.heap.size (bR (mcB mixM (shB (sbB b))))).cell? ⟨p, 0, none⟩ = some (.int .i64 ((n + 6 : Nat) : Int)) := (HA.out.next B5.out).2.2.1; generalize w4.setRow w.heap.size (bR (mcB mixM (shB (sbB b)))) = u5 at *))
  have q1 : ∀ i : BW u5, (Instr.loadAt 59 (.pointer (some ⟨w.heap.size, 0, none⟩))).run Try.prog i.v = .ok (.agg (bR (mcB mixM (shB (sbB b))))) i.v := fun i => (R5.out.next i.below).load59
  have q2 : ∀ i : BW u5, (Instr.loadAt 59 (.pointer (some ⟨p, 1 + r * 16, none⟩))).run Try.prog i.v = .ok (.agg (bR (rkS n key r))) i.v := fun i => ((HA.out.next B5.out).next i.below).load hr
  have HQC : Hid (∀ w, Calls Try.prog 51 #[.agg (bR (mcB mixM (shB (sbB b)))), .agg (bR (rkS n key r))] w fun e w' => e = .returned (.agg (bR (xoB (mcB mixM (shB (sbB b))) (rkS n key r)))) ∧ Below w.heap.size w w') := fun w => pWith_any _ _ w
  refine wp_region_put (by simp) (by kernel_rfl) rfl (by kernel_rfl) (by kernel_rfl) (by kernel_rfl) ?_
  simp only [List.dropLast_cons_cons, List.dropLast_singleton, List.getLast_cons_cons, List.getLast_singleton, List.cons_append, List.nil_append, mute]
  refine quiet_load rfl 59 _ rfl ⟨w.heap.size, 0, none⟩ rfl _ (fun w' hw' => by obtain ⟨i, rfl⟩ := hw'; exact q1 i) ?_
  simp only [Act.put, List.setIfInBounds_toArray, List.set_cons_succ, List.set_cons_zero]
  repeat (go_big_quiet_step (fail))
  refine quiet_load rfl 59 _ rfl ⟨p, 1 + r * 16, none⟩ rfl _ (fun w' hw' => by obtain ⟨i, rfl⟩ := hw'; exact q2 i) ?_
  simp only [Act.put, List.setIfInBounds_toArray, List.set_cons_succ, List.set_cons_zero]
  repeat (go_big_quiet_step ((go_at_call 51; exact Calls.below_of (HQC.out _))))
  refine wpQuiet_nil ?_
  intro i
  have HO : Hid (i.v.heap[w.heap.size + 1]? = some (.cells (bR (fun _ => 0)) (59 : TypeId) (0, 0))) := O5.out.next i.below
  have HBG : Hid (Below w.heap.size w i.v) := Below.next B5.out i.below
  clear q1 q2 HQC
  generalize hC : bR (xoB (mcB mixM (shB (sbB b))) (rkS n key r)) = C at *
  have HCE := hidD hC
  have HC1 : Hid ((Try.prog.info? 59).map (·.size) = some C.size) := by rw [← hC]; exact HIB.out _
  have HC2 : Hid ((bR (fun _ => 0)).size = C.size) := by rw [← hC]; exact HSB.out _ _
  have HC3 : Hid (C.all (·.oneCell') = true) := by rw [← hC]; exact HON.out _
  clear hC
  go_wp2_with (refine wpList_store_row rfl 59 _ _ rfl (w.heap.size + 1) C rfl rfl 59 (bR (fun _ => 0)) HO.out HC1.out HC2.out HC3.out ?_)
  refine bodyPost_ret (results_cell_row (P := Try.prog) (p := 6) (ty := 59) (by kernel_rfl) _ _ (w.heap.size + 1) 59 C (0, 0) _ rfl (setRow_heap _ _ (bR (fun _ => 0)) C 59 (0, 0) HO.out) Try.underlying59 rfl HC1.out) rfl ?_
  exact ⟨by rw [HCE.out], below_setRow HBG.out (by omega) _⟩
set_option maxRecDepth 100000 in
set_option maxHeartbeats 1600000 in
theorem pBehind_last (n B p : Nat) (hn : n ≤ 8) (key : Nat → UInt8) (r : Nat) (hr : r ≤ n + 6) (hr0 : r = n + 6) (b : Nat → UInt8) (w : World) (h : AcAt w B p n key) : Calls Try.prog 48 #[.pointer (some ⟨p, 0, none⟩), .int .i64 (r : Int), .agg (bR b)] w fun e w' => e = .returned (.agg (bR (xoB (shB (sbB b)) (rkS n key r)))) ∧ Below w.heap.size w w' := by
  have HA := hidD h
  have hpl := h.lt
  obtain ⟨hz, hsz⟩ := zero_of_info Try.zero59
  have hbs : ∀ c : Nat → UInt8, (bR c).size = 16 := fun c => rowZ_size _ _ _
  have HIB : Hid (∀ c : Nat → UInt8, (Try.prog.info? 59).map (·.size) = some (bR c).size) := fun c => by rw [hsz, hbs]
  have HON : Hid (∀ c : Nat → UInt8, (bR c).all (·.oneCell') = true) := fun c => rowZ_one _ _ _
  have HSB : Hid (∀ c d : Nat → UInt8, (bR c).size = (bR d).size) := fun c d => by rw [hbs, hbs]
  have hz0 : (rowZ .u8 16 (fun _ => 0)) = bR (fun _ => 0) := rfl
  rw [hz0] at hz
  obtain ⟨b1, b2, b3, b4⟩ := two_blocks w (bR b) (bR (fun _ => 0)) 59
  have W1 := hidD b1
  have W2 := hidD b2
  have W3 := hidD b3
  have c0 : w.cell? ⟨p, 0, none⟩ = some (.int .i64 ((n + 6 : Nat) : Int)) := h.2.2.1
  have c0' : ((w.alloc (.cells (bR b) (59 : TypeId))).alloc (.cells (bR (fun _ => 0)) (59 : TypeId))).cell? ⟨p, 0, none⟩ = some (.int .i64 ((n + 6 : Nat) : Int)) := (b3.cell (p := ⟨p, 0, none⟩) hpl).trans c0
  clear b1 b2 b3 b4 h hbs c0 hz0
  have g0 : (0 : Int) < (r : Int) := by omega
  have g1 : ¬ (r : Int) < ((n + 6 : Nat) : Int) := by omega
  have l1 : (r : Int) < 15 := by omega
  have HS := hidD (fun w => pEachSub_any b w)
  have HH := hidD (fun w => pShift_any (sbB b) w)
  clear hr0
  go_enter Try.func48, Try.ntmps48
  go_wp2_with (first
    | (generalize hW : World.alloc _ (Obj.cells (bR (fun _ => 0)) (59 : TypeId)) = u0 at *; have R0 : Hid (RowZ u0 w.heap.size .u8 16 59 (fun i => ((b i).toNat : Int))) := W1.out; have O0 : Hid (RowZ u0 (w.heap.size + 1) .u8 16 59 (fun i => (((fun _ => 0 : Nat → UInt8) i).toNat : Int))) := W2.out; have B0 : Hid (Below w.heap.size w u0) := W3.out; clear hW W1 W2 W3; refine wpList_load_row rfl 59 _ rfl w.heap.size rfl 59 (bR b) (0, 0) _ R0.out Try.underlying59 rfl (HIB.out _) ?_)
    | (go_at_call 67; refine (HS.out _).mono ?_; rintro e w1 ⟨rfl, hb1⟩; have B1 : Hid (Below w.heap.size w w1) := Below.next B0.out hb1; have R1 := hidD (R0.out.next hb1); have O1 := hidD (O0.out.next hb1); clear hb1 HS)
    | (go_at_call 35; refine (HH.out _).mono ?_; rintro e w2 ⟨rfl, hb2⟩; have B2 : Hid (Below w.heap.size w w2) := Below.next B1.out hb2; have R2 := hidD (R1.out.next hb2); have O2 := hidD (O1.out.next hb2); clear hb2 HH R1 O1)
    | (refine wpList_store_row rfl 59 _ _ rfl w.heap.size (bR (shB (sbB b))) rfl rfl 59 (bR (b)) R2.out (HIB.out _) (HSB.out _ _) (HON.out _) ?_; have R3 : Hid (RowZ (w2.setRow w.heap.size (bR (shB (sbB b)))) w.heap.size .u8 16 59 (fun i => (((shB (sbB b)) i).toNat : Int))) := row_new R2.out; have O3 : Hid (RowZ (w2.setRow w.heap.size (bR (shB (sbB b)))) (w.heap.size + 1) .u8 16 59 (fun i => (((fun _ => 0 : Nat → UInt8) i).toNat : Int))) := (setRow_other _ _ _ _ (by omega)).trans O2.out; have B3 : Hid (Below w.heap.size w (w2.setRow w.heap.size (bR (shB (sbB b))))) := below_setRow B2.out (Nat.le_refl _) _; have c3 : (w2.setRow w.heap.size (bR (shB (sbB b)))).cell? ⟨p, 0, none⟩ = some (.int .i64 ((n + 6 : Nat) : Int)) := (HA.out.next B3.out).2.2.1; generalize w2.setRow w.heap.size (bR (shB (sbB b))) = u3 at *))
  have q1 : ∀ i : BW u3, (Instr.loadAt 59 (.pointer (some ⟨w.heap.size, 0, none⟩))).run Try.prog i.v = .ok (.agg (bR (shB (sbB b)))) i.v := fun i => (R3.out.next i.below).load59
  have q2 : ∀ i : BW u3, (Instr.loadAt 59 (.pointer (some ⟨p, 1 + r * 16, none⟩))).run Try.prog i.v = .ok (.agg (bR (rkS n key r))) i.v := fun i => ((HA.out.next B3.out).next i.below).load hr
  have HQC : Hid (∀ w, Calls Try.prog 51 #[.agg (bR (shB (sbB b))), .agg (bR (rkS n key r))] w fun e w' => e = .returned (.agg (bR (xoB (shB (sbB b)) (rkS n key r)))) ∧ Below w.heap.size w w') := fun w => pWith_any _ _ w
  refine wp_region_put (by simp) (by kernel_rfl) rfl (by kernel_rfl) (by kernel_rfl) (by kernel_rfl) ?_
  simp only [List.dropLast_cons_cons, List.dropLast_singleton, List.getLast_cons_cons, List.getLast_singleton, List.cons_append, List.nil_append, mute]
  refine quiet_load rfl 59 _ rfl ⟨w.heap.size, 0, none⟩ rfl _ (fun w' hw' => by obtain ⟨i, rfl⟩ := hw'; exact q1 i) ?_
  simp only [Act.put, List.setIfInBounds_toArray, List.set_cons_succ, List.set_cons_zero]
  repeat (go_big_quiet_step (fail))
  refine quiet_load rfl 59 _ rfl ⟨p, 1 + r * 16, none⟩ rfl _ (fun w' hw' => by obtain ⟨i, rfl⟩ := hw'; exact q2 i) ?_
  simp only [Act.put, List.setIfInBounds_toArray, List.set_cons_succ, List.set_cons_zero]
  repeat (go_big_quiet_step ((go_at_call 51; exact Calls.below_of (HQC.out _))))
  refine wpQuiet_nil ?_
  intro i
  have HO : Hid (i.v.heap[w.heap.size + 1]? = some (.cells (bR (fun _ => 0)) (59 : TypeId) (0, 0))) := O3.out.next i.below
  have HBG : Hid (Below w.heap.size w i.v) := Below.next B3.out i.below
  clear q1 q2 HQC
  generalize hC : bR (xoB (shB (sbB b)) (rkS n key r)) = C at *
  have HCE := hidD hC
  have HC1 : Hid ((Try.prog.info? 59).map (·.size) = some C.size) := by rw [← hC]; exact HIB.out _
  have HC2 : Hid ((bR (fun _ => 0)).size = C.size) := by rw [← hC]; exact HSB.out _ _
  have HC3 : Hid (C.all (·.oneCell') = true) := by rw [← hC]; exact HON.out _
  clear hC
  go_wp2_with (refine wpList_store_row rfl 59 _ _ rfl (w.heap.size + 1) C rfl rfl 59 (bR (fun _ => 0)) HO.out HC1.out HC2.out HC3.out ?_)
  refine bodyPost_ret (results_cell_row (P := Try.prog) (p := 6) (ty := 59) (by kernel_rfl) _ _ (w.heap.size + 1) 59 C (0, 0) _ rfl (setRow_heap _ _ (bR (fun _ => 0)) C 59 (0, 0) HO.out) Try.underlying59 rfl HC1.out) rfl ?_
  exact ⟨by rw [HCE.out], below_setRow HBG.out (by omega) _⟩
theorem pBehind_any (n B p : Nat) (hn : n ≤ 8) (key : Nat → UInt8) (r : Nat) (hr : r ≤ n + 6) (b : Nat → UInt8) (w : World) (h : AcAt w B p n key) : Calls Try.prog 48 #[.pointer (some ⟨p, 0, none⟩), .int .i64 (r : Int), .agg (bR b)] w fun e w' => e = .returned (.agg (bR (bhS (n + 6) (rkS n key) r b))) ∧ Below w.heap.size w w' := by
  by_cases h0 : r = 0
  · have := pBehind_zero n B p hn key r hr h0 b w h
    rw [bhS, if_pos h0, show rkS n key 0 = rkS n key r by rw [h0]]; exact this
  · rw [bhS, if_neg h0, rdE, midB]
    by_cases h1 : r < n + 6
    · rw [if_pos h1]; exact pBehind_mid n B p hn key r hr (by omega) h1 b w h
    · rw [if_neg h1]; exact pBehind_last n B p hn key r hr (by omega) b w h
end Go.Proofs.Ytgefampdfhbmbaa
