/- What constantsOf answers. -/
import Derived.Test.YtnldpofljeodiaaSh6
namespace Go.Proofs.Ytnldpofljeodiaa
open Go.RowKit
set_option linter.unusedVariables false

/- the constants of a kind: 80 of k, then 8 of h -/
def coS (k j : Nat) : Nat := ofS k (drS (wdN k) (rdN k)) j
theorem dr_lt (width c j : Nat) : drS width c j < 18446744073709551616 := by
  unfold drS
  split
  · split
    · exact frS_lt _ _ _
    · omega
  · split
    · split
      · exact frS_lt _ _ _
      · omega
    · omega

set_option maxRecDepth 100000 in
set_option maxHeartbeats 800000 in
theorem constants224_any (w : World) : Calls Try.prog 45 #[.int .i64 224] w fun e w' => e = .returned (.agg (rowZ .u64 88 (fun j => (coS 224 j : Int)))) ∧ Below w.heap.size w w' := by
  obtain ⟨hz, hsz⟩ := zero_of_info Try.zero53z
  obtain ⟨hy, hsy⟩ := zero_of_info Try.zero67z
  have HSZ := hidD hsz
  have HSH : Hid (∀ w, Calls Try.prog 47 #[.int .i64 224] w fun e w' => e = .returned (.agg shN) ∧ Below w.heap.size w w') := fun w => shapeOf_any 224 w
  have HFF : Hid (∀ w, Calls Try.prog 60 #[.int .i64 64, .int .i64 32] w fun e w' => e = .returned (.agg (rowZ .u64 96 (fun j => (drS 32 64 j : Int)))) ∧ Below w.heap.size w w') := fun w => first_any 64 32 (by omega) (by omega) w
  have HOF : Hid (∀ w, Calls Try.prog 61 #[.agg (rowZ .u64 96 (fun j => (drS 32 64 j : Int))), .int .i64 224] w fun e w' => e = .returned (.agg (rowZ .u64 88 (fun j => (coS 224 j : Int)))) ∧ Below w.heap.size w w') := fun w => of224_any (drS 32 64) (dr_lt 32 64) w
  have HI7 : Hid ((Try.prog.info? 96).map (·.size) = some shN.size) := hsy
  have HS7 : Hid ((#[.int .i64 0, .int .i64 0, .int .i64 0, .int .i64 0, .int .i64 0, .int .i64 0, .int .i64 0, .int .i64 0, .int .i64 0, .int .i64 0, .int .i64 0, .int .i64 0, .int .i64 0, .int .i64 0] : Array Value).size = shN.size) := hidD rfl
  have HO7 : Hid (shN.all (·.oneCell') = true) := hidD (by simp [shN, Value.oneCell'])
  have HQ0 : Hid (shN[0]? = some (.int .i64 32)) := hidD rfl
  have HQ1 : Hid (shN[1]? = some (.int .i64 64)) := hidD rfl
  have HONE : Hid ((rowZ .u64 88 (fun j => (coS 224 j : Int))).all (·.oneCell') = true) := rowZ_one _ _ _
  have h4 : (rowZ .u64 88 (fun j => (coS 224 j : Int))).size = 88 := rowZ_size _ _ _
  have h0 : (rowZ .u64 88 (fun _ => 0)).size = 88 := rowZ_size _ _ _
  clear hsz hsy
  generalize shN = SH at *
  generalize (#[.int .i64 0, .int .i64 0, .int .i64 0, .int .i64 0, .int .i64 0, .int .i64 0, .int .i64 0, .int .i64 0, .int .i64 0, .int .i64 0, .int .i64 0, .int .i64 0, .int .i64 0, .int .i64 0] : Array Value) = Z7 at *
  generalize rowZ .u64 96 (fun j => (drS 32 64 j : Int)) = FR at *
  generalize rowZ .u64 88 (fun j => (coS 224 j : Int)) = C at *
  generalize rowZ .u64 88 (fun _ => 0) = C0 at *
  have hi : Hid ((Try.prog.info? 82).map (·.size) = some C.size) := by show _ = _; rw [HSZ.out, h4]
  have HSS : Hid (C0.size = C.size) := by show _ = _; rw [h0, h4]
  clear h0 h4
  have W1 : Hid ((w.alloc (.cells C0 (82 : TypeId))).heap[w.heap.size]? = some (.cells C0 (82 : TypeId) (0, 0))) := heap_alloc_last _ _
  have W4 : Hid (Below w.heap.size w (w.alloc (.cells C0 (82 : TypeId)))) := (Below.refl _ _).alloc (Nat.le_refl _) _
  go_enter Try.func45, Try.ntmps45
  go_wp2_with (first
    | (go_at_call 47; refine (HSH.out _).mono ?_; rintro e w1 ⟨rfl, hb⟩; have V1 := hidD ((hb.block _ (row_lt W1.out)).trans W1.out); have V4 : Hid (Below w.heap.size w w1) := Below.next W4.out hb; have hl := row_lt V1.out; have VA : Hid ((w1.alloc (.cells Z7 (96 : TypeId))).heap[w1.heap.size]? = some (.cells Z7 (96 : TypeId) (0, 0))) := heap_alloc_last _ _; have VL : Hid (w.heap.size < w1.heap.size) := hl; clear hb hl W1 W4)
    | (refine wpList_store_row rfl 96 _ _ rfl w1.heap.size SH rfl rfl 96 Z7 VA.out HI7.out HS7.out HO7.out ?_; have HAL := hidD ((Below.refl w1.heap.size w1).alloc (Nat.le_refl _) (.cells Z7 (96 : TypeId))); have U7 := hidD (setRow_heap _ _ _ SH _ _ VA.out); have U1 := hidD ((setRow_other (w1.alloc (.cells Z7 (96 : TypeId))) w1.heap.size w.heap.size SH (by have := VL.out; omega)).trans ((HAL.out.block _ (row_lt V1.out)).trans V1.out)); have U4 := hidD (below_setRow (Below.next V4.out HAL.out) (g := w1.heap.size) V4.out.size SH); clear VA V1 V4 HAL; generalize (w1.alloc (.cells Z7 (96 : TypeId))).setRow w1.heap.size SH = w2 at *; have c7a : w2.cell? ⟨w1.heap.size, 1, none⟩ = some (.int .i64 64) := (by rw [cell_of_row _ _ _ _ _ _ U7.out]; exact HQ1.out); have c7b : w2.cell? ⟨w1.heap.size, 0, none⟩ = some (.int .i64 32) := (by rw [cell_of_row _ _ _ _ _ _ U7.out]; exact HQ0.out))
    | (go_at_call 60; refine (HFF.out _).mono ?_; rintro e w3 ⟨rfl, hb⟩; have X1 := hidD ((hb.block _ (row_lt U1.out)).trans U1.out); have X4 : Hid (Below w.heap.size w w3) := Below.next U4.out hb; clear hb U1 U4 U7 c7a c7b)
    | (go_at_call 61; refine (HOF.out _).mono ?_; rintro e w4 ⟨rfl, hb⟩; have Y1 := hidD ((hb.block _ (row_lt X1.out)).trans X1.out); have Y4 : Hid (Below w.heap.size w w4) := Below.next X4.out hb; clear hb X1 X4)
    | (refine wpList_store_row rfl 82 _ _ rfl w.heap.size C rfl rfl 82 C0 Y1.out hi.out HSS.out HONE.out ?_))
  refine bodyPost_ret (results_cell_row (P := Try.prog) (p := 2) (ty := 82) (by kernel_rfl) _ _ w.heap.size 82 C (0, 0) _ rfl (setRow_heap _ _ C0 C 82 (0, 0) Y1.out) Try.underlying82 rfl hi.out) rfl ?_
  exact ⟨rfl, below_setRow Y4.out (Nat.le_refl _) _⟩

set_option maxRecDepth 100000 in
set_option maxHeartbeats 800000 in
theorem constants256_any (w : World) : Calls Try.prog 45 #[.int .i64 256] w fun e w' => e = .returned (.agg (rowZ .u64 88 (fun j => (coS 256 j : Int)))) ∧ Below w.heap.size w w' := by
  obtain ⟨hz, hsz⟩ := zero_of_info Try.zero53z
  obtain ⟨hy, hsy⟩ := zero_of_info Try.zero67z
  have HSZ := hidD hsz
  have HSH : Hid (∀ w, Calls Try.prog 47 #[.int .i64 256] w fun e w' => e = .returned (.agg shN) ∧ Below w.heap.size w w') := fun w => shapeOf_any 256 w
  have HFF : Hid (∀ w, Calls Try.prog 60 #[.int .i64 64, .int .i64 32] w fun e w' => e = .returned (.agg (rowZ .u64 96 (fun j => (drS 32 64 j : Int)))) ∧ Below w.heap.size w w') := fun w => first_any 64 32 (by omega) (by omega) w
  have HOF : Hid (∀ w, Calls Try.prog 61 #[.agg (rowZ .u64 96 (fun j => (drS 32 64 j : Int))), .int .i64 256] w fun e w' => e = .returned (.agg (rowZ .u64 88 (fun j => (coS 256 j : Int)))) ∧ Below w.heap.size w w') := fun w => of256_any (drS 32 64) (dr_lt 32 64) w
  have HI7 : Hid ((Try.prog.info? 96).map (·.size) = some shN.size) := hsy
  have HS7 : Hid ((#[.int .i64 0, .int .i64 0, .int .i64 0, .int .i64 0, .int .i64 0, .int .i64 0, .int .i64 0, .int .i64 0, .int .i64 0, .int .i64 0, .int .i64 0, .int .i64 0, .int .i64 0, .int .i64 0] : Array Value).size = shN.size) := hidD rfl
  have HO7 : Hid (shN.all (·.oneCell') = true) := hidD (by simp [shN, Value.oneCell'])
  have HQ0 : Hid (shN[0]? = some (.int .i64 32)) := hidD rfl
  have HQ1 : Hid (shN[1]? = some (.int .i64 64)) := hidD rfl
  have HONE : Hid ((rowZ .u64 88 (fun j => (coS 256 j : Int))).all (·.oneCell') = true) := rowZ_one _ _ _
  have h4 : (rowZ .u64 88 (fun j => (coS 256 j : Int))).size = 88 := rowZ_size _ _ _
  have h0 : (rowZ .u64 88 (fun _ => 0)).size = 88 := rowZ_size _ _ _
  clear hsz hsy
  generalize shN = SH at *
  generalize (#[.int .i64 0, .int .i64 0, .int .i64 0, .int .i64 0, .int .i64 0, .int .i64 0, .int .i64 0, .int .i64 0, .int .i64 0, .int .i64 0, .int .i64 0, .int .i64 0, .int .i64 0, .int .i64 0] : Array Value) = Z7 at *
  generalize rowZ .u64 96 (fun j => (drS 32 64 j : Int)) = FR at *
  generalize rowZ .u64 88 (fun j => (coS 256 j : Int)) = C at *
  generalize rowZ .u64 88 (fun _ => 0) = C0 at *
  have hi : Hid ((Try.prog.info? 82).map (·.size) = some C.size) := by show _ = _; rw [HSZ.out, h4]
  have HSS : Hid (C0.size = C.size) := by show _ = _; rw [h0, h4]
  clear h0 h4
  have W1 : Hid ((w.alloc (.cells C0 (82 : TypeId))).heap[w.heap.size]? = some (.cells C0 (82 : TypeId) (0, 0))) := heap_alloc_last _ _
  have W4 : Hid (Below w.heap.size w (w.alloc (.cells C0 (82 : TypeId)))) := (Below.refl _ _).alloc (Nat.le_refl _) _
  go_enter Try.func45, Try.ntmps45
  go_wp2_with (first
    | (go_at_call 47; refine (HSH.out _).mono ?_; rintro e w1 ⟨rfl, hb⟩; have V1 := hidD ((hb.block _ (row_lt W1.out)).trans W1.out); have V4 : Hid (Below w.heap.size w w1) := Below.next W4.out hb; have hl := row_lt V1.out; have VA : Hid ((w1.alloc (.cells Z7 (96 : TypeId))).heap[w1.heap.size]? = some (.cells Z7 (96 : TypeId) (0, 0))) := heap_alloc_last _ _; have VL : Hid (w.heap.size < w1.heap.size) := hl; clear hb hl W1 W4)
    | (refine wpList_store_row rfl 96 _ _ rfl w1.heap.size SH rfl rfl 96 Z7 VA.out HI7.out HS7.out HO7.out ?_; have HAL := hidD ((Below.refl w1.heap.size w1).alloc (Nat.le_refl _) (.cells Z7 (96 : TypeId))); have U7 := hidD (setRow_heap _ _ _ SH _ _ VA.out); have U1 := hidD ((setRow_other (w1.alloc (.cells Z7 (96 : TypeId))) w1.heap.size w.heap.size SH (by have := VL.out; omega)).trans ((HAL.out.block _ (row_lt V1.out)).trans V1.out)); have U4 := hidD (below_setRow (Below.next V4.out HAL.out) (g := w1.heap.size) V4.out.size SH); clear VA V1 V4 HAL; generalize (w1.alloc (.cells Z7 (96 : TypeId))).setRow w1.heap.size SH = w2 at *; have c7a : w2.cell? ⟨w1.heap.size, 1, none⟩ = some (.int .i64 64) := (by rw [cell_of_row _ _ _ _ _ _ U7.out]; exact HQ1.out); have c7b : w2.cell? ⟨w1.heap.size, 0, none⟩ = some (.int .i64 32) := (by rw [cell_of_row _ _ _ _ _ _ U7.out]; exact HQ0.out))
    | (go_at_call 60; refine (HFF.out _).mono ?_; rintro e w3 ⟨rfl, hb⟩; have X1 := hidD ((hb.block _ (row_lt U1.out)).trans U1.out); have X4 : Hid (Below w.heap.size w w3) := Below.next U4.out hb; clear hb U1 U4 U7 c7a c7b)
    | (go_at_call 61; refine (HOF.out _).mono ?_; rintro e w4 ⟨rfl, hb⟩; have Y1 := hidD ((hb.block _ (row_lt X1.out)).trans X1.out); have Y4 : Hid (Below w.heap.size w w4) := Below.next X4.out hb; clear hb X1 X4)
    | (refine wpList_store_row rfl 82 _ _ rfl w.heap.size C rfl rfl 82 C0 Y1.out hi.out HSS.out HONE.out ?_))
  refine bodyPost_ret (results_cell_row (P := Try.prog) (p := 2) (ty := 82) (by kernel_rfl) _ _ w.heap.size 82 C (0, 0) _ rfl (setRow_heap _ _ C0 C 82 (0, 0) Y1.out) Try.underlying82 rfl hi.out) rfl ?_
  exact ⟨rfl, below_setRow Y4.out (Nat.le_refl _) _⟩

set_option maxRecDepth 100000 in
set_option maxHeartbeats 800000 in
theorem constants384_any (w : World) : Calls Try.prog 45 #[.int .i64 384] w fun e w' => e = .returned (.agg (rowZ .u64 88 (fun j => (coS 384 j : Int)))) ∧ Below w.heap.size w w' := by
  obtain ⟨hz, hsz⟩ := zero_of_info Try.zero53z
  obtain ⟨hy, hsy⟩ := zero_of_info Try.zero67z
  have HSZ := hidD hsz
  have HSH : Hid (∀ w, Calls Try.prog 47 #[.int .i64 384] w fun e w' => e = .returned (.agg shW) ∧ Below w.heap.size w w') := fun w => shapeOf_any 384 w
  have HFF : Hid (∀ w, Calls Try.prog 60 #[.int .i64 80, .int .i64 64] w fun e w' => e = .returned (.agg (rowZ .u64 96 (fun j => (drS 64 80 j : Int)))) ∧ Below w.heap.size w w') := fun w => first_any 80 64 (by omega) (by omega) w
  have HOF : Hid (∀ w, Calls Try.prog 61 #[.agg (rowZ .u64 96 (fun j => (drS 64 80 j : Int))), .int .i64 384] w fun e w' => e = .returned (.agg (rowZ .u64 88 (fun j => (coS 384 j : Int)))) ∧ Below w.heap.size w w') := fun w => of384_any (drS 64 80) (dr_lt 64 80) w
  have HI7 : Hid ((Try.prog.info? 96).map (·.size) = some shW.size) := hsy
  have HS7 : Hid ((#[.int .i64 0, .int .i64 0, .int .i64 0, .int .i64 0, .int .i64 0, .int .i64 0, .int .i64 0, .int .i64 0, .int .i64 0, .int .i64 0, .int .i64 0, .int .i64 0, .int .i64 0, .int .i64 0] : Array Value).size = shW.size) := hidD rfl
  have HO7 : Hid (shW.all (·.oneCell') = true) := hidD (by simp [shW, Value.oneCell'])
  have HQ0 : Hid (shW[0]? = some (.int .i64 64)) := hidD rfl
  have HQ1 : Hid (shW[1]? = some (.int .i64 80)) := hidD rfl
  have HONE : Hid ((rowZ .u64 88 (fun j => (coS 384 j : Int))).all (·.oneCell') = true) := rowZ_one _ _ _
  have h4 : (rowZ .u64 88 (fun j => (coS 384 j : Int))).size = 88 := rowZ_size _ _ _
  have h0 : (rowZ .u64 88 (fun _ => 0)).size = 88 := rowZ_size _ _ _
  clear hsz hsy
  generalize shW = SH at *
  generalize (#[.int .i64 0, .int .i64 0, .int .i64 0, .int .i64 0, .int .i64 0, .int .i64 0, .int .i64 0, .int .i64 0, .int .i64 0, .int .i64 0, .int .i64 0, .int .i64 0, .int .i64 0, .int .i64 0] : Array Value) = Z7 at *
  generalize rowZ .u64 96 (fun j => (drS 64 80 j : Int)) = FR at *
  generalize rowZ .u64 88 (fun j => (coS 384 j : Int)) = C at *
  generalize rowZ .u64 88 (fun _ => 0) = C0 at *
  have hi : Hid ((Try.prog.info? 82).map (·.size) = some C.size) := by show _ = _; rw [HSZ.out, h4]
  have HSS : Hid (C0.size = C.size) := by show _ = _; rw [h0, h4]
  clear h0 h4
  have W1 : Hid ((w.alloc (.cells C0 (82 : TypeId))).heap[w.heap.size]? = some (.cells C0 (82 : TypeId) (0, 0))) := heap_alloc_last _ _
  have W4 : Hid (Below w.heap.size w (w.alloc (.cells C0 (82 : TypeId)))) := (Below.refl _ _).alloc (Nat.le_refl _) _
  go_enter Try.func45, Try.ntmps45
  go_wp2_with (first
    | (go_at_call 47; refine (HSH.out _).mono ?_; rintro e w1 ⟨rfl, hb⟩; have V1 := hidD ((hb.block _ (row_lt W1.out)).trans W1.out); have V4 : Hid (Below w.heap.size w w1) := Below.next W4.out hb; have hl := row_lt V1.out; have VA : Hid ((w1.alloc (.cells Z7 (96 : TypeId))).heap[w1.heap.size]? = some (.cells Z7 (96 : TypeId) (0, 0))) := heap_alloc_last _ _; have VL : Hid (w.heap.size < w1.heap.size) := hl; clear hb hl W1 W4)
    | (refine wpList_store_row rfl 96 _ _ rfl w1.heap.size SH rfl rfl 96 Z7 VA.out HI7.out HS7.out HO7.out ?_; have HAL := hidD ((Below.refl w1.heap.size w1).alloc (Nat.le_refl _) (.cells Z7 (96 : TypeId))); have U7 := hidD (setRow_heap _ _ _ SH _ _ VA.out); have U1 := hidD ((setRow_other (w1.alloc (.cells Z7 (96 : TypeId))) w1.heap.size w.heap.size SH (by have := VL.out; omega)).trans ((HAL.out.block _ (row_lt V1.out)).trans V1.out)); have U4 := hidD (below_setRow (Below.next V4.out HAL.out) (g := w1.heap.size) V4.out.size SH); clear VA V1 V4 HAL; generalize (w1.alloc (.cells Z7 (96 : TypeId))).setRow w1.heap.size SH = w2 at *; have c7a : w2.cell? ⟨w1.heap.size, 1, none⟩ = some (.int .i64 80) := (by rw [cell_of_row _ _ _ _ _ _ U7.out]; exact HQ1.out); have c7b : w2.cell? ⟨w1.heap.size, 0, none⟩ = some (.int .i64 64) := (by rw [cell_of_row _ _ _ _ _ _ U7.out]; exact HQ0.out))
    | (go_at_call 60; refine (HFF.out _).mono ?_; rintro e w3 ⟨rfl, hb⟩; have X1 := hidD ((hb.block _ (row_lt U1.out)).trans U1.out); have X4 : Hid (Below w.heap.size w w3) := Below.next U4.out hb; clear hb U1 U4 U7 c7a c7b)
    | (go_at_call 61; refine (HOF.out _).mono ?_; rintro e w4 ⟨rfl, hb⟩; have Y1 := hidD ((hb.block _ (row_lt X1.out)).trans X1.out); have Y4 : Hid (Below w.heap.size w w4) := Below.next X4.out hb; clear hb X1 X4)
    | (refine wpList_store_row rfl 82 _ _ rfl w.heap.size C rfl rfl 82 C0 Y1.out hi.out HSS.out HONE.out ?_))
  refine bodyPost_ret (results_cell_row (P := Try.prog) (p := 2) (ty := 82) (by kernel_rfl) _ _ w.heap.size 82 C (0, 0) _ rfl (setRow_heap _ _ C0 C 82 (0, 0) Y1.out) Try.underlying82 rfl hi.out) rfl ?_
  exact ⟨rfl, below_setRow Y4.out (Nat.le_refl _) _⟩

set_option maxRecDepth 100000 in
set_option maxHeartbeats 800000 in
theorem constants512_any (w : World) : Calls Try.prog 45 #[.int .i64 512] w fun e w' => e = .returned (.agg (rowZ .u64 88 (fun j => (coS 512 j : Int)))) ∧ Below w.heap.size w w' := by
  obtain ⟨hz, hsz⟩ := zero_of_info Try.zero53z
  obtain ⟨hy, hsy⟩ := zero_of_info Try.zero67z
  have HSZ := hidD hsz
  have HSH : Hid (∀ w, Calls Try.prog 47 #[.int .i64 512] w fun e w' => e = .returned (.agg shW) ∧ Below w.heap.size w w') := fun w => shapeOf_any 512 w
  have HFF : Hid (∀ w, Calls Try.prog 60 #[.int .i64 80, .int .i64 64] w fun e w' => e = .returned (.agg (rowZ .u64 96 (fun j => (drS 64 80 j : Int)))) ∧ Below w.heap.size w w') := fun w => first_any 80 64 (by omega) (by omega) w
  have HOF : Hid (∀ w, Calls Try.prog 61 #[.agg (rowZ .u64 96 (fun j => (drS 64 80 j : Int))), .int .i64 512] w fun e w' => e = .returned (.agg (rowZ .u64 88 (fun j => (coS 512 j : Int)))) ∧ Below w.heap.size w w') := fun w => of512_any (drS 64 80) (dr_lt 64 80) w
  have HI7 : Hid ((Try.prog.info? 96).map (·.size) = some shW.size) := hsy
  have HS7 : Hid ((#[.int .i64 0, .int .i64 0, .int .i64 0, .int .i64 0, .int .i64 0, .int .i64 0, .int .i64 0, .int .i64 0, .int .i64 0, .int .i64 0, .int .i64 0, .int .i64 0, .int .i64 0, .int .i64 0] : Array Value).size = shW.size) := hidD rfl
  have HO7 : Hid (shW.all (·.oneCell') = true) := hidD (by simp [shW, Value.oneCell'])
  have HQ0 : Hid (shW[0]? = some (.int .i64 64)) := hidD rfl
  have HQ1 : Hid (shW[1]? = some (.int .i64 80)) := hidD rfl
  have HONE : Hid ((rowZ .u64 88 (fun j => (coS 512 j : Int))).all (·.oneCell') = true) := rowZ_one _ _ _
  have h4 : (rowZ .u64 88 (fun j => (coS 512 j : Int))).size = 88 := rowZ_size _ _ _
  have h0 : (rowZ .u64 88 (fun _ => 0)).size = 88 := rowZ_size _ _ _
  clear hsz hsy
  generalize shW = SH at *
  generalize (#[.int .i64 0, .int .i64 0, .int .i64 0, .int .i64 0, .int .i64 0, .int .i64 0, .int .i64 0, .int .i64 0, .int .i64 0, .int .i64 0, .int .i64 0, .int .i64 0, .int .i64 0, .int .i64 0] : Array Value) = Z7 at *
  generalize rowZ .u64 96 (fun j => (drS 64 80 j : Int)) = FR at *
  generalize rowZ .u64 88 (fun j => (coS 512 j : Int)) = C at *
  generalize rowZ .u64 88 (fun _ => 0) = C0 at *
  have hi : Hid ((Try.prog.info? 82).map (·.size) = some C.size) := by show _ = _; rw [HSZ.out, h4]
  have HSS : Hid (C0.size = C.size) := by show _ = _; rw [h0, h4]
  clear h0 h4
  have W1 : Hid ((w.alloc (.cells C0 (82 : TypeId))).heap[w.heap.size]? = some (.cells C0 (82 : TypeId) (0, 0))) := heap_alloc_last _ _
  have W4 : Hid (Below w.heap.size w (w.alloc (.cells C0 (82 : TypeId)))) := (Below.refl _ _).alloc (Nat.le_refl _) _
  go_enter Try.func45, Try.ntmps45
  go_wp2_with (first
    | (go_at_call 47; refine (HSH.out _).mono ?_; rintro e w1 ⟨rfl, hb⟩; have V1 := hidD ((hb.block _ (row_lt W1.out)).trans W1.out); have V4 : Hid (Below w.heap.size w w1) := Below.next W4.out hb; have hl := row_lt V1.out; have VA : Hid ((w1.alloc (.cells Z7 (96 : TypeId))).heap[w1.heap.size]? = some (.cells Z7 (96 : TypeId) (0, 0))) := heap_alloc_last _ _; have VL : Hid (w.heap.size < w1.heap.size) := hl; clear hb hl W1 W4)
    | (refine wpList_store_row rfl 96 _ _ rfl w1.heap.size SH rfl rfl 96 Z7 VA.out HI7.out HS7.out HO7.out ?_; have HAL := hidD ((Below.refl w1.heap.size w1).alloc (Nat.le_refl _) (.cells Z7 (96 : TypeId))); have U7 := hidD (setRow_heap _ _ _ SH _ _ VA.out); have U1 := hidD ((setRow_other (w1.alloc (.cells Z7 (96 : TypeId))) w1.heap.size w.heap.size SH (by have := VL.out; omega)).trans ((HAL.out.block _ (row_lt V1.out)).trans V1.out)); have U4 := hidD (below_setRow (Below.next V4.out HAL.out) (g := w1.heap.size) V4.out.size SH); clear VA V1 V4 HAL; generalize (w1.alloc (.cells Z7 (96 : TypeId))).setRow w1.heap.size SH = w2 at *; have c7a : w2.cell? ⟨w1.heap.size, 1, none⟩ = some (.int .i64 80) := (by rw [cell_of_row _ _ _ _ _ _ U7.out]; exact HQ1.out); have c7b : w2.cell? ⟨w1.heap.size, 0, none⟩ = some (.int .i64 64) := (by rw [cell_of_row _ _ _ _ _ _ U7.out]; exact HQ0.out))
    | (go_at_call 60; refine (HFF.out _).mono ?_; rintro e w3 ⟨rfl, hb⟩; have X1 := hidD ((hb.block _ (row_lt U1.out)).trans U1.out); have X4 : Hid (Below w.heap.size w w3) := Below.next U4.out hb; clear hb U1 U4 U7 c7a c7b)
    | (go_at_call 61; refine (HOF.out _).mono ?_; rintro e w4 ⟨rfl, hb⟩; have Y1 := hidD ((hb.block _ (row_lt X1.out)).trans X1.out); have Y4 : Hid (Below w.heap.size w w4) := Below.next X4.out hb; clear hb X1 X4)
    | (refine wpList_store_row rfl 82 _ _ rfl w.heap.size C rfl rfl 82 C0 Y1.out hi.out HSS.out HONE.out ?_))
  refine bodyPost_ret (results_cell_row (P := Try.prog) (p := 2) (ty := 82) (by kernel_rfl) _ _ w.heap.size 82 C (0, 0) _ rfl (setRow_heap _ _ C0 C 82 (0, 0) Y1.out) Try.underlying82 rfl hi.out) rfl ?_
  exact ⟨rfl, below_setRow Y4.out (Nat.le_refl _) _⟩

theorem constants_any (k : Nat) (hk : Kind k) (w : World) : Calls Try.prog 45 #[.int .i64 (k : Int)] w fun e w' => e = .returned (.agg (rowZ .u64 88 (fun j => (coS k j : Int)))) ∧ Below w.heap.size w w' := by
  rcases hk with rfl | rfl | rfl | rfl
  · exact constants224_any w
  · exact constants256_any w
  · exact constants384_any w
  · exact constants512_any w
end Go.Proofs.Ytnldpofljeodiaa
