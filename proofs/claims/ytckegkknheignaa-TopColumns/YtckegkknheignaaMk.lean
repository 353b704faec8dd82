/- Texts of one proof, one behind the other. -/
import Derived.Test.YtckegkknheignaaMj
import Derived.Deep.MidRow
import Derived.Test.YtckegkknheignaaMd
import Derived.OrdersHeld
/- What the program's blocks answer: with, eachByte, Shift, Unshift. -/
namespace Go.Proofs.Ytckegkknheignaa
open Go.RowKit
set_option linter.unusedVariables false

theorem Try.zero43 : (Try.prog.info? 43).map (fun i => (i.zero, i.size)) = some (some (.agg (rowZ .u8 16 (fun _ => 0))), 16) := by kernel_rfl
theorem index16 (C : Array Value) (k : Nat) (u : Value) (hk : k < 16) (h : C[k]? = some u) (w : World) : (Instr.index 43 (.agg C) (.int .i64 (k : Int))).run Try.prog w = .ok u w := by
  have hu : Try.prog.underlying 43 = some (.array 16 5) := by kernel_rfl
  have hpk : Try.prog.plainKey 5 = true := by kernel_rfl
  have hc : Try.prog.cellsOf 5 = 1 := by kernel_rfl
  obtain ⟨i0, hi, _⟩ := info_parts Try.info5
  have hn : (0 : Int) ≤ (k : Int) ∧ (k : Int) < ((16 : Nat) : Int) := by omega
  have hp := run_part_plain (P := Try.prog) (w := w) hpk (xs := C) (off := k) (v := u) h
  simp only [Instr.index, asIntOf, Sem.run_bind, Sem.run_pure, Result.andThen_ok, run_underlying hu, if_pos hn, run_sizeOf w hi, hc, Nat.mul_one, Int.toNat_natCast, hp]
theorem RowZ.other {w : World} {g h n : Nat} {kd : IntKind} {ty : TypeId} {f : Nat → Int} (hr : RowZ w h kd n ty f) (hne : h ≠ g) (k : Nat) (v : Value) : RowZ (w.setCell ⟨g, k, none⟩ v) h kd n ty f := (heap_setCell_other w ⟨g, k, none⟩ h v hne).trans hr
/-- One cell of a row of bytes made anew. -/
theorem row_step {w : World} {g n k : Nat} {ty : TypeId} {a r : Nat → UInt8} (h : RowZ w g .u8 n ty (fun i => ((if i < k then r i else a i : UInt8).toNat : Int))) (hk : k < n) : RowZ (w.setCell ⟨g, k, none⟩ (.int .u8 ((r k).toNat : Int))) g .u8 n ty (fun i => ((if i < k + 1 then r i else a i : UInt8).toNat : Int)) := by
  refine (h.set hk _).congr fun i hi => ?_
  by_cases he : i = k
  · subst he; rw [if_pos rfl, if_pos (by omega)]
  · rw [if_neg he]
    by_cases h2 : i < k
    · rw [if_pos h2, if_pos (by omega)]
    · rw [if_neg h2, if_neg (by omega)]
theorem place_any (k : Nat) (hk : k < 16) (w : World) : Calls Try.prog 34 #[.int .i64 (k : Int)] w fun e w' => e = .returned (.int .i64 ((shI k : Nat) : Int)) ∧ w' = w := by
  have h1 : (k : Int).tmod 4 = ((k % 4 : Nat) : Int) := by rw [Int.tmod_eq_emod_of_nonneg (by omega)]; omega
  have h2 : ((k : Int) + ((k % 4 : Nat) : Int) * 4).tmod 16 = ((shI k : Nat) : Int) := by
    rw [Int.tmod_eq_emod_of_nonneg (by omega)]
    unfold shI
    omega
  have hb : k % 4 < 4 := Nat.mod_lt _ (by omega)
  generalize k % 4 = r at *
  generalize shI k = R at *
  go_enter Try.func34, Try.ntmps34
  go_wp2_with fail
  go_ret
  exact ⟨rfl, rfl⟩
set_option maxRecDepth 100000 in
set_option maxHeartbeats 800000 in
theorem pWith_any (a b : Nat → UInt8) (w : World) : Calls Try.prog 33 #[.agg (bR a), .agg (bR b)] w fun e w' => e = .returned (.agg (bR (xoB a b))) ∧ Below w.heap.size w w' := by
  obtain ⟨hz, hsz⟩ := zero_of_info Try.zero43
  have hs1 : (bR a).size = 16 := rowZ_size _ _ _
  have hs2 : (bR b).size = 16 := rowZ_size _ _ _
  have hib : (Try.prog.info? 43).map (·.size) = some (bR b).size := by rw [hsz, hs2]
  have HIX : Hid (∀ k : Nat, k < 16 → ∀ w, (Instr.index 43 (.agg (bR b)) (.int .i64 (k : Int))).run Try.prog w = .ok (.int .u8 ((b k).toNat : Int)) w) := fun k hk w => index16 _ k _ hk (rowZ_get .u8 16 _ k hk) w
  obtain ⟨b1, b2, b3, b4, b5⟩ := three_blocks w (bR a) (bR b) (rowZ .u8 16 (fun _ => 0)) 43
  have W1 := hidD b1
  have W2 := hidD b2
  have W3 := hidD b3
  have W4 := hidD b4
  clear b1 b2 b3 b4 b5
  go_enter Try.func33, Try.ntmps33
  go_wp2_with (refine wpList_load_row rfl 43 _ rfl (w.heap.size + 1) rfl 43 (bR b) (0, 0) _ W2.out Try.underlying43 rfl hib ?_)
  generalize hW : World.alloc _ (Obj.cells (rowZ .u8 16 (fun _ => 0)) (43 : TypeId)) = W
  have V1 : Hid (RowZ W w.heap.size .u8 16 43 (fun i => ((a i).toNat : Int))) := by rw [← hW]; exact W1.out
  have V3 : Hid (RowZ W (w.heap.size + 2) .u8 16 43 (fun _ => 0)) := by rw [← hW]; exact W3.out
  have V4 : Hid (Below w.heap.size w W) := by rw [← hW]; exact W4.out
  clear hW W1 W2 W3 W4
  rw [show w.heap.size + 1 + 1 = w.heap.size + 2 from rfl]
  generalize hg : w.heap.size = g at *
  have HG := hidD hg
  clear hg
  go_loopw [8] (fun i wr => ∃ k : Nat, k ≤ 16 ∧ i = .int .i64 k ∧ RowZ wr g .u8 16 43 (fun i => ((if i < k then xoB a b i else a i : UInt8).toNat : Int)) ∧ RowZ wr (g + 2) .u8 16 43 (fun _ => 0) ∧ Below g W wr) (fun i _ => 16 - (intOf i).toNat)
  case atStart => exact ⟨0, Nat.zero_le _, rfl, V1.out, V3.out, Below.refl _ _⟩
  case round =>
    obtain ⟨k, hk, rfl, hrow, hout, hbel⟩ := hrel
    by_cases hlt : k < 16
    · have hlti : (k : Int) < 16 := by omega
      have hix := fun w => HIX.out k hlt w
      have hcc : wr.cell? ⟨g, k, none⟩ = some (.int .u8 ((a k).toNat : Int)) := by have := hrow.cell hlt; rwa [if_neg (by omega)] at this
      have hfr := hrow.frozen k
      have hxr := u8_xor_nat (a k).toNat (b k).toNat (u8_lt _) (u8_lt _)
      rw [← UInt8.toNat_xor, show a k ^^^ b k = xoB a b k from rfl] at hxr
      have HST := hidD (row_step hrow hlt)
      have HSO : Hid (∀ v, RowZ (wr.setCell ⟨g, k, none⟩ v) (g + 2) .u8 16 43 (fun _ => 0)) := fun v => hout.other (by omega) k v
      have HSB : Hid (∀ v, Below g W (wr.setCell ⟨g, k, none⟩ v)) := fun v => below_setCell hbel (Nat.le_refl _) _ v
      generalize (xoB a b k).toNat = X at *
      generalize (a k).toNat = xa at *
      generalize (b k).toNat = xb at *
      clear hbel hrow hout
      go_wp2_with fail
      go_roundw
      case rel => exact ⟨k + 1, by omega, by go_num, HST.out, HSO.out _, HSB.out _⟩
      case measure => simp [intOf]; omega
    · obtain rfl : k = 16 := by omega
      have HL : Hid (wr.heap[g]? = some (.cells (bR (xoB a b)) (43 : TypeId) (0, 0))) := hrow.congr fun i hi => by rw [if_pos hi]
      have HO : Hid (wr.heap[g + 2]? = some (.cells (rowZ .u8 16 (fun _ => 0)) (43 : TypeId) (0, 0))) := hout
      have HONE : Hid ((bR (xoB a b)).all (·.oneCell') = true) := rowZ_one _ _ _
      have h4 : (bR (xoB a b)).size = 16 := rowZ_size _ _ _
      have h0 : (rowZ .u8 16 (fun _ => 0)).size = 16 := rowZ_size _ _ _
      have HBG : Hid (Below g w wr) := V4.out.trans hbel
      clear hrow hbel hout
      generalize hC : bR (xoB a b) = C at *
      have HCE := hidD hC
      clear hC
      generalize (rowZ .u8 16 (fun _ => 0)) = C0 at *
      have hi : (Try.prog.info? 43).map (·.size) = some C.size := by rw [hsz, h4]
      go_wp2_with (first | (refine wpList_load_row rfl 43 _ rfl (g) rfl 43 C (0, 0) _ HL.out Try.underlying43 rfl hi ?_) | (refine wpList_store_row rfl 43 _ _ rfl (g + 2) C rfl rfl 43 C0 HO.out hi (by rw [h0, h4]) HONE.out ?_))
      refine bodyPost_ret (results_cell_row (P := Try.prog) (p := 4) (ty := 43) (by kernel_rfl) _ _ (g + 2) 43 C (0, 0) _ rfl (setRow_heap _ _ C0 C 43 (0, 0) HO.out) Try.underlying43 rfl hi) rfl ?_
      refine ⟨by rw [HCE.out], ?_⟩
      have hfin : Below g w (wr.setRow (g + 2) C) := below_setRow HBG.out (by omega) _
      rw [HG.out]; exact hfin
set_option maxRecDepth 100000 in
set_option maxHeartbeats 800000 in
theorem pEachSub_any (b : Nat → UInt8) (w : World) : Calls Try.prog 31 #[.agg (bR b), .func (.func 5) #[] #[]] w fun e w' => e = .returned (.agg (bR (sbB b))) ∧ Below w.heap.size w w' := by
  obtain ⟨hz, hsz⟩ := zero_of_info Try.zero43
  have hs1 : (bR b).size = 16 := rowZ_size _ _ _
  have hib : (Try.prog.info? 43).map (·.size) = some (bR b).size := by rw [hsz, hs1]
  have HIX : Hid (∀ k : Nat, k < 16 → ∀ w, (Instr.index 43 (.agg (bR b)) (.int .i64 (k : Int))).run Try.prog w = .ok (.int .u8 ((b k).toNat : Int)) w) := fun k hk w => index16 _ k _ hk (rowZ_get .u8 16 _ k hk) w
  have HC : Hid (∀ k w, Calls Try.prog 5 #[.int .u8 ((b k).toNat : Int)] w fun e w' => e = .returned (.int .u8 ((sbB b k).toNat : Int)) ∧ Below w.heap.size w w') := fun k w => by
    exact pSub_any (b k) w
  obtain ⟨b1, b2, b3, b4⟩ := two_blocks w (bR b) (rowZ .u8 16 (fun _ => 0)) 43
  have W1 := hidD b1
  have W2 := hidD b2
  have W3 := hidD b3
  clear b1 b2 b3 b4
  go_enter Try.func31, Try.ntmps31
  go_wp2_with (refine wpList_load_row rfl 43 _ rfl w.heap.size rfl 43 (bR b) (0, 0) _ W1.out Try.underlying43 rfl hib ?_)
  generalize hW : World.alloc _ (Obj.cells (rowZ .u8 16 (fun _ => 0)) (43 : TypeId)) = W
  have V1 : Hid (RowZ W w.heap.size .u8 16 43 (fun i => ((b i).toNat : Int))) := by rw [← hW]; exact W1.out
  have V3 : Hid (RowZ W (w.heap.size + 1) .u8 16 43 (fun _ => 0)) := by rw [← hW]; exact W2.out
  have V4 : Hid (Below w.heap.size w W) := by rw [← hW]; exact W3.out
  clear hW W1 W2 W3
  generalize hg : w.heap.size = g at *
  have HG := hidD hg
  clear hg
  go_loopw [8] (fun i wr => ∃ k : Nat, k ≤ 16 ∧ i = .int .i64 k ∧ RowZ wr g .u8 16 43 (fun i => ((if i < k then sbB b i else b i : UInt8).toNat : Int)) ∧ RowZ wr (g + 1) .u8 16 43 (fun _ => 0) ∧ Below g W wr) (fun i _ => 16 - (intOf i).toNat)
  case atStart => exact ⟨0, Nat.zero_le _, rfl, V1.out, V3.out, Below.refl _ _⟩
  case round =>
    obtain ⟨k, hk, rfl, hrow, hout, hbel⟩ := hrel
    by_cases hlt : k < 16
    · have hlti : (k : Int) < 16 := by omega
      have hix := fun w => HIX.out k hlt w
      have HCK := hidD (fun w => HC.out k w)
      have HRW := hidD hrow
      have HOT := hidD hout
      have HBL := hidD hbel
      have HK := hidD hlt
      generalize (b k).toNat = xb at *
      generalize hX : (sbB b k).toNat = X at *
      have HX := hidD hX
      clear hbel hrow hout hX
      go_wp2_with (go_at_call 5; refine (HCK.out _).mono ?_; rintro e w3 ⟨rfl, hb3⟩; have HR3 := hidD (HRW.out.next hb3); have HO3 := hidD (HOT.out.next hb3); have HB3 : Hid (Below g W w3) := HBL.out.trans (hb3.mono (Nat.le_of_lt HRW.out.lt)); have hcc := HR3.out.cell HK.out; have hfr := HR3.out.frozen k; clear hb3)
      go_roundw
      case rel => exact ⟨k + 1, by omega, by go_num, by rw [← HX.out]; exact row_step HR3.out HK.out, HO3.out.other (by omega) k _, below_setCell HB3.out (Nat.le_refl _) _ _⟩
      case measure => simp [intOf]; omega
    · obtain rfl : k = 16 := by omega
      have HL : Hid (wr.heap[g]? = some (.cells (bR (sbB b)) (43 : TypeId) (0, 0))) := hrow.congr fun i hi => by rw [if_pos hi]
      have HO : Hid (wr.heap[g + 1]? = some (.cells (rowZ .u8 16 (fun _ => 0)) (43 : TypeId) (0, 0))) := hout
      have HONE : Hid ((bR (sbB b)).all (·.oneCell') = true) := rowZ_one _ _ _
      have h4 : (bR (sbB b)).size = 16 := rowZ_size _ _ _
      have h0 : (rowZ .u8 16 (fun _ => 0)).size = 16 := rowZ_size _ _ _
      have HBG : Hid (Below g w wr) := V4.out.trans hbel
      clear hrow hbel hout
      generalize hC : bR (sbB b) = C at *
      have HCE := hidD hC
      clear hC
      generalize (rowZ .u8 16 (fun _ => 0)) = C0 at *
      have hi : (Try.prog.info? 43).map (·.size) = some C.size := by rw [hsz, h4]
      go_wp2_with (first | (refine wpList_load_row rfl 43 _ rfl (g) rfl 43 C (0, 0) _ HL.out Try.underlying43 rfl hi ?_) | (refine wpList_store_row rfl 43 _ _ rfl (g + 1) C rfl rfl 43 C0 HO.out hi (by rw [h0, h4]) HONE.out ?_))
      refine bodyPost_ret (results_cell_row (P := Try.prog) (p := 4) (ty := 43) (by kernel_rfl) _ _ (g + 1) 43 C (0, 0) _ rfl (setRow_heap _ _ C0 C 43 (0, 0) HO.out) Try.underlying43 rfl hi) rfl ?_
      refine ⟨by rw [HCE.out], ?_⟩
      have hfin : Below g w (wr.setRow (g + 1) C) := below_setRow HBG.out (by omega) _
      rw [HG.out]; exact hfin
end Go.Proofs.Ytckegkknheignaa
/- What the program's blocks answer: with, eachByte, Shift, Unshift. -/
namespace Go.Proofs.Ytckegkknheignaa
open Go.RowKit
set_option linter.unusedVariables false

set_option maxRecDepth 100000 in
set_option maxHeartbeats 800000 in
theorem pShift_any (b : Nat → UInt8) (w : World) : Calls Try.prog 30 #[.agg (bR b)] w fun e w' => e = .returned (.agg (bR (shB b))) ∧ Below w.heap.size w w' := by
  obtain ⟨hz, hsz⟩ := zero_of_info Try.zero42
  have hs1 : (bR b).size = 16 := rowZ_size _ _ _
  have hs0 : (rowZ .u8 16 (fun _ => 0)).size = 16 := rowZ_size _ _ _
  have hib : (Try.prog.info? 42).map (·.size) = some (bR b).size := by rw [hsz, hs1]
  have HONEB : Hid ((bR b).all (·.oneCell') = true) := rowZ_one _ _ _
  have HP := hidD (fun k hk w => place_any k hk w)
  obtain ⟨b1, b2, b3, b4, b5⟩ := three_blocks w (bR b) (rowZ .u8 16 (fun _ => 0)) (rowZ .u8 16 (fun _ => 0)) 42
  have W1 := hidD b1
  have W2 := hidD b2
  have W3 := hidD b3
  have W4 := hidD b4
  obtain ⟨c1, c2, c3, c4⟩ := two_blocks w (bR b) (rowZ .u8 16 (fun _ => 0)) 42
  have Y1 := hidD c1
  clear b1 b2 b3 b4 b5 c1 c2 c3 c4
  go_enter Try.func30, Try.ntmps30
  go_wp2_with (first | (refine wpList_load_row rfl 42 _ rfl w.heap.size rfl 42 (bR b) (0, 0) _ Y1.out Try.underlying42 rfl hib ?_) | (refine wpList_store_row rfl 42 _ _ rfl (w.heap.size + 1 + 1) (bR b) rfl rfl 42 (rowZ .u8 16 (fun _ => 0)) W3.out hib (by rw [hs0, hs1]) HONEB.out ?_))
  have V0 : Hid (RowZ (World.setRow (((w.alloc (.cells (bR b) (42 : TypeId))).alloc (.cells (rowZ .u8 16 (fun _ => 0)) (42 : TypeId))).alloc (.cells (rowZ .u8 16 (fun _ => 0)) (42 : TypeId))) (w.heap.size + 1 + 1) (bR b)) (w.heap.size + 2) .u8 16 42 (fun i => ((b i).toNat : Int))) := setRow_heap _ _ (rowZ .u8 16 (fun _ => 0)) (bR b) 42 (0, 0) W3.out
  have V1 : Hid (RowZ (World.setRow (((w.alloc (.cells (bR b) (42 : TypeId))).alloc (.cells (rowZ .u8 16 (fun _ => 0)) (42 : TypeId))).alloc (.cells (rowZ .u8 16 (fun _ => 0)) (42 : TypeId))) (w.heap.size + 1 + 1) (bR b)) w.heap.size .u8 16 42 (fun i => ((b i).toNat : Int))) := ((below_setRow (Below.refl _ _) (Nat.le_refl _) _).block w.heap.size (by omega)).trans W1.out
  have V2 : Hid (RowZ (World.setRow (((w.alloc (.cells (bR b) (42 : TypeId))).alloc (.cells (rowZ .u8 16 (fun _ => 0)) (42 : TypeId))).alloc (.cells (rowZ .u8 16 (fun _ => 0)) (42 : TypeId))) (w.heap.size + 1 + 1) (bR b)) (w.heap.size + 1) .u8 16 42 (fun _ => 0)) := ((below_setRow (Below.refl _ _) (Nat.le_refl _) _).block (w.heap.size + 1) (by omega)).trans W2.out
  have V4 : Hid (Below w.heap.size w (World.setRow (((w.alloc (.cells (bR b) (42 : TypeId))).alloc (.cells (rowZ .u8 16 (fun _ => 0)) (42 : TypeId))).alloc (.cells (rowZ .u8 16 (fun _ => 0)) (42 : TypeId))) (w.heap.size + 1 + 1) (bR b))) := below_setRow W4.out (by omega) _
  clear W1 W2 W3 W4 Y1
  generalize hW : World.setRow _ _ (bR b) = W at *
  clear hW
  rw [show w.heap.size + 1 + 1 = w.heap.size + 2 from rfl]
  generalize hg : w.heap.size = g at *
  have HG := hidD hg
  clear hg
  go_loopw [6] (fun i wr => ∃ k : Nat, k ≤ 16 ∧ i = .int .i64 k ∧ RowZ wr (g + 2) .u8 16 42 (fun i => ((if i < k then shB b i else b i : UInt8).toNat : Int)) ∧ Below (g + 2) W wr) (fun i _ => 16 - (intOf i).toNat)
  case atStart => exact ⟨0, Nat.zero_le _, rfl, V0.out, Below.refl _ _⟩
  case round =>
    obtain ⟨k, hk, rfl, hrow, hbel⟩ := hrel
    by_cases hlt : k < 16
    · have hlti : (k : Int) < 16 := by omega
      have hj : shI k < 16 := by unfold shI; omega
      have hca : wr.cell? ⟨g, shI k, none⟩ = some (.int .u8 ((shB b k).toNat : Int)) := (V1.out.below hbel (by omega)).cell hj
      have hcc := hrow.cell hlt
      have hfr := hrow.frozen k
      have HPK := hidD (fun w => HP.out k hlt w)
      have HST := hidD (row_step hrow hlt)
      have HSB : Hid (∀ v, Below (g + 2) W (wr.setCell ⟨g + 2, k, none⟩ v)) := fun v => below_setCell hbel (Nat.le_refl _) _ v
      generalize (shB b k).toNat = X at *
      generalize shI k = J at *
      clear hbel hrow
      go_wp2_with (go_at_call 34; refine (HPK.out _).mono ?_; rintro e w3 ⟨rfl, rfl⟩)
      go_roundw
      case rel => exact ⟨k + 1, by omega, by go_num, HST.out, HSB.out _⟩
      case measure => simp [intOf]; omega
    · obtain rfl : k = 16 := by omega
      have hout : RowZ wr (g + 1) .u8 16 42 (fun _ => 0) := V2.out.below hbel (by omega)
      replace hbel := hbel.mono (show g ≤ g + 2 by omega)
      have HL : Hid (wr.heap[g + 2]? = some (.cells (bR (shB b)) (42 : TypeId) (0, 0))) := hrow.congr fun i hi => by rw [if_pos hi]
      have HO : Hid (wr.heap[g + 1]? = some (.cells (rowZ .u8 16 (fun _ => 0)) (42 : TypeId) (0, 0))) := hout
      have HONE : Hid ((bR (shB b)).all (·.oneCell') = true) := rowZ_one _ _ _
      have h4 : (bR (shB b)).size = 16 := rowZ_size _ _ _
      have h0 : (rowZ .u8 16 (fun _ => 0)).size = 16 := rowZ_size _ _ _
      have HBG : Hid (Below g w wr) := V4.out.trans hbel
      clear hrow hbel hout
      generalize hC : bR (shB b) = C at *
      have HCE := hidD hC
      clear hC
      generalize (rowZ .u8 16 (fun _ => 0)) = C0 at *
      have hi : (Try.prog.info? 42).map (·.size) = some C.size := by rw [hsz, h4]
      go_wp2_with (first | (refine wpList_load_row rfl 42 _ rfl (g + 2) rfl 42 C (0, 0) _ HL.out Try.underlying42 rfl hi ?_) | (refine wpList_store_row rfl 42 _ _ rfl (g + 1) C rfl rfl 42 C0 HO.out hi (by rw [h0, h4]) HONE.out ?_))
      refine bodyPost_ret (results_cell_row (P := Try.prog) (p := 2) (ty := 42) (by kernel_rfl) _ _ (g + 1) 42 C (0, 0) _ rfl (setRow_heap _ _ C0 C 42 (0, 0) HO.out) Try.underlying42 rfl hi) rfl ?_
      refine ⟨by rw [HCE.out], ?_⟩
      have hfin : Below g w (wr.setRow (g + 1) C) := below_setRow HBG.out (by omega) _
      rw [HG.out]; exact hfin
end Go.Proofs.Ytckegkknheignaa
/- Bytes that are copied into a row, and rows that are made. -/
namespace Go.Proofs.Ytckegkknheignaa
open Go.RowKit
set_option linter.unusedVariables false

theorem But.row {g : Nat} {a b : World} (h : But g a b) (C : Array Value) : But g a (b.setRow g C) := ⟨below_setRow h.bel (Nat.le_refl _) C, fun i hi hn => (setRow_other b g i C hn).trans (h.rest i hi hn)⟩
theorem But.size {g : Nat} {a b : World} (h : But g a b) : a.heap.size ≤ b.heap.size := h.bel.size
theorem RowZ.but {w w' : World} {g b n : Nat} {kd : IntKind} {ty : TypeId} {f : Nat → Int} (h : RowZ w b kd n ty f) (hb : But g w w') (hn : b ≠ g) : RowZ w' b kd n ty f := (hb.rest b h.lt hn).trans h
/-- copy into a row that is known whole: all but that block stays. -/
theorem wpList_copy_but {P : Program} {w : World} {ops : Array Oper} {rest : List Oper} {o : Oper} {a : Act} {Q : Exit → Act → World → Prop} (hgd : o.guard = none) (d s : Operand) (dT sT : TypeId)
    (ho : o.op = .call { callee := .builtin .copy, args := #[d, s], argTypes := #[dT, sT] }) (elem : TypeId) (hu : P.underlying dT = some (.slice elem)) (hsz : (P.info? elem).map (·.size) = some 1)
    (dp sp : Option Addr) (dLen dCap sLen sCap : Nat) (hd : a.eval d = .slice dp dLen dCap) (hs : a.eval s = .slice sp sLen sCap)
    (g off : Nat) (cur : List Value) (t : TypeId) (hg : w.heap[g]? = some (.cells cur.toArray t (0, 0))) (cs : List Value) (hn : cs.length = Nat.min sLen dLen)
    (hpos : 0 < cs.length → dp = some ⟨g, off, none⟩ ∧ ∃ sg so, sp = some ⟨sg, so, none⟩ ∧ w.rangeAt sg so cs)
    (hfit : off + cs.length ≤ cur.length) (h1 : ∀ v ∈ cs, v.oneCell' = true)
    (h : ∀ w', Hid (w'.heap[g]? = some (.cells (splice cur off cs).toArray t (0, 0))) → But g w w' → wpList P ops Q rest (a.put o.dst (goInt cs.length)) w') :
    wpList P ops Q (o :: rest) a w := by
  by_cases h0 : cs.length = 0
  · obtain rfl : cs = [] := List.eq_nil_of_length_eq_zero h0
    refine wpList_copy_nothing hgd d s dT sT ho elem hu hsz dp sp dLen dCap sLen sCap hd hs (by simpa using hn.symm) ?_
    exact h w (show _ = _ by simpa [splice] using hg) (But.refl _ _)
  · obtain ⟨rfl, sg, so, rfl, hsrc⟩ := hpos (by omega)
    refine wpList_copy_own hgd d s dT sT ho elem hu hsz g off dLen dCap ⟨sg, so, none⟩ sLen sCap hd hs cur.toArray t hg cs hn (fun j v hv => by rw [Addr.add_mid]; exact hsrc j v hv) (by simpa using hfit) h1 ?_
    exact h _ (show _ = _ by simpa [splice] using setRow_heap w g _ _ t _ hg) ((But.refl _ _).row _)
def lZ (kd : IntKind) (n : Nat) (f : Nat → Int) : List Value := (List.range n).map fun i => Value.int kd (f i)
theorem lZ_len (kd : IntKind) (n : Nat) (f : Nat → Int) : (lZ kd n f).length = n := by simp [lZ]
theorem lZ_get (kd : IntKind) (n : Nat) (f : Nat → Int) {j : Nat} (h : j < n) : (lZ kd n f)[j]? = some (.int kd (f j)) := by simp [lZ, h]
theorem lZ_one (kd : IntKind) (n : Nat) (f : Nat → Int) : ∀ v ∈ lZ kd n f, v.oneCell' = true := by
  intro v hv
  unfold lZ at hv
  rw [List.mem_map] at hv
  obtain ⟨i, _, rfl⟩ := hv
  rfl
theorem lZ_range {w : World} {kd : IntKind} {g o n : Nat} {f : Nat → Int} (h : ∀ j, j < n → w.cell? ⟨g, o + j, none⟩ = some (.int kd (f j))) : w.rangeAt g o (lZ kd n f) := fun j v hv => by
  by_cases hj : j < n
  · rw [lZ_get kd n f hj] at hv
    cases hv
    exact h j hj
  · rw [List.getElem?_eq_none (by rw [lZ_len]; omega)] at hv
    cases hv
theorem splice_lZ (kd : IntKind) {n off m : Nat} (f h : Nat → Int) (hle : off + m ≤ n) : splice (lZ kd n f) off (lZ kd m h) = lZ kd n fun i => if off ≤ i ∧ i < off + m then h (i - off) else f i := by
  apply List.ext_getElem?
  intro i
  unfold splice
  by_cases hi : i < n
  · rw [lZ_get kd n _ hi]
    by_cases h1 : i < off
    · rw [List.getElem?_append_left (by rw [List.length_take, lZ_len]; omega), List.getElem?_take_of_lt h1, lZ_get kd n f hi, if_neg (by omega)]
    · rw [List.getElem?_append_right (by rw [List.length_take, lZ_len]; omega), List.length_take, lZ_len kd n f, Nat.min_eq_left (show off ≤ n by omega)]
      by_cases h2 : i < off + m
      · rw [List.getElem?_append_left (by rw [lZ_len]; omega), lZ_get kd m h (j := i - off) (by omega), if_pos ⟨by omega, h2⟩]
      · rw [List.getElem?_append_right (by rw [lZ_len]; omega), lZ_len, List.getElem?_drop, show off + m + (i - off - m) = i by omega, lZ_get kd n f hi, if_neg (by omega)]
  · have e1 : (lZ kd n fun i => if off ≤ i ∧ i < off + m then h (i - off) else f i)[i]? = none := List.getElem?_eq_none (by rw [lZ_len]; omega)
    rw [e1]
    exact List.getElem?_eq_none (by simp only [List.length_append, List.length_take, List.length_drop, lZ_len]; omega)
/-- The same, of rows of numbers. -/
theorem wpList_copy_Z {P : Program} {w : World} {ops : Array Oper} {rest : List Oper} {o : Oper} {a : Act} {Q : Exit → Act → World → Prop} (hgd : o.guard = none) (d s : Operand) (dT sT : TypeId)
    (ho : o.op = .call { callee := .builtin .copy, args := #[d, s], argTypes := #[dT, sT] }) (elem : TypeId) (hu : P.underlying dT = some (.slice elem)) (hsz : (P.info? elem).map (·.size) = some 1)
    (dp sp : Option Addr) (dLen dCap sLen sCap : Nat) (hd : a.eval d = .slice dp dLen dCap) (hs : a.eval s = .slice sp sLen sCap)
    (kd : IntKind) (g off n m : Nat) (f h : Nat → Int) (t : TypeId) (hg : RowZ w g kd n t f) (hn : m = Nat.min sLen dLen)
    (hpos : 0 < m → dp = some ⟨g, off, none⟩ ∧ ∃ sg so, sp = some ⟨sg, so, none⟩ ∧ ∀ j, j < m → w.cell? ⟨sg, so + j, none⟩ = some (.int kd (h j)))
    (hfit : off + m ≤ n)
    (hK : ∀ w', Hid (RowZ w' g kd n t fun i => if off ≤ i ∧ i < off + m then h (i - off) else f i) → But g w w' → wpList P ops Q rest (a.put o.dst (goInt m)) w') :
    wpList P ops Q (o :: rest) a w := by
  refine wpList_copy_but hgd d s dT sT ho elem hu hsz dp sp dLen dCap sLen sCap hd hs g off (lZ kd n f) t hg (lZ kd m h) (by rw [lZ_len]; exact hn) (fun h0 => ?_) (by rw [lZ_len, lZ_len]; exact hfit) (lZ_one _ _ _) fun w' hg' hb => ?_
  · rw [lZ_len] at h0
    obtain ⟨h1, sg, so, h2, h3⟩ := hpos h0
    exact ⟨h1, sg, so, h2, lZ_range h3⟩
  · rw [lZ_len]
    refine hK w' ?_ hb
    have := hg'.out
    rw [splice_lZ kd f h hfit] at this
    exact this
/-- Bytes that are made. -/
theorem wpList_makeB (w : World) {ops : Array Oper} {rest : List Oper} {o : Oper} {a : Act} {Q : Exit → Act → World → Prop}
    (hg : o.guard = none) (l c : Operand) (hop : o.op = Op.makeSlice 22 l c) (kl kc : IntKind) (L C : Int) (n : Nat) (hl : a.eval l = .int kl L) (hc : a.eval c = .int kc C) (hL : L = (n : Int)) (hC : C = (n : Int)) (hn : n ≤ 281474976710656)
    (hK : ∀ w', Hid (RowZ w' w.heap.size .u8 n 5 (fun _ => 0)) → Below w.heap.size w w' → wpList Try.prog ops Q rest (a.put o.dst (.slice (some ⟨w.heap.size, 0, none⟩) n n)) w') :
    wpList Try.prog ops Q (o :: rest) a w := by
  obtain ⟨i0, hi, hz0, hz1, hz2⟩ := info_parts Try.info5
  refine wpList_make_full w hg l c 22 hop w.heap.size 5 i0 (.int .u8 0) 1 Try.underlying22 hi hz0 hz1 kl kc L C n hl hc hL hC (by rw [hz2]; omega) (by unfold maxLen; omega) (Nat.le_refl _) fun w' hown hgr => ?_
  refine hK w' ?_ ((Below.refl w.heap.size w).grown hgr (Nat.le_refl _) (fun k hk => by cases hk))
  have hr := row_full hown
  rw [Nat.mul_one, show Value.cells (.int .u8 0) = #[.int .u8 0] from rfl, toList_madeCells_one] at hr
  show _ = _
  rw [hr]
  unfold rowZ
  rw [List.map_const', List.length_range]
theorem rowZ_at {w : World} {g n : Nat} {f : Nat → UInt8} (h : RowZ w g .u8 n 5 (fun i => ((f i).toNat : Int))) : RowAt w g ((List.range n).map f) := by
  unfold RowAt
  rw [h]
  unfold rowZ
  rw [List.map_map]
  rfl
theorem rowZ_sl {w : World} {g n : Nat} {f : Nat → UInt8} (h : RowZ w g .u8 n 5 (fun i => ((f i).toNat : Int))) (hn : n ≤ 9223372036854775807) : SlAt w (.slice (some ⟨g, 0, none⟩) n n) ((List.range n).map f) := SlAt.row (rowZ_at h) (by simp) hn
theorem rowZ_own {w : World} {base g n : Nat} {f : Nat → UInt8} (hb : base ≤ g) (h : RowZ w g .u8 n 5 (fun i => ((f i).toNat : Int))) (hn : n ≤ maxLen) : w.ownsRow base 5 1 (.slice (some ⟨g, 0, none⟩) n n) n (((List.range n).map f).map encB) := full_row hb (by simp) hn (rowZ_at h)
/-- A slice's cells, from its first one on. -/
theorem ByAt.src {w : World} {a : Option Addr} {cap : Nat} {bs : List UInt8} (h : ByAt w (.slice a bs.length cap) bs) (h0 : 0 < bs.length) : ∃ g o, a = some ⟨g, o, none⟩ ∧ g < w.heap.size ∧ ∀ j, j < bs.length → w.cell? ⟨g, o + j, none⟩ = some (.int .u8 ((bs.getD j 0).toNat : Int)) := by
  rcases h with ⟨h, _⟩ | ⟨g, off, cap', he, hg, hc⟩
  · rw [h] at h0; simp at h0
  · obtain ⟨rfl, _⟩ : a = some ⟨g, off, none⟩ ∧ True := ⟨by cases he; rfl, trivial⟩
    exact ⟨g, off, rfl, hg, hc⟩
end Go.Proofs.Ytckegkknheignaa
/- What the program's bytes and blockOf answer. -/
namespace Go.Proofs.Ytckegkknheignaa
open Go.RowKit
set_option linter.unusedVariables false

theorem Try.size5 : (Try.prog.info? 5).map (·.size) = some 1 := by kernel_rfl
set_option maxRecDepth 100000 in
set_option maxHeartbeats 800000 in
theorem pBytes_any (b : Nat → UInt8) (w : World) : Calls Try.prog 21 #[.agg (bR b)] w fun e w' => ∃ g, e = .returned (.slice (some ⟨g, 0, none⟩) 16 16) ∧ w.heap.size ≤ g ∧ RowZ w' g .u8 16 5 (fun i => ((b i).toNat : Int)) ∧ Below w.heap.size w w' := by
  have hi5 := Try.size5
  have W1 : Hid (RowZ (w.alloc (.cells (bR b) (43 : TypeId))) w.heap.size .u8 16 43 (fun i => ((b i).toNat : Int))) := RowZ.new w .u8 16 43 _
  have W2 : Hid (Below w.heap.size w (w.alloc (.cells (bR b) (43 : TypeId)))) := (Below.refl _ _).alloc (Nat.le_refl _) _
  go_enter Try.func21, Try.ntmps21
  go_wp2_with (first
    | (at_make; generalize hW : World.alloc _ (Obj.cells (bR b) (43 : TypeId)) = W; have V1 : Hid (RowZ W w.heap.size .u8 16 43 (fun i => ((b i).toNat : Int))) := (by rw [← hW]; exact W1.out); have V2 : Hid (Below w.heap.size w W) := (by rw [← hW]; exact W2.out); clear hW W1 W2; refine wpList_makeB W rfl _ _ rfl .i64 .i64 16 16 16 rfl rfl rfl rfl (by omega) ?_; intro w2 hr2 hb2; have HB2 := hidD hb2; have HR1 := hidD (V1.out.next hb2); have HL := hidD V1.out.lt; clear hb2 V1)
    | (refine wpList_copy_Z rfl _ _ 22 22 rfl 5 Try.underlying22 hi5 (some ⟨W.heap.size, 0, none⟩) (some ⟨w.heap.size, 0, none⟩) 16 16 16 16 rfl rfl .u8 W.heap.size 0 16 16 (fun _ => 0) (fun i => ((b i).toNat : Int)) 5 hr2.out rfl (fun _ => ⟨rfl, w.heap.size, 0, rfl, fun j hj => by rw [Nat.zero_add]; exact HR1.out.cell hj⟩) (by omega) ?_; intro w3 hr3 hb3; have HB3 := hidD hb3; clear hb3))
  refine bodyPost_ret (v := .slice (some ⟨W.heap.size, 0, none⟩) 16 16) (by simp [results, Try.results21, go_sem]) rfl ?_
  refine ⟨W.heap.size, rfl, V2.out.size, hr3.out.congr fun i hi => by rw [if_pos ⟨Nat.zero_le _, by omega⟩, Nat.sub_zero], ?_⟩
  exact V2.out.trans ((HB2.out.mono V2.out.size).trans (HB3.out.bel.mono V2.out.size))
theorem blk_at {l : List UInt8} {i : Nat} : ((blk l i).toNat : Int) = ((l.getD i 0).toNat : Int) := rfl
set_option maxRecDepth 100000 in
set_option maxHeartbeats 800000 in
theorem pBlockOf_any (l : List UInt8) (v : Value) (w : World) (hv : ByAt w v l) : Calls Try.prog 20 #[v] w fun e w' => e = .returned (.agg (bR (blk (l.take 16)))) ∧ Below w.heap.size w w' := by
  obtain ⟨a, cap, rfl, hsh⟩ := hv.shape
  have HV := hidD hv
  have hi5 := Try.size5
  obtain ⟨hz, hsz⟩ := zero_of_info Try.zero43
  obtain ⟨b1, b2, b3, b4⟩ := two_blocks w (rowZ .u8 16 (fun _ => 0)) (rowZ .u8 16 (fun _ => 0)) 43
  have W1 := hidD b1
  have W2 := hidD b2
  have W3 := hidD b3
  have HRES : Hid (∀ i, i < 16 → ((if 0 ≤ i ∧ i < 0 + Nat.min l.length 16 then ((l.getD (i - 0) 0).toNat : Int) else 0) = ((blk (l.take 16) i).toNat : Int))) := fun i hi => by
    rw [show Nat.min l.length 16 = min l.length 16 from rfl]
    unfold blk
    by_cases h : i < l.length
    · rw [if_pos ⟨Nat.zero_le _, by omega⟩, Nat.sub_zero, List.getD_eq_getElem?_getD, List.getD_eq_getElem?_getD, List.getElem?_take_of_lt hi]
    · rw [if_neg (by omega), List.getD_eq_getElem?_getD, List.getElem?_eq_none (by rw [List.length_take]; omega)]; rfl
  have HONE : Hid ((bR (blk (l.take 16))).all (·.oneCell') = true) := rowZ_one _ _ _
  have h4 : (bR (blk (l.take 16))).size = 16 := rowZ_size _ _ _
  have h0 : (rowZ .u8 16 (fun _ => 0)).size = 16 := rowZ_size _ _ _
  clear b1 b2 b3 b4 hv hsh
  generalize hn : l.length = n at *
  have HN := hidD hn
  clear hn
  go_enter Try.func20, Try.ntmps20
  go_wp2_with (first
    | (generalize hW : World.alloc _ (Obj.cells (rowZ .u8 16 (fun _ => 0)) (43 : TypeId)) = W; have V1 : Hid (RowZ W w.heap.size .u8 16 43 (fun _ => 0)) := (by rw [← hW]; exact W1.out); have V2 : Hid (RowZ W (w.heap.size + 1) .u8 16 43 (fun _ => 0)) := (by rw [← hW]; exact W2.out); have V3 : Hid (Below w.heap.size w W) := (by rw [← hW]; exact W3.out); clear hW W1 W2 W3; refine wpList_copy_Z rfl _ _ 22 22 rfl 5 Try.underlying22 hi5 (some ⟨w.heap.size + 1, 0, none⟩) a 16 16 n cap rfl rfl .u8 (w.heap.size + 1) 0 16 (Nat.min n 16) (fun _ => 0) (fun i => ((l.getD i 0).toNat : Int)) 43 V2.out rfl (fun h0 => ⟨rfl, ?_⟩) (by rw [show Nat.min n 16 = min n 16 from rfl]; omega) ?_; (have h1 : 0 < l.length := (by have := HN.out; rw [show Nat.min n 16 = min n 16 from rfl] at h0; omega); have h2 := HV.out; rw [← HN.out] at h2; obtain ⟨g', o', e1, e2, e3⟩ := h2.src h1; exact ⟨g', o', e1, fun j hj => (V3.out.cell (p := ⟨g', o' + j, none⟩) e2).trans (e3 j (by have := HN.out; rw [show Nat.min n 16 = min n 16 from rfl] at hj; omega))⟩); intro w3 hr3 hb3; have HL : Hid (w3.heap[w.heap.size + 1]? = some (.cells (bR (blk (l.take 16))) (43 : TypeId) (0, 0))) := hr3.out.congr HRES.out; have HO : Hid (w3.heap[w.heap.size]? = some (.cells (rowZ .u8 16 (fun _ => 0)) (43 : TypeId) (0, 0))) := V1.out.but hb3 (by omega); have HBG : Hid (Below w.heap.size w w3) := V3.out.trans (hb3.bel.mono (by omega)); clear hr3 hb3 HRES V1 V2; generalize hC : bR (blk (l.take 16)) = C at *; have HCE := hidD hC; clear hC; generalize rowZ .u8 16 (fun _ => 0) = C0 at *; have hi : (Try.prog.info? 43).map (·.size) = some C.size := (by rw [hsz, h4]))
    | (refine wpList_load_row rfl 43 _ rfl (w.heap.size + 1) rfl 43 C (0, 0) _ HL.out Try.underlying43 rfl hi ?_) | (refine wpList_store_row rfl 43 _ _ rfl w.heap.size C rfl rfl 43 C0 HO.out hi (by rw [h0, h4]) HONE.out ?_))
  refine bodyPost_ret (results_cell_row (P := Try.prog) (p := 2) (ty := 43) (by kernel_rfl) _ _ w.heap.size 43 C (0, 0) _ rfl (setRow_heap _ _ C0 C 43 (0, 0) HO.out) Try.underlying43 rfl hi) rfl ?_
  exact ⟨by rw [HCE.out], below_setRow HBG.out (Nat.le_refl _) _⟩
theorem pBlockOf16_any (l : List UInt8) (hl : l.length = 16) (v : Value) (w : World) (hv : ByAt w v l) : Calls Try.prog 20 #[v] w fun e w' => e = .returned (.agg (bR (blk l))) ∧ Below w.heap.size w w' := by
  have := pBlockOf_any l v w hv
  rwa [List.take_of_length_le (by omega)] at this
end Go.Proofs.Ytckegkknheignaa
/- A region that draws its order, by an invariant: what holds of the listed operations, whatever the order. -/
namespace Go.Proofs.Ytckegkknheignaa
open Go.RowKit
set_option linter.unusedVariables false

/-- how many are not listed yet -/
def unl (listed : Array Bool) : Nat → Nat
  | 0 => 0
  | n + 1 => unl listed n + (!listed.getD n true).toNat
theorem unl_set {listed : Array Bool} {i : Nat} (h : listed.getD i true = false) : ∀ {n : Nat}, i < n → unl (listed.setIfInBounds i true) n + 1 = unl listed n
  | n + 1, hi => by
    have hs : i < listed.size := by
      refine Nat.lt_of_not_le fun hle => ?_
      simp [Array.getElem?_eq_none hle] at h
    have ho : ∀ j, j ≠ i → (listed.setIfInBounds i true).getD j true = listed.getD j true := fun j hj => by
      rw [Array.getD_eq_getD_getElem?, Array.getElem?_setIfInBounds, if_neg (Ne.symm hj), ← Array.getD_eq_getD_getElem?]
    have hsame : ∀ m, m ≤ i → unl (listed.setIfInBounds i true) m = unl listed m := fun m => by
      induction m with
      | zero => intro _; rfl
      | succ m ih => intro hm; rw [unl, unl, ih (by omega), ho m (by omega)]
    rw [unl, unl]
    by_cases he : n = i
    · subst he
      rw [hsame n (Nat.le_refl _), h, show (listed.setIfInBounds n true).getD n true = true by simp [hs]]; rfl
    · rw [ho n he]
      have := unl_set h (n := n) (by omega)
      omega
theorem unl_pos {listed : Array Bool} {i n : Nat} (h : listed.getD i true = false) (hi : i < n) : 0 < unl listed n := by have := unl_set h hi; omega
theorem unl_le (listed : Array Bool) : ∀ n, unl listed n ≤ n
  | 0 => Nat.le_refl _
  | n + 1 => by rw [unl]; have := unl_le listed n; have := Bool.toNat_le (!listed.getD n true); omega
theorem wpOp_mono' {P : Program} {ops : Array Oper} {Q : Exit → Act → World → Prop} {i : Nat} {K K' : Act → World → Prop} {a : Act} {w : World} (h : ∀ a w, K a w → K' a w) (hh : wpOp P ops Q i K a w) : wpOp P ops Q i K' a w := by
  unfold wpOp at *
  split
  · rename_i ho; simp only [ho] at hh; exact h _ _ hh
  · rename_i o ho
    simp only [ho] at hh
    split
    · rename_i hw
      rw [if_pos hw] at hh
      exact hh.imp (Oper.wp_mono h) id
    · rename_i hw
      rw [if_neg hw] at hh
      exact h _ _ hh
theorem wpAny_inv {P : Program} {L : List Oper} {Q : Exit → Act → World → Prop} (ht : topB L = true) (I : (Nat → Bool) → Act → World → Prop)
    (hstep : ∀ (f : Nat → Bool) a w i o, I f a w → L[i]? = some o → f i = false → (∀ e ∈ o.after, Region.binds .any e = true → f e.on = true) → wpOp P L.toArray Q i (fun a' w' => I (fun j => if j = i then true else f j) a' w') a w)
    (hend : ∀ (f : Nat → Bool) a w, I f a w → (∀ i, i < L.length → f i = true) → Q .normal a w) :
    ∀ (fuel : Nat) (listed : Array Bool) (f : Nat → Bool) a w, listed.size = L.length → (∀ i, i < L.length → listed.getD i true = f i) → unl listed L.length ≤ fuel → I f a w → wpAny P .any L.toArray Q fuel listed a w := by
  have hall : ∀ (listed : Array Bool) (f : Nat → Bool), listed.size = L.length → (∀ i, i < L.length → listed.getD i true = f i) → Region.ready .any L.toArray listed = [] → ∀ i, i < L.length → f i = true := fun listed f hs hf hr i hi => by
    cases hb : f i with
    | true => rfl
    | false => exact absurd hr (ready_some ht hs hi (by rw [hf i hi, hb]))
  intro fuel
  induction fuel with
  | zero =>
    intro listed f a w hs hf hu hI
    have hr : Region.ready .any L.toArray listed = [] := by
      apply List.eq_nil_iff_forall_not_mem.2
      intro i hi
      obtain ⟨h1, o, ho, _⟩ := mem_ready.1 hi
      rw [List.getElem?_toArray] at ho
      have := unl_pos h1 (List.getElem?_eq_some_iff.1 ho).1
      omega
    exact ⟨hr, hend f a w hI (hall listed f hs hf hr)⟩
  | succ fuel ih =>
    intro listed f a w hs hf hu hI
    refine ⟨fun hr => hend f a w hI (hall listed f hs hf hr), fun i hi => ?_⟩
    obtain ⟨h1, o, ho, hafter⟩ := mem_ready.1 hi
    rw [List.getElem?_toArray] at ho
    have hil := (List.getElem?_eq_some_iff.1 ho).1
    refine wpOp_mono' (fun a' w' hI' => ih _ _ a' w' (by simpa using hs) ?_ ?_ hI') (hstep f a w i o hI ho (by rw [← hf i hil]; exact h1) fun e he hb => ?_)
    · intro j hj
      by_cases hji : j = i
      · subst hji; simp [show j < listed.size by omega]
      · rw [Array.getD_eq_getD_getElem?, Array.getElem?_setIfInBounds, if_neg (Ne.symm hji), ← Array.getD_eq_getD_getElem?, hf j hj, if_neg hji]
    · have := unl_set h1 hil; omega
    · have h2 := hafter e he hb
      by_cases hel : e.on < L.length
      · rw [← hf e.on hel]
        have h3 : e.on < listed.size := by omega
        simpa [h3] using h2
      · rw [Array.getD_eq_getD_getElem?, Array.getElem?_eq_none (by omega)] at h2; simp at h2
/-- A drawn region, by an invariant. -/
theorem wp_region_inv {P : Program} {id : Nat} {L : List Oper} {Q : Exit → Act → World → Prop} {a : Act} {w : World} (hm : P.follows .mixedOrders = true) (ht : topB L = true) (I : (Nat → Bool) → Act → World → Prop) (h0 : I (fun _ => false) a { w with drawn := w.drawn + 1 })
    (hstep : ∀ (f : Nat → Bool) a w i o, I f a w → L[i]? = some o → f i = false → (∀ e ∈ o.after, Region.binds .any e = true → f e.on = true) → wpOp P L.toArray Q i (fun a' w' => I (fun j => if j = i then true else f j) a' w') a w)
    (hend : ∀ (f : Nat → Bool) a w, I f a w → (∀ i, i < L.length → f i = true) → Q .normal a w) : (Code.region id L.toArray true).wp P Q a w := by
  refine wp_region_any hm (wpAny_inv ht I hstep hend _ _ (fun _ => false) a _ (by simp) (fun i hi => by simp [hi]) ?_ h0)
  have := unl_le (Array.replicate L.toArray.size false) L.length
  simpa using this
/-- The same, the frame ahead of the region named. -/
theorem wp_region_inv' {P : Program} {id : Nat} {L : List Oper} {Q : Exit → Act → World → Prop} {a : Act} {w : World} (hm : P.follows .mixedOrders = true) (ht : topB L = true) (I : Act → (Nat → Bool) → Act → World → Prop) (h0 : I a (fun _ => false) a { w with drawn := w.drawn + 1 })
    (hstep : ∀ (f : Nat → Bool) a' w i o, I a f a' w → L[i]? = some o → f i = false → (∀ e ∈ o.after, Region.binds .any e = true → f e.on = true) → wpOp P L.toArray Q i (fun a2 w' => I a (fun j => if j = i then true else f j) a2 w') a' w)
    (hend : ∀ (f : Nat → Bool) a' w, I a f a' w → (∀ i, i < L.length → f i = true) → Q .normal a' w) : (Code.region id L.toArray true).wp P Q a w := wp_region_inv hm ht (I a) h0 hstep hend
theorem upon_swap {P : Program} {o : Oper} {a : Act} {K : Act → World → Prop} {Q2 Q : Exit → Act → World → Prop} (hQ : ∀ e a w, e ≠ .normal → Q2 e a w → Q e a w) {r : Result Next} (h : o.upon P a K Q2 r) : o.upon P a K Q r := by
  cases r with
  | halt x w' =>
    cases x <;> first | exact h | exact hQ _ _ _ (by simp) h | exact h.elim
  | ok n w' =>
    cases n <;> try exact h
    rename_i f args
    refine Calls.mono h ?_
    intro e w'' hh
    cases e
    · exact hh
    · exact hQ _ _ _ (by simp) hh
    · obtain ⟨a', w', hh⟩ := hh; exact ⟨a', w', hQ _ _ _ (by simp) hh⟩
/-- One operation of it, by the plain walk. -/
theorem wpOp_plain {P : Program} {L : List Oper} {Q : Exit → Act → World → Prop} {i : Nat} {o : Oper} {K : Act → World → Prop} {a : Act} {w : World} (hi : L[i]? = some o)
    (h : wpList P L.toArray (fun e a' w' => (e = .normal ∧ K a' w') ∨ (e ≠ .normal ∧ Q e a' w')) [o] a w) : wpOp P L.toArray Q i K a w := by
  have hQ : ∀ e a' w', e ≠ .normal → ((e = .normal ∧ K a' w') ∨ (e ≠ .normal ∧ Q e a' w')) → Q e a' w' := fun e a' w' hn h => h.elim (fun h => absurd h.1 hn) (fun h => h.2)
  have hK : ∀ a' w', wpList P L.toArray (fun e a' w' => (e = .normal ∧ K a' w') ∨ (e ≠ .normal ∧ Q e a' w')) [] a' w' → K a' w' := fun a' w' h => h.elim (fun h => h.2) (fun h => absurd rfl h.1)
  unfold wpOp
  rw [List.getElem?_toArray, hi]
  simp only
  unfold wpList at h
  split at h
  · rename_i hw
    rw [if_pos hw]
    rcases h with h | ⟨h1, a', w', h2⟩
    · exact .inl (Oper.wp_mono hK (upon_swap hQ h))
    · exact .inr ⟨h1, a', w', hQ _ _ _ (by simp) h2⟩
  · rename_i hw
    rw [if_neg hw]
    exact hK _ _ h
end Go.Proofs.Ytckegkknheignaa
/- TopColumns: what words answers. -/
namespace Go.Proofs.Ytckegkknheignaa
open Go.RowKit
set_option linter.unusedVariables false

theorem Try.zero30z : (Try.prog.info? 30).map (fun i => (i.zero, i.size)) = some (some (.agg (rowZ .u32 4 (fun _ => 0))), 4) := by kernel_rfl
def wdR (b : Nat → UInt8) : Array Value := rowZ .u32 4 (fun i => (wdB b i : Int))
/- the word i when k bytes are in -/
def wsF (b : Nat → UInt8) (k i : Nat) : Nat := wTo (fun t => b (4 * i + t)) (min 4 (k - 4 * i))
theorem ws_zero (b : Nat → UInt8) (i : Nat) : wsF b 0 i = 0 := by unfold wsF; rw [show min 4 (0 - 4 * i) = 0 by omega]; rfl
theorem ws_all (b : Nat → UInt8) (i : Nat) (h : i < 4) : wsF b 16 i = wdB b i := by unfold wsF wdB; rw [show min 4 (16 - 4 * i) = 4 by omega, wTo_word]
theorem ws_here (b : Nat → UInt8) (k : Nat) : wsF b (k + 1) (k / 4) = wsF b k (k / 4) * 256 ||| (b k).toNat := by
  unfold wsF
  rw [show min 4 (k + 1 - 4 * (k / 4)) = (k - 4 * (k / 4)) + 1 by omega, show min 4 (k - 4 * (k / 4)) = k - 4 * (k / 4) by omega, wTo]
  rw [show 4 * (k / 4) + (k - 4 * (k / 4)) = k by omega]
theorem ws_off (b : Nat → UInt8) (k i : Nat) (h : i ≠ k / 4) : wsF b (k + 1) i = wsF b k i := by
  unfold wsF; rw [show min 4 (k + 1 - 4 * i) = min 4 (k - 4 * i) by omega]
theorem ws_lt (b : Nat → UInt8) (k : Nat) : wsF b k (k / 4) < 16777216 := by
  unfold wsF
  refine Nat.lt_of_lt_of_le (wTo_lt _ _) (show 2 ^ (8 * min 4 (k - 4 * (k / 4))) ≤ 2 ^ 24 from Nat.pow_le_pow_right (by omega) (by omega))
set_option maxRecDepth 100000 in
set_option maxHeartbeats 1600000 in
theorem words_any (l : List UInt8) (hl : l.length = 16) (v : Value) (w : World) (hv : ByAt w v l) : Calls Try.prog 7 #[v] w fun e w' => e = .returned (.agg (wdR (blk l))) ∧ Below w.heap.size w w' := by
  obtain ⟨hz, hsz⟩ := zero_of_info Try.zero30z
  have HSZ := hidD hsz
  obtain ⟨a, cap, rfl, hcl⟩ := hv.shape
  obtain ⟨g0, off, rfl, hg0, _⟩ := hcl 0 (by omega)
  have HC : Hid (∀ k, k < 16 → w.cell? ⟨g0, off + k, none⟩ = some (.int .u8 ((blk l k).toNat : Int))) := fun k hk => by
    obtain ⟨g1, o1, he, _, hc⟩ := hcl k (by omega)
    cases he
    exact hc
  clear hcl hv
  rw [hl] at *
  generalize blk l = b at *
  obtain ⟨b1, b2, b3, b4⟩ := two_blocks w (rowZ .u32 4 (fun _ => 0)) (rowZ .u32 4 (fun _ => 0)) 30
  have W1 := hidD b1
  have W2 := hidD b2
  have W3 := hidD b3
  have HG0 := hidD hg0
  clear b1 b2 b3 b4 hsz hl hg0
  go_enter Try.func7, Try.ntmps7
  go_wp2_with fail
  generalize hW : World.alloc _ (Obj.cells (rowZ .u32 4 (fun _ => 0)) (30 : TypeId)) = W
  have V1 : Hid (RowZ W (w.heap.size + 1) .u32 4 30 (fun _ => 0)) := by rw [← hW]; exact W2.out
  have V3 : Hid (RowZ W w.heap.size .u32 4 30 (fun _ => 0)) := by rw [← hW]; exact W1.out
  have V4 : Hid (Below w.heap.size w W) := by rw [← hW]; exact W3.out
  clear hW W1 W2 W3
  generalize hg : w.heap.size = g at *
  have HG := hidD hg
  clear hg
  go_loopw [4] (fun i wr => ∃ k : Nat, k ≤ 16 ∧ i = .int .i64 k ∧ RowZ wr (g + 1) .u32 4 30 (fun i => (wsF b k i : Int)) ∧ RowZ wr g .u32 4 30 (fun _ => 0) ∧ Below g w wr) (fun i _ => 16 - (intOf i).toNat)
  case atStart => exact ⟨0, Nat.zero_le _, rfl, V1.out.congr fun i _ => by rw [ws_zero]; rfl, V3.out, V4.out⟩
  case round =>
    obtain ⟨k, hk, rfl, hrow, hout, hbel⟩ := hrel
    by_cases hlt : k < 16
    · have hlti : (k : Int) < 16 := by omega
      have hq : (k : Int) / 4 = ((k / 4 : Nat) : Int) := by omega
      have hq4 : k / 4 < 4 := by omega
      have hcl : ∀ i : BW wr, i.v.cell? ⟨g0, off + k, none⟩ = some (.int .u8 ((b k).toNat : Int)) := fun i => by
        have e1 : wr.heap[g0]? = w.heap[g0]? := hbel.block g0 HG0.out
        have e2 : i.v.heap[g0]? = wr.heap[g0]? := i.below.block g0 (Nat.lt_of_lt_of_le HG0.out (Nat.le_of_lt hout.lt))
        have h := HC.out k hlt
        unfold World.cell? at h ⊢
        rw [e2, e1]; exact h
      have hcw : ∀ i : BW wr, i.v.cell? ⟨g + 1, k / 4, none⟩ = some (.int .u32 (wsF b k (k / 4) : Int)) := fun i => (hrow.next i.below).cell hq4
      have HFW : Hid (∀ i : BW wr, i.v.frozen? ⟨g + 1, k / 4, none⟩ = false) := fun i => (hrow.next i.below).frozen _
      have HTW : Hid (∀ i : BW wr, i.v.cell? ⟨g + 1, k / 4, none⟩ = some (.int .u32 (wsF b k (k / 4) : Int))) := hcw
      have hX := ws_lt b k
      have hY : (b k).toNat < 256 := u8_lt _
      have HST : Hid (∀ i : BW wr, RowZ (i.v.setCell ⟨g + 1, k / 4, none⟩ (.int .u32 ((wsF b k (k / 4) * 256 ||| (b k).toNat : Nat) : Int))) (g + 1) .u32 4 30 (fun i => (wsF b (k + 1) i : Int))) := fun i => ((hrow.next i.below).set hq4 _).congr fun t ht => by
        by_cases h : t = k / 4
        · subst h; rw [if_pos rfl, ws_here]
        · rw [if_neg h, ws_off _ _ _ h]
      have HSO : Hid (∀ (i : BW wr) v, RowZ (i.v.setCell ⟨g + 1, k / 4, none⟩ v) g .u32 4 30 (fun _ => 0)) := fun i v => (hout.next i.below).other (by omega) _ v
      have HSB : Hid (∀ (i : BW wr) v, Below g w (i.v.setCell ⟨g + 1, k / 4, none⟩ v)) := fun i v => below_setCell (hbel.trans (i.below.mono (Nat.le_of_lt hout.lt))) (by omega) _ v
      have HOR : Hid (bits .or .u32 ((wsF b k (k / 4) : Int) * 256) ((b k).toNat : Int) = ((wsF b k (k / 4) * 256 ||| (b k).toNat : Nat) : Int)) := by
        show _ = _
        rw [show (wsF b k (k / 4) : Int) * 256 = ((wsF b k (k / 4) * 256 : Nat) : Int) by simp, u32_or_nat _ _ (by omega) (by omega)]
      generalize wsF b k (k / 4) * 256 ||| (b k).toNat = Z at *
      generalize wsF b k (k / 4) = X at *
      generalize (b k).toNat = Y at *
      generalize k / 4 = q at *
      clear hbel hrow hout hz
      go_wp2_with fail
      refine wp_region_put (by simp) (by kernel_rfl) rfl (by kernel_rfl) (by kernel_rfl) (by kernel_rfl) ?_
      simp only [List.dropLast_cons_cons, List.dropLast_singleton, List.getLast_cons_cons, List.getLast_singleton, List.cons_append, List.nil_append, mute]
      repeat (go_big_quiet_step (fail))
      refine wpQuiet_nil ?_
      intro i
      have d1 := HTW.out i
      have f1 := HFW.out i
      rw [HOR.out]
      clear hcl hcw
      go_wp2_with fail
      go_roundw
      case rel => exact ⟨k + 1, by omega, by go_num, HST.out _, HSO.out _ _, HSB.out _ _⟩
      case measure => simp [intOf]; omega
    · obtain rfl : k = 16 := by omega
      have HL : Hid (wr.heap[g + 1]? = some (.cells (wdR b) (30 : TypeId) (0, 0))) := hrow.congr fun i hi => by rw [ws_all _ _ hi]
      have HO : Hid (wr.heap[g]? = some (.cells (rowZ .u32 4 (fun _ => 0)) (30 : TypeId) (0, 0))) := hout
      have HONE : Hid ((wdR b).all (·.oneCell') = true) := rowZ_one _ _ _
      have h4 : (wdR b).size = 4 := rowZ_size _ _ _
      have h0 : (rowZ .u32 4 (fun _ => 0)).size = 4 := rowZ_size _ _ _
      have HBG := hidD hbel
      clear hrow hbel hout hz
      generalize hC : wdR b = C at *
      have HCE := hidD hC
      clear hC
      generalize rowZ .u32 4 (fun _ => 0) = C0 at *
      have hi : Hid ((Try.prog.info? 30).map (·.size) = some C.size) := by show _ = _; rw [HSZ.out, h4]
      have HSS : Hid (C0.size = C.size) := by show _ = _; rw [h0, h4]
      clear h0 h4
      go_wp2_with (first | (refine wpList_load_row rfl 30 _ rfl (g + 1) rfl 30 C (0, 0) _ HL.out Try.underlying30 rfl hi.out ?_) | (refine wpList_store_row rfl 30 _ _ rfl g C rfl rfl 30 C0 HO.out hi.out HSS.out HONE.out ?_))
      refine bodyPost_ret (results_cell_row (P := Try.prog) (p := 2) (ty := 30) (by kernel_rfl) _ _ g 30 C (0, 0) _ rfl (setRow_heap _ _ C0 C 30 (0, 0) HO.out) Try.underlying30 rfl hi.out) rfl ?_
      refine ⟨by rw [HCE.out], ?_⟩
      have hfin : Below g w (wr.setRow g C) := below_setRow HBG.out (Nat.le_refl _) _
      rw [HG.out]; exact hfin
end Go.Proofs.Ytckegkknheignaa
/- A region that draws its order and whose last operation waits for all the others: the others in whatever way, then the last one. -/
namespace Go.Proofs.Ytckegkknheignaa
open Go.RowKit
set_option linter.unusedVariables false

theorem mute_asks {P : Program} {o : Oper} {a : Act} {w : World} : ¬ (mute o).asks P a w := by
  rintro ⟨h, _⟩
  have e : ((execOp a.eval (mute o)).runT P w #[]).2 = #[] := rfl
  rw [e] at h
  simp at h
theorem mute_wp {P : Program} {o : Oper} {a : Act} {w : World} {K : Act → World → Prop} {Q : Exit → Act → World → Prop} (hd : o.dst = none) (h : (mute o).wp P a w K Q) : K a w := by
  unfold Oper.wp at h
  have e : (execOp a.eval (mute o)).run P w = .ok (.value undef) w := rfl
  rw [e] at h
  have h2 : K (a.put (mute o).dst undef) w := h
  have hp : a.put (mute o).dst undef = a := by rw [show (mute o).dst = o.dst from rfl, hd]; rfl
  rwa [hp] at h2
/-- Each but the last is waited for by a later one. -/
def coverB (L : List Oper) : Bool := (List.range (L.length - 1)).all fun j => (List.range L.length).any fun k => Nat.blt j k && ((L[k]?).map fun o => o.after.any fun e => Region.binds .any e && e.on == j).getD false
/-- What is listed was ready. -/
def ClosedL (L : List Oper) (listed : Array Bool) : Prop := ∀ i o, L[i]? = some o → listed.getD i false = true → ∀ e ∈ o.after, Region.binds .any e = true → listed.getD e.on false = true
theorem getD_mono {listed : Array Bool} {i j : Nat} (h : listed.getD j false = true) : (listed.setIfInBounds i true).getD j false = true := by
  rw [Array.getD_eq_getD_getElem?] at h ⊢
  rw [Array.getElem?_setIfInBounds]
  by_cases hij : i = j
  · subst hij
    rw [if_pos rfl]
    by_cases hs : i < listed.size
    · rw [if_pos hs]; rfl
    · rw [Array.getElem?_eq_none (by omega)] at h; simp at h
  · rw [if_neg hij]; exact h
theorem ClosedL.step {L : List Oper} {listed : Array Bool} (h : ClosedL L listed) {i : Nat} (hi : i ∈ Region.ready .any L.toArray listed) : ClosedL L (listed.setIfInBounds i true) := fun j o ho hj e he hb => by
  obtain ⟨h1, o', ho', hall⟩ := mem_ready.1 hi
  by_cases hji : j = i
  · subst hji
    rw [List.getElem?_toArray, ho] at ho'
    cases ho'
    exact getD_mono (hall e he hb)
  · refine getD_mono (h j o ho ?_ e he hb)
    rw [Array.getD_eq_getD_getElem?, Array.getElem?_setIfInBounds, if_neg (Ne.symm hji), ← Array.getD_eq_getD_getElem?] at hj
    exact hj
theorem cover_all {L : List Oper} (hc : coverB L = true) {listed : Array Bool} (hcl : ClosedL L listed) {n : Nat} (hn : L.length = n + 1) (h : n ∈ Region.ready .any L.toArray listed) : ∀ m j, j + m = n → 0 < m → listed.getD j false = true := fun m => by
  induction m using Nat.strongRecOn with
  | _ m ih =>
    intro j hj hm
    have h1 := List.all_eq_true.1 hc j (by simp; omega)
    obtain ⟨k, hk, h2⟩ := List.any_eq_true.1 h1
    obtain ⟨hjk, h2⟩ := Bool.and_eq_true_iff.1 h2
    have hjk : j < k := by simpa using hjk
    have hkn : k < L.length := by simpa using hk
    rw [List.getElem?_eq_getElem hkn, Option.map_some, Option.getD_some, Array.any_eq_true'] at h2
    obtain ⟨e, he, h3⟩ := h2
    obtain ⟨hb, hon⟩ := Bool.and_eq_true_iff.1 h3
    have hon := eq_of_beq hon
    by_cases hkn2 : k = n
    · subst hkn2
      obtain ⟨_, o', ho', hall⟩ := mem_ready.1 h
      rw [List.getElem?_toArray, List.getElem?_eq_getElem hkn] at ho'
      cases ho'
      have := hall e he hb
      rw [hon] at this; exact this
    · have hl := ih (n - k) (by omega) k (by omega) (by omega)
      have := hcl k L[k] (List.getElem?_eq_getElem hkn) hl e he hb
      rw [hon] at this; exact this
theorem ready_cover {l : List Oper} {o : Oper} (hc : coverB (l ++ [o]) = true) {listed : Array Bool} (hcl : ClosedL (l ++ [o]) listed) (h : l.length ∈ Region.ready .any (l ++ [o]).toArray listed) : Region.ready .any (l ++ [o]).toArray (listed.setIfInBounds l.length true) = [] := by
  apply List.eq_nil_iff_forall_not_mem.2
  intro i hi
  have hall := cover_all hc hcl (n := l.length) (by simp) h
  obtain ⟨h1, _⟩ := mem_ready.1 h
  obtain ⟨h2, o2, ho2, _⟩ := mem_ready.1 hi
  rw [List.getElem?_toArray] at ho2
  have hil : i < (l ++ [o]).length := (List.getElem?_eq_some_iff.1 ho2).1
  rw [List.length_append, List.length_singleton] at hil
  by_cases he : i = l.length
  · subst he
    rcases Nat.lt_or_ge l.length listed.size with h' | h'
    · simp [h'] at h2
    · simp [Array.getElem?_eq_none h'] at h1
  · have h3 := hall (l.length - i) i (by omega) (by omega)
    rcases Nat.lt_or_ge i listed.size with h' | h'
    · have h4 : listed[i] = true := by simpa [h'] using h3
      rw [Array.getD_eq_getD_getElem?, Array.getElem?_setIfInBounds, if_neg (Ne.symm he)] at h2
      simp [h', h4] at h2
    · simp [Array.getElem?_eq_none h'] at h3
/-- What must hold behind the others. -/
def CutQ (P : Program) (l : List Oper) (o : Oper) (Q : Exit → Act → World → Prop) (e : Exit) (a : Act) (w : World) : Prop := (e = .normal ∧ wpList P (l ++ [o]).toArray Q [o] a w) ∨ (e ≠ .normal ∧ Q e a w)
theorem wpAny_cut {P : Program} {l : List Oper} {o : Oper} {Q : Exit → Act → World → Prop} (hd : o.dst = none) (hl : coverB (l ++ [o]) = true) (ht : topB (l ++ [o]) = true) : ∀ (fuel : Nat) (listed : Array Bool) (a : Act) (w : World), listed.size = (l ++ [o]).length → listed.getD l.length true = false → ClosedL (l ++ [o]) listed →
      wpAny P .any (l ++ [mute o]).toArray (CutQ P l o Q) fuel listed a w → wpAny P .any (l ++ [o]).toArray Q fuel listed a w
  | 0, listed, a, w, hs, hn, hcl, h => by
    have := h.1
    rw [ready_mute] at this
    exact absurd this (ready_some ht hs (by simp) hn)
  | fuel + 1, listed, a, w, hs, hn, hcl, h => by
    have hQ : ∀ e a' w', e ≠ .normal → CutQ P l o Q e a' w' → Q e a' w' := fun e a' w' hne hh => hh.elim (fun h => absurd h.1 hne) (fun h => h.2)
    refine ⟨fun h0 => absurd h0 (ready_some ht hs (by simp) hn), fun i hi => ?_⟩
    have h2 := h.2 i (by rw [ready_mute]; exact hi)
    by_cases hin : i = l.length
    · subst hin
      have hr := ready_cover hl hcl hi
      have hL : wpList P (l ++ [o]).toArray Q [o] a w := by
        have key : wpAny P .any (l ++ [mute o]).toArray (CutQ P l o Q) fuel (listed.setIfInBounds l.length true) a w → wpList P (l ++ [o]).toArray Q [o] a w := fun hh => by
          have hq : CutQ P l o Q .normal a w := by
            cases fuel with
            | zero => exact hh.2
            | succ f => exact hh.1 (by rw [ready_mute]; exact hr)
          exact hq.elim (fun h => h.2) (fun h => absurd rfl h.1)
        unfold wpOp at h2
        rw [List.getElem?_toArray, mute_at, if_pos rfl] at h2
        have hp : a.put (mute o).dst undef = a := by rw [show (mute o).dst = o.dst from rfl, hd]; rfl
        simp only at h2
        split at h2
        · rcases h2 with h2 | h2
          · exact key (mute_wp hd h2)
          · exact absurd h2.1 mute_asks
        · rw [hp] at h2; exact key h2
      have hK : ∀ a' w', wpList P (l ++ [o]).toArray Q [] a' w' → wpAny P .any (l ++ [o]).toArray Q fuel (listed.setIfInBounds l.length true) a' w' := fun a' w' hh => by
        cases fuel with
        | zero => exact ⟨hr, hh⟩
        | succ f => exact ⟨fun _ => hh, fun i hi => by rw [hr] at hi; cases hi⟩
      unfold wpOp
      rw [List.getElem?_toArray, last_at]
      simp only
      unfold wpList at hL
      split at hL
      · rename_i hw
        rw [if_pos hw]
        rcases hL with hL | hL
        · exact .inl (Oper.wp_mono hK hL)
        · exact .inr hL
      · rename_i hw
        rw [if_neg hw]
        exact hK _ _ hL
    · have ih : ∀ a' w', wpAny P .any (l ++ [mute o]).toArray (CutQ P l o Q) fuel (listed.setIfInBounds i true) a' w' → wpAny P .any (l ++ [o]).toArray Q fuel (listed.setIfInBounds i true) a' w' := fun a' w' hh => by
        refine wpAny_cut hd hl ht fuel _ a' w' (by simpa using hs) ?_ (hcl.step hi) hh
        rw [Array.getD_eq_getD_getElem?, Array.getElem?_setIfInBounds, if_neg hin, ← Array.getD_eq_getD_getElem?]; exact hn
      unfold wpOp at *
      rw [List.getElem?_toArray, mute_at, if_neg hin, yielded_mute] at h2
      rw [List.getElem?_toArray]
      cases hoi : (l ++ [o])[i]? with
      | none =>
        rw [hoi] at h2
        exact ih _ _ h2
      | some oi =>
        rw [hoi] at h2
        simp only at h2 ⊢
        split
        · rename_i hw
          rw [if_pos hw] at h2
          rcases h2 with h2 | ⟨h3, a', w', h4⟩
          · exact .inl (Oper.wp_mono ih (upon_swap hQ h2))
          · exact .inr ⟨h3, a', w', hQ _ _ _ (by simp) h4⟩
        · rename_i hw
          rw [if_neg hw] at h2
          exact ih _ _ h2
/-- Operations that yield a value and nothing else. -/
def plainB : Op → Bool
  | .move _ | .assign _ | .pick _ _ _ | .build _ _ | .load _ _ | .binOp _ _ _ _ _ | .unOp _ _ _ | .convert _ _ _ | .fieldAddr _ _ _ | .field _ _ _ | .indexAddr _ _ _ | .index _ _ _ | .extract _ _ | .slice _ _ _ _ _ | .nilCheck _ => true
  | _ => false
theorem bind_ok {P : Program} {α β : Type} {s : Sem α} {k : α → Sem β} {w w' : World} {n : β} (h : (s >>= k).run P w = .ok n w') : ∃ x w1, s.run P w = .ok x w1 ∧ (k x).run P w1 = .ok n w' := by
  rw [Sem.run_bind] at h
  cases hs : s.run P w with
  | ok x w1 => rw [hs] at h; exact ⟨x, w1, rfl, h⟩
  | halt x w1 => rw [hs] at h; cases h
theorem value_run {P : Program} {s : Sem Value} {w w' : World} {n : Next} (h : (do pure (Next.value (← s)) : Sem Next).run P w = .ok n w') : ∃ v, n = .value v := by
  rw [Sem.run_bind] at h
  cases hs : s.run P w with
  | ok x w1 => rw [hs] at h; cases h; exact ⟨x, rfl⟩
  | halt x w1 => rw [hs] at h; cases h
theorem plain_run {P : Program} {o : Oper} (hp : plainB o.op = true) {ρ : Operand → Value} {w w' : World} {n : Next} (h : (execOp ρ o).run P w = .ok n w') : ∃ v, n = .value v := by
  unfold execOp at h
  cases hop : o.op <;> rw [hop] at h hp <;> simp only [plainB, Bool.false_eq_true] at hp <;> simp only at h <;> first
    | exact value_run h
    | (cases h; exact ⟨_, rfl⟩)
    | skip
  · rename_i c a b
    rw [Sem.run_bind] at h
    cases hs : (asBool (ρ c)).run P w with
    | ok x w1 => rw [hs] at h; cases h; exact ⟨_, rfl⟩
    | halt x w1 => rw [hs] at h; cases h
  · rename_i x
    split at h
    · cases h
    · cases h
    · cases h
    · split at h
      · cases h
      · obtain ⟨x1, w1, _, h⟩ := bind_ok h
        obtain ⟨x2, w2, _, h⟩ := bind_ok h

        split at h
        · obtain ⟨x3, w3, h3, h⟩ := bind_ok h
          cases h; exact ⟨_, rfl⟩
        · cases h; exact ⟨_, rfl⟩
      · cases h; exact ⟨_, rfl⟩
    · cases h; exact ⟨_, rfl⟩

/- which are quiet: a mask over the others (the last one is none of them) -/
def qPick : List Oper → List Bool → List Oper
  | o :: l, true :: m => o :: qPick l m
  | _ :: l, false :: m => qPick l m
  | _, _ => []
def lPick : List Oper → List Bool → List Oper
  | _ :: l, true :: m => lPick l m
  | o :: l, false :: m => o :: lPick l m
  | _, _ => []
def qIdx : List Bool → Nat → List Nat
  | true :: m, k => k :: qIdx m (k + 1)
  | false :: m, k => qIdx m (k + 1)
  | [], _ => []
def lIdx : List Bool → Nat → List Nat
  | true :: m, k => lIdx m (k + 1)
  | false :: m, k => k :: lIdx m (k + 1)
  | [], _ => []
def setAll (listed : Array Bool) : List Nat → Array Bool
  | [] => listed
  | i :: rest => setAll (listed.setIfInBounds i true) rest
def quietsB (ops : Array Oper) : List Nat → Array Bool → Bool
  | [], _ => true
  | i :: rest, listed => Region.free .any ops listed i && (Region.ready .any ops listed).contains i && ((ops[i]?).map fun o => plainB o.op).getD false && quietsB ops rest (listed.setIfInBounds i true)
def chainB (ops : Array Oper) : List Nat → Array Bool → Bool
  | [], listed => (Region.ready .any ops listed).isEmpty
  | i :: rest, listed => Region.ready .any ops listed == [i] && chainB ops rest (listed.setIfInBounds i true)
section
variable {P : Program} {ops : Array Oper} {Q : Exit → Act → World → Prop} {S : World → Prop}
theorem quiet_yields {o : Oper} {a : Act} {K : Act → Prop} (hp : plainB o.op = true) (hw : Region.wanted o (yielded ops a.tmps) = true) {w : World} (hS : S w) (h : o.quiet P a S K) : ∃ v, YieldsIf P ops S o v a ∧ K (a.put o.dst v) := by
  obtain ⟨v, h1, h2⟩ := h
  refine ⟨v, .inl ⟨hw, fun w' hw' => ?_⟩, h2⟩
  have h3 := h1 w' hw'
  unfold Oper.quietAt at h3
  cases hr : (execOp a.eval o).run P w' with
  | halt x w1 => rw [hr] at h3; exact h3.elim
  | ok n w1 =>
    obtain ⟨u, rfl⟩ := plain_run hp hr
    rw [hr] at h3
    obtain ⟨rfl, rfl⟩ := h3
    rfl
theorem quiets_any (hs : Region.noSelect ops = true) (hQ : ∀ c d v a w, Q (.panic c) (a.put d v) w → Q (.panic c) a w) {K : Act → Prop} {w : World} (hS : S w) : ∀ (l : List Oper) (m : List Bool) (k fuel : Nat) (listed : Array Bool) (a : Act), (∀ j, j < m.length → l[j]? = ops[k + j]?) → quietsB ops (qIdx m k) listed = true →
      wpQuiet P ops S K (qPick l m) a → (∀ a', K a' → wpAnyH P .any ops Q S fuel (setAll listed (qIdx m k)) a' w) → wpAnyH P .any ops Q S (fuel + (qIdx m k).length) listed a w
  | _, [], k, fuel, listed, a, _, _, hq, hK => by
    have : qPick ‹_› [] = [] := by cases ‹List Oper› <;> rfl
    rw [this] at hq
    exact hK a hq
  | [], b :: m, k, fuel, listed, a, hl, hB, hq, hK => by
    cases b with
    | true =>
      have h0 := hl 0 (by simp)
      simp only [List.getElem?_nil, Nat.add_zero] at h0
      simp [qIdx, quietsB, ← h0] at hB
    | false =>
      refine quiets_any hs hQ hS [] m (k + 1) fuel listed a (fun j hj => ?_) hB hq hK
      have := hl (j + 1) (by simpa using hj)
      rw [show k + 1 + j = k + (j + 1) by omega, ← this]; simp
  | o :: l, true :: m, k, fuel, listed, a, hl, hB, hq, hK => by
    have h0 := hl 0 (by simp)
    simp only [List.getElem?_cons_zero, Nat.add_zero] at h0
    simp only [qIdx, quietsB, Bool.and_eq_true, ← h0, Option.map_some, Option.getD_some] at hB
    obtain ⟨⟨⟨hf, hr⟩, hp⟩, hB⟩ := hB
    have hl' : ∀ j, j < m.length → l[j]? = ops[k + 1 + j]? := fun j hj => by
      have := hl (j + 1) (by simpa using hj)
      rw [show k + 1 + j = k + (j + 1) by omega, ← this]; simp
    have hq' : wpQuiet P ops S K (o :: qPick l m) a := hq
    rw [wpQuiet_cons] at hq'
    show wpAnyH P .any ops Q S (fuel + (qIdx m (k + 1)).length + 1) listed a w
    split at hq'
    · rename_i hw
      obtain ⟨v, hy, hv⟩ := quiet_yields hp hw hS hq'
      exact wpAnyH_take h0.symm hs hf hr (fun c a w => hQ c _ _ a w) hy hS (quiets_any hs hQ hS l m (k + 1) fuel _ _ hl' hB hv hK)
    · rename_i hw
      have hw : Region.wanted o (yielded ops a.tmps) = false := by simpa using hw
      exact wpAnyH_take h0.symm hs hf hr (fun c a w => hQ c _ _ a w) (.inr ⟨hw, rfl⟩) hS (quiets_any hs hQ hS l m (k + 1) fuel _ _ hl' hB hq' hK)
  | o :: l, false :: m, k, fuel, listed, a, hl, hB, hq, hK => by
    refine quiets_any hs hQ hS l m (k + 1) fuel listed a (fun j hj => ?_) hB hq hK
    have := hl (j + 1) (by simpa using hj)
    rw [show k + 1 + j = k + (j + 1) by omega, ← this]; simp
end
theorem mute_wp_mk {P : Program} {o : Oper} {a : Act} {w : World} {K : Act → World → Prop} {Q : Exit → Act → World → Prop} (hd : o.dst = none) (h : K a w) : (mute o).wp P a w K Q := by
  unfold Oper.wp
  have e : (execOp a.eval (mute o)).run P w = .ok (.value undef) w := rfl
  rw [e]
  show K (a.put (mute o).dst undef) w
  have hp : a.put (mute o).dst undef = a := by rw [show (mute o).dst = o.dst from rfl, hd]; rfl
  rw [hp]; exact h
/-- The loud ones, one behind the other; behind each the class of worlds is met again; then F. -/
def LoudW (P : Program) (ops : Array Oper) (Q : Exit → Act → World → Prop) (S : World → Prop) (F : Act → World → Prop) : List Oper → Act → World → Prop
  | [], a, w => F a w
  | o :: rest, a, w => wpList P ops (fun e a' w' => (e = .normal ∧ S w' ∧ LoudW P ops Q S F rest a' w') ∨ (e ≠ .normal ∧ Q e a' w')) [o] a w
theorem loud_any {P : Program} {l0 : List Oper} {o : Oper} {Q : Exit → Act → World → Prop} {S : World → Prop} (hd : o.dst = none) (hg : o.guard = none) : ∀ (l : List Oper) (m : List Bool) (k : Nat) (listed : Array Bool) (a : Act) (w : World), (∀ j, j < m.length → l[j]? = (l0 ++ [mute o])[k + j]?) →
      chainB (l0 ++ [mute o]).toArray (lIdx m k ++ [l0.length]) listed = true → S w → LoudW P (l0 ++ [mute o]).toArray Q S (fun a w => wpList P (l0 ++ [o]).toArray Q [o] a w) (lPick l m) a w →
      wpAnyH P .any (l0 ++ [mute o]).toArray (CutQ P l0 o Q) S ((lIdx m k).length + 1) listed a w
  | l, [], k, listed, a, w, hl, hB, hS, h => by
    have hp : lPick l [] = [] := by cases l <;> rfl
    rw [hp] at h
    have hB : chainB (l0 ++ [mute o]).toArray [l0.length] listed = true := hB
    simp only [chainB, Bool.and_eq_true, beq_iff_eq, List.isEmpty_iff] at hB
    refine wpAnyH_all hB.1 (by simp) fun i hi => ?_
    have hi : i = l0.length := by simpa using hi
    subst hi
    unfold wpOp
    rw [List.getElem?_toArray, last_at]
    simp only
    rw [if_pos (show Region.wanted (mute o) (yielded (l0 ++ [mute o]).toArray a.tmps) = true by simp [Region.wanted, mute, hg])]
    exact .inl (mute_wp_mk hd ⟨hS, hB.2, .inl ⟨rfl, h⟩⟩)
  | [], b :: m, k, listed, a, w, hl, hB, hS, h => by
    have hl' : ∀ j, j < m.length → ([] : List Oper)[j]? = (l0 ++ [mute o])[k + 1 + j]? := fun j hj => by
      have := hl (j + 1) (by simpa using hj)
      rw [show k + 1 + j = k + (j + 1) by omega, ← this]; simp
    cases b with
    | true => exact loud_any hd hg [] m (k + 1) listed a w hl' hB hS h
    | false =>
      have h0 := hl 0 (by simp)
      simp only [List.getElem?_nil, Nat.add_zero] at h0
      simp only [lIdx, List.cons_append, chainB, Bool.and_eq_true, beq_iff_eq] at hB
      have h1 := mem_ready.1 (show k ∈ Region.ready .any (l0 ++ [mute o]).toArray listed by rw [hB.1]; simp)
      obtain ⟨_, o', ho', _⟩ := h1
      rw [List.getElem?_toArray, ← h0] at ho'
      cases ho'
  | x :: l, true :: m, k, listed, a, w, hl, hB, hS, h => by
    refine loud_any hd hg l m (k + 1) listed a w (fun j hj => ?_) hB hS h
    have := hl (j + 1) (by simpa using hj)
    rw [show k + 1 + j = k + (j + 1) by omega, ← this]; simp
  | x :: l, false :: m, k, listed, a, w, hl, hB, hS, h => by
    have hl' : ∀ j, j < m.length → l[j]? = (l0 ++ [mute o])[k + 1 + j]? := fun j hj => by
      have := hl (j + 1) (by simpa using hj)
      rw [show k + 1 + j = k + (j + 1) by omega, ← this]; simp
    have h0 := hl 0 (by simp)
    simp only [List.getElem?_cons_zero, Nat.add_zero] at h0
    simp only [lIdx, List.cons_append, chainB, Bool.and_eq_true, beq_iff_eq] at hB
    show wpAnyH P .any (l0 ++ [mute o]).toArray (CutQ P l0 o Q) S ((lIdx m (k + 1)).length + 1 + 1) listed a w
    refine wpAnyH_all hB.1 (by simp) fun i hi => ?_
    have hi : i = k := by simpa using hi
    subst hi
    have hstep : wpOp P (l0 ++ [mute o]).toArray (CutQ P l0 o Q) i (fun a' w' => S w' ∧ LoudW P (l0 ++ [mute o]).toArray Q S (fun a w => wpList P (l0 ++ [o]).toArray Q [o] a w) (lPick l m) a' w') a w := by
      have h' : wpList P (l0 ++ [mute o]).toArray (fun e a' w' => (e = .normal ∧ S w' ∧ LoudW P (l0 ++ [mute o]).toArray Q S (fun a w => wpList P (l0 ++ [o]).toArray Q [o] a w) (lPick l m) a' w') ∨ (e ≠ .normal ∧ Q e a' w')) [x] a w := h
      have hc : ∀ e a' w', ((e = .normal ∧ S w' ∧ LoudW P (l0 ++ [mute o]).toArray Q S (fun a w => wpList P (l0 ++ [o]).toArray Q [o] a w) (lPick l m) a' w') ∨ (e ≠ .normal ∧ Q e a' w')) = ((e = .normal ∧ S w' ∧ LoudW P (l0 ++ [mute o]).toArray Q S (fun a w => wpList P (l0 ++ [o]).toArray Q [o] a w) (lPick l m) a' w') ∨ (e ≠ .normal ∧ CutQ P l0 o Q e a' w')) := fun e a' w' => propext ⟨fun hh => hh.imp id fun hh => ⟨hh.1, .inr hh⟩, fun hh => hh.imp id fun hh => ⟨hh.1, hh.2.elim (fun h => absurd h.1 hh.1) (fun h => h.2)⟩⟩
      simp only [hc] at h'
      exact wpOp_plain (K := fun a' w' => S w' ∧ LoudW P (l0 ++ [mute o]).toArray Q S (fun a w => wpList P (l0 ++ [o]).toArray Q [o] a w) (lPick l m) a' w') h0.symm h'
    exact wpOp_mono' (fun a' w' hh => ⟨hh.1, loud_any hd hg l m (i + 1) _ a' w' hl' hB.2 hh.1 hh.2⟩) hstep
theorem idx_len : ∀ (m : List Bool) (k : Nat), (qIdx m k).length + (lIdx m k).length = m.length
  | [], _ => rfl
  | true :: m, k => by simp only [qIdx, lIdx, List.length_cons]; have := idx_len m (k + 1); omega
  | false :: m, k => by simp only [qIdx, lIdx, List.length_cons]; have := idx_len m (k + 1); omega
/-- A world in which these blocks of w stand as they did. -/
structure KB (w : World) (bs : List Nat) where
  v : World
  keep : ∀ b, b ∈ bs → v.heap[b]? = w.heap[b]?
instance KB.some (w : World) (bs : List Nat) : Nonempty (KB w bs) := ⟨⟨w, fun _ _ => rfl⟩⟩
theorem KB.cell {w : World} {bs : List Nat} (i : KB w bs) {b : Nat} (hb : b ∈ bs) (o : Nat) : i.v.cell? ⟨b, o, none⟩ = w.cell? ⟨b, o, none⟩ := World.cell?_of_block (i.keep b hb)
/-- A region that draws its order: the quiet ones (the mask) in the order of the text, then the loud ones, then the last one. -/
theorem wp_region_loud {P : Program} {id : Nat} {Q : Exit → Act → World → Prop} {a : Act} {w : World} {L : List Oper} (m : List Bool) (bs : List Nat) (hne : L ≠ []) (hm : P.follows .mixedOrders = true) (hd : (L.getLast hne).dst = none) (hg : (L.getLast hne).guard = none)
    (hl : coverB L = true) (ht : topB L = true) (hs : Region.noSelect (L.dropLast ++ [mute (L.getLast hne)]).toArray = true) (hml : m.length = L.dropLast.length)
    (hq : quietsB (L.dropLast ++ [mute (L.getLast hne)]).toArray (qIdx m 0) (Array.replicate L.length false) = true)
    (hc : chainB (L.dropLast ++ [mute (L.getLast hne)]).toArray (lIdx m 0 ++ [L.dropLast.length]) (setAll (Array.replicate L.length false) (qIdx m 0)) = true)
    (hQ : ∀ c (d : Nat) v a w, Q (.panic c) (a.put (some d) v) w → Q (.panic c) a w)
    (h : wpQuiet P (L.dropLast ++ [mute (L.getLast hne)]).toArray (fun w' => ∃ i : KB w bs, w' = i.v)
      (fun a' => LoudW P (L.dropLast ++ [mute (L.getLast hne)]).toArray Q (fun w' => ∃ i : KB w bs, w' = i.v) (fun a w => wpList P L.toArray Q [L.getLast hne] a w) (lPick L.dropLast m) a' w.drew) (qPick L.dropLast m) a) : (Code.region id L.toArray true).wp P Q a w := by
  have e : L.dropLast ++ [L.getLast hne] = L := List.dropLast_concat_getLast hne
  have hlen : L.dropLast.length + 1 = L.length := by
    have := congrArg List.length e
    simpa using this
  refine wp_region_any hm ?_
  have hS : (fun w' => ∃ i : KB w bs, w' = i.v) w.drew := ⟨⟨w.drew, fun _ _ => rfl⟩, rfl⟩
  have hpre : ∀ j, j < m.length → L.dropLast[j]? = (L.dropLast ++ [mute (L.getLast hne)])[0 + j]? := fun j hj => by
    rw [Nat.zero_add, List.getElem?_append_left (by omega)]
  have h1 : wpAnyH P .any (L.dropLast ++ [mute (L.getLast hne)]).toArray (CutQ P L.dropLast (L.getLast hne) Q) (fun w' => ∃ i : KB w bs, w' = i.v) ((lIdx m 0).length + 1 + (qIdx m 0).length) (Array.replicate L.length false) a w.drew := by
    refine quiets_any hs (fun c d v a w hh => hh.imp (fun h => ⟨h.1, absurd h.1 (by simp)⟩) (fun h => ⟨h.1, by cases d with | none => exact h.2 | some d => exact hQ c d v a w h.2⟩)) hS L.dropLast m 0 ((lIdx m 0).length + 1) _ a (fun j hj => by rw [hpre j hj, List.getElem?_toArray]) hq h fun a' ha' => ?_
    refine loud_any hd hg L.dropLast m 0 _ a' w.drew hpre hc hS ?_
    rw [e]; exact ha'
  have hfu : (lIdx m 0).length + 1 + (qIdx m 0).length = L.length := by have := idx_len m 0; omega
  rw [hfu] at h1
  have hgd : (Array.replicate L.length false).getD L.dropLast.length true = false := by
    rw [Array.getD_eq_getD_getElem?, Array.getElem?_replicate, if_pos (by omega)]; rfl
  have h2 := wpAny_cut (P := P) (Q := Q) hd (by rw [e]; exact hl) (by rw [e]; exact ht) L.length (Array.replicate L.length false) a w.drew (by rw [e]; simp) hgd (fun i o _ hi => absurd hi (by rw [Array.getD_eq_getD_getElem?, Array.getElem?_replicate]; split <;> simp)) (wpAny_of_held _ _ _ _ h1)
  rw [e] at h2
  simpa using h2
theorem loud_any0 {P : Program} {L : List Oper} {Q : Exit → Act → World → Prop} {S : World → Prop} : ∀ (l : List Oper) (m : List Bool) (k : Nat) (listed : Array Bool) (a : Act) (w : World), (∀ j, j < m.length → l[j]? = L[k + j]?) →
      chainB L.toArray (lIdx m k) listed = true → S w → LoudW P L.toArray Q S (fun a w => Q .normal a w) (lPick l m) a w →
      wpAnyH P .any L.toArray Q S (lIdx m k).length listed a w
  | l, [], k, listed, a, w, hl, hB, hS, h => by
    have hp : lPick l [] = [] := by cases l <;> rfl
    rw [hp] at h
    have hB : chainB L.toArray [] listed = true := hB
    simp only [chainB, List.isEmpty_iff] at hB
    exact wpAnyH_done hB h _
  | [], b :: m, k, listed, a, w, hl, hB, hS, h => by
    have hl' : ∀ j, j < m.length → ([] : List Oper)[j]? = L[k + 1 + j]? := fun j hj => by
      have := hl (j + 1) (by simpa using hj)
      rw [show k + 1 + j = k + (j + 1) by omega, ← this]; simp
    cases b with
    | true => exact loud_any0 [] m (k + 1) listed a w hl' hB hS h
    | false =>
      have h0 := hl 0 (by simp)
      simp only [List.getElem?_nil, Nat.add_zero] at h0
      simp only [lIdx, chainB, Bool.and_eq_true, beq_iff_eq] at hB
      have h1 := mem_ready.1 (show k ∈ Region.ready .any L.toArray listed by rw [hB.1]; simp)
      obtain ⟨_, o', ho', _⟩ := h1
      rw [List.getElem?_toArray, ← h0] at ho'
      cases ho'
  | x :: l, true :: m, k, listed, a, w, hl, hB, hS, h => by
    refine loud_any0 l m (k + 1) listed a w (fun j hj => ?_) hB hS h
    have := hl (j + 1) (by simpa using hj)
    rw [show k + 1 + j = k + (j + 1) by omega, ← this]; simp
  | x :: l, false :: m, k, listed, a, w, hl, hB, hS, h => by
    have hl' : ∀ j, j < m.length → l[j]? = L[k + 1 + j]? := fun j hj => by
      have := hl (j + 1) (by simpa using hj)
      rw [show k + 1 + j = k + (j + 1) by omega, ← this]; simp
    have h0 := hl 0 (by simp)
    simp only [List.getElem?_cons_zero, Nat.add_zero] at h0
    simp only [lIdx, chainB, Bool.and_eq_true, beq_iff_eq] at hB
    show wpAnyH P .any L.toArray Q S ((lIdx m (k + 1)).length + 1) listed a w
    refine wpAnyH_all hB.1 (by simp) fun i hi => ?_
    have hi : i = k := by simpa using hi
    subst hi
    have hstep := wpOp_plain (P := P) (L := L) (Q := Q) (K := fun a' w' => S w' ∧ LoudW P L.toArray Q S (fun a w => Q .normal a w) (lPick l m) a' w') h0.symm h
    exact wpOp_mono' (fun a' w' hh => ⟨hh.1, loud_any0 l m (i + 1) _ a' w' hl' hB.2 hh.1 hh.2⟩) hstep
/-- The same, where the last one is one of the loud ones that keep the class. -/
theorem wp_region_loud0 {P : Program} {id : Nat} {Q : Exit → Act → World → Prop} {a : Act} {w : World} {L : List Oper} (m : List Bool) (bs : List Nat) (hm : P.follows .mixedOrders = true) (hs : Region.noSelect L.toArray = true) (hml : m.length = L.length)
    (hq : quietsB L.toArray (qIdx m 0) (Array.replicate L.length false) = true)
    (hc : chainB L.toArray (lIdx m 0) (setAll (Array.replicate L.length false) (qIdx m 0)) = true)
    (hQ : ∀ c (d : Nat) v a w, Q (.panic c) (a.put (some d) v) w → Q (.panic c) a w)
    (h : wpQuiet P L.toArray (fun w' => ∃ i : KB w bs, w' = i.v)
      (fun a' => LoudW P L.toArray Q (fun w' => ∃ i : KB w bs, w' = i.v) (fun a w => Q .normal a w) (lPick L m) a' w.drew) (qPick L m) a) : (Code.region id L.toArray true).wp P Q a w := by
  refine wp_region_any hm ?_
  have hS : (fun w' => ∃ i : KB w bs, w' = i.v) w.drew := ⟨⟨w.drew, fun _ _ => rfl⟩, rfl⟩
  have hpre : ∀ j, j < m.length → L[j]? = L[0 + j]? := fun j hj => by rw [Nat.zero_add]
  have h1 : wpAnyH P .any L.toArray Q (fun w' => ∃ i : KB w bs, w' = i.v) ((lIdx m 0).length + (qIdx m 0).length) (Array.replicate L.length false) a w.drew := by
    refine quiets_any hs (fun c d v a w hh => by cases d with | none => exact hh | some d => exact hQ c d v a w hh) hS L m 0 (lIdx m 0).length _ a (fun j hj => by rw [hpre j hj, List.getElem?_toArray]) hq h fun a' ha' => ?_
    exact loud_any0 L m 0 _ a' w.drew hpre hc hS ha'
  have hfu : (lIdx m 0).length + (qIdx m 0).length = L.length := by have := idx_len m 0; omega
  rw [hfu] at h1
  have h2 := wpAny_of_held _ _ _ _ h1
  simpa using h2
end Go.Proofs.Ytckegkknheignaa
/- A region that draws its order: the quiet ones in the order of the text, then the loud ones in each order that may come up, then the last one. -/
namespace Go.Proofs.Ytckegkknheignaa
open Go.RowKit
set_option linter.unusedVariables false

theorem wp_region_free {P : Program} {id : Nat} {Q : Exit → Act → World → Prop} {a : Act} {w : World} {L : List Oper} (m : List Bool) (fu : Nat) (bs : List Nat) (hne : L ≠ []) (hm : P.follows .mixedOrders = true) (hd : (L.getLast hne).dst = none) (hg : (L.getLast hne).guard = none)
    (hl : coverB L = true) (ht : topB L = true) (hs : Region.noSelect (L.dropLast ++ [mute (L.getLast hne)]).toArray = true) (hml : m.length = L.dropLast.length) (hfu : fu + (qIdx m 0).length = L.length)
    (hq : quietsB (L.dropLast ++ [mute (L.getLast hne)]).toArray (qIdx m 0) (Array.replicate L.length false) = true)
    (hQ : ∀ c (d : Nat) v a w, Q (.panic c) (a.put (some d) v) w → Q (.panic c) a w)
    (h : wpQuiet P (L.dropLast ++ [mute (L.getLast hne)]).toArray (fun w' => ∃ i : KB w bs, w' = i.v)
      (fun a' => wpAnyH P .any (L.dropLast ++ [mute (L.getLast hne)]).toArray (CutQ P L.dropLast (L.getLast hne) Q) (fun w' => ∃ i : KB w bs, w' = i.v) fu (setAll (Array.replicate L.length false) (qIdx m 0)) a' w.drew) (qPick L.dropLast m) a) : (Code.region id L.toArray true).wp P Q a w := by
  have e : L.dropLast ++ [L.getLast hne] = L := List.dropLast_concat_getLast hne
  have hlen : L.dropLast.length + 1 = L.length := by
    have := congrArg List.length e
    simpa using this
  refine wp_region_any hm ?_
  have hS : (fun w' => ∃ i : KB w bs, w' = i.v) w.drew := ⟨⟨w.drew, fun _ _ => rfl⟩, rfl⟩
  have hpre : ∀ j, j < m.length → L.dropLast[j]? = (L.dropLast ++ [mute (L.getLast hne)])[0 + j]? := fun j hj => by
    rw [Nat.zero_add, List.getElem?_append_left (by omega)]
  have h1 : wpAnyH P .any (L.dropLast ++ [mute (L.getLast hne)]).toArray (CutQ P L.dropLast (L.getLast hne) Q) (fun w' => ∃ i : KB w bs, w' = i.v) (fu + (qIdx m 0).length) (Array.replicate L.length false) a w.drew :=
    quiets_any hs (fun c d v a w hh => hh.imp (fun h => ⟨h.1, absurd h.1 (by simp)⟩) (fun h => ⟨h.1, by cases d with | none => exact h.2 | some d => exact hQ c d v a w h.2⟩)) hS L.dropLast m 0 fu _ a (fun j hj => by rw [hpre j hj, List.getElem?_toArray]) hq h fun a' ha' => ha'
  rw [hfu] at h1
  have hgd : (Array.replicate L.length false).getD L.dropLast.length true = false := by
    rw [Array.getD_eq_getD_getElem?, Array.getElem?_replicate, if_pos (by omega)]; rfl
  have h2 := wpAny_cut (P := P) (Q := Q) hd (by rw [e]; exact hl) (by rw [e]; exact ht) L.length (Array.replicate L.length false) a w.drew (by rw [e]; simp) hgd (fun i o _ hi => absurd hi (by rw [Array.getD_eq_getD_getElem?, Array.getElem?_replicate]; split <;> simp)) (wpAny_of_held _ _ _ _ h1)
  rw [e] at h2
  simpa using h2
/-- One of those that may come up. -/
def StepAny (P : Program) (ops : Array Oper) (l0 : List Oper) (o : Oper) (Q : Exit → Act → World → Prop) (S : World → Prop) (fu : Nat) (listed : Array Bool) (i : Nat) (a : Act) (w : World) : Prop :=
  ∃ x, ops[i]? = some x ∧ wpList P ops (fun e a' w' => (e = .normal ∧ S w' ∧ wpAnyH P .any ops (CutQ P l0 o Q) S fu (listed.setIfInBounds i true) a' w') ∨ (e ≠ .normal ∧ Q e a' w')) [x] a w
theorem any_step {P : Program} {ops : Array Oper} {l0 : List Oper} {o : Oper} {Q : Exit → Act → World → Prop} {S : World → Prop} {fu : Nat} {listed : Array Bool} {a : Act} {w : World} (js : List Nat) (hops : ops = (l0 ++ [mute o]).toArray) (hr : Region.ready .any ops listed = js) (hne : js ≠ []) (h : ∀ i, i ∈ js → StepAny P ops l0 o Q S fu listed i a w) :
    wpAnyH P .any ops (CutQ P l0 o Q) S (fu + 1) listed a w := by
  subst hops
  refine wpAnyH_all hr hne fun i hi => ?_
  obtain ⟨x, hx, h'⟩ := h i hi
  rw [List.getElem?_toArray] at hx
  have hc : ∀ (e : Exit) (a' : Act) (w' : World), ((e = .normal ∧ S w' ∧ wpAnyH P .any (l0 ++ [mute o]).toArray (CutQ P l0 o Q) S fu (listed.setIfInBounds i true) a' w') ∨ (e ≠ .normal ∧ Q e a' w')) = ((e = .normal ∧ S w' ∧ wpAnyH P .any (l0 ++ [mute o]).toArray (CutQ P l0 o Q) S fu (listed.setIfInBounds i true) a' w') ∨ (e ≠ .normal ∧ CutQ P l0 o Q e a' w')) := fun e a' w' => propext ⟨fun hh => hh.imp id fun hh => ⟨hh.1, .inr hh⟩, fun hh => hh.imp id fun hh => ⟨hh.1, hh.2.elim (fun h => absurd h.1 hh.1) (fun h => h.2)⟩⟩
  simp only [hc] at h'
  exact wpOp_plain (K := fun a' w' => S w' ∧ wpAnyH P .any (l0 ++ [mute o]).toArray (CutQ P l0 o Q) S fu (listed.setIfInBounds i true) a' w') hx h'
theorem any_last {P : Program} {ops : Array Oper} {l0 : List Oper} {o : Oper} {Q : Exit → Act → World → Prop} {S : World → Prop} {listed : Array Bool} {a : Act} {w : World} (hops : ops = (l0 ++ [mute o]).toArray) (hd : o.dst = none) (hg : o.guard = none) (hB : chainB ops [l0.length] listed = true) (hS : S w) (h : wpList P (l0 ++ [o]).toArray Q [o] a w) :
    wpAnyH P .any ops (CutQ P l0 o Q) S 1 listed a w := by
  subst hops
  exact loud_any hd hg [] [] 0 listed a w (fun j hj => absurd hj (by simp)) hB hS h
theorem all_two {p : Nat → Prop} {i j : Nat} (hi : p i) (hj : p j) : ∀ k, k ∈ [i, j] → p k := fun k hk => by
  rcases (show k = i ∨ k = j by simpa using hk) with h | h <;> subst h <;> assumption
theorem all_one {p : Nat → Prop} {i : Nat} (hi : p i) : ∀ k, k ∈ [i] → p k := fun k hk => by
  obtain rfl : k = i := by simpa using hk
  exact hi
/-- A load in the quiet walk, by its own run. -/
theorem quiet_load {P : Program} {ops : Array Oper} {C : World → Prop} {Q : Act → Prop} {a : Act} {o : Oper} {rest : List Oper} (hg : o.guard = none) (ty : TypeId) (x : Operand) (ho : o.op = .load ty x) (ad : Addr) (hx : a.eval x = .pointer (some ad)) (v : Value) (h : ∀ w, C w → (Instr.loadAt ty (.pointer (some ad))).run P w = .ok v w) (hK : wpQuiet P ops C Q rest (a.put o.dst v)) : wpQuiet P ops C Q (o :: rest) a := by
  have hw : Region.wanted o (yielded ops a.tmps) = true := by simp [Region.wanted, hg]
  refine wpQuiet_step fun K hk => ?_
  rw [if_pos hw]
  refine ⟨v, fun w hC => ?_, hk _ hK⟩
  unfold Oper.quietAt execOp
  simp only [ho, hx]
  rw [Sem.run_bind, h w hC]
  exact ⟨rfl, rfl⟩
theorem run_slice59 (g o i : Nat) (hi : i < 16) (w : World) : (Instr.sliceAt 43 (.pointer (some ⟨g, o, none⟩)) (some (.int .i64 (i : Int))) none none).run Try.prog w = .ok (.slice (some ⟨g, o + i, none⟩) (16 - i) (16 - i)) w := by
  have hu : Try.prog.underlying 43 = some (.array (Try.prog.arrayLen 43) (Try.prog.elem 43)) := by kernel_rfl
  have ha : Try.prog.arrayLen 43 = 16 := by kernel_rfl
  have he : Try.prog.elem 43 = 5 := by kernel_rfl
  obtain ⟨i0, hin, _, hz1, _⟩ := info_parts Try.info5
  rw [run_sliceAt_array_l w 43 ⟨g, o, none⟩ hu .i64 (i : Int) (by omega) (by rw [ha]; omega), he, run_sizeOf w hin, Result.andThen_ok]
  simp only [slicedAt, ha, Int.toNat_natCast]
  rw [if_neg (by omega), Addr.add_mid, show Try.prog.cellsOf 5 = 1 by kernel_rfl, Nat.mul_one]
theorem run_slice59' (g i : Nat) (hi : i < 16) (w : World) : (Instr.sliceAt 43 (.pointer (some ⟨g, 0, none⟩)) (some (.int .i64 (i : Int))) none none).run Try.prog w = .ok (.slice (some ⟨g, i, none⟩) (16 - i) (16 - i)) w := by
  rw [run_slice59 g 0 i hi w, Nat.zero_add]
end Go.Proofs.Ytckegkknheignaa
