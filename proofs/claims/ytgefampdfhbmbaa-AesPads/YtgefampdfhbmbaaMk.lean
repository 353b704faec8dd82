/- Texts of one proof, one behind the other. -/
import Derived.Test.YtgefampdfhbmbaaMj
import Derived.Deep.MidRow
import Derived.Test.YtgefampdfhbmbaaMh
/- What the program's blocks answer: with, eachByte, Shift, Unshift. -/
namespace Go.Proofs.Ytgefampdfhbmbaa
open Go.RowKit
set_option linter.unusedVariables false

theorem Try.zero59 : (Try.prog.info? 59).map (fun i => (i.zero, i.size)) = some (some (.agg (rowZ .u8 16 (fun _ => 0))), 16) := by kernel_rfl
theorem index16 (C : Array Value) (k : Nat) (u : Value) (hk : k < 16) (h : C[k]? = some u) (w : World) : (Instr.index 59 (.agg C) (.int .i64 (k : Int))).run Try.prog w = .ok u w := by
  have hu : Try.prog.underlying 59 = some (.array 16 5) := by kernel_rfl
  have hpk : Try.prog.plainKey 5 = true := by kernel_rfl
  have hc : Try.prog.cellsOf 5 = 1 := by kernel_rfl
  obtain ⟨i0, hi, _⟩ := info_parts Try.info5
  have hn : (0 : Int) ≤ (k : Int) ∧ (k : Int) < ((16 : Nat) : Int) := by omega
  have hp := run_part_plain (P := Try.prog) (w := w) hpk (xs := C) (off := k) (v := u) h
  simp only [Instr.index, asIntOf, Sem.run_bind, Sem.run_pure, Result.andThen_ok, run_underlying hu, if_pos hn, run_sizeOf w hi, hc, Nat.mul_one, Int.toNat_natCast, hp]
theorem RowZ.other {w : World} {g h n : Nat} {kd : IntKind} {ty : TypeId} {f : Nat → Int} (hr : RowZ w h kd n ty f) (hne : h ≠ g) (k : Nat) (v : Value) : RowZ (w.setCell ⟨g, k, none⟩ v) h kd n ty f := (heap_setCell_other w ⟨g, k, none⟩ h v hne).trans hr
/-- One cell of a row of bytes made anew. -/
theorem row_step {w : World} {g n k : Nat} {ty : TypeId} {a r : Nat → UInt8} (h : RowZ w g .u8 n ty (fun i => ((if i < k then r i else a i : UInt8).toNat : Int))) (hk : k < n) : RowZ (w.setCell ⟨g, k, none⟩ (.int .u8 ((r k).toNat : Int))) g .u8 n ty (fun i => ((if i < k + 1 then r i else a i : UInt8).toNat : Int)) := by
  refine (h.set hk _).congr fun i hi => ?_
  by_cases he : i = k
  · subst he; rw [if_pos rfl, if_pos (by omega)]
  · rw [if_neg he]
    by_cases h2 : i < k
    · rw [if_pos h2, if_pos (by omega)]
    · rw [if_neg h2, if_neg (by omega)]
theorem place_any (k : Nat) (hk : k < 16) (w : World) : Calls Try.prog 59 #[.int .i64 (k : Int)] w fun e w' => e = .returned (.int .i64 ((shI k : Nat) : Int)) ∧ w' = w := by
  have h1 : (k : Int).tmod 4 = ((k % 4 : Nat) : Int) := by rw [Int.tmod_eq_emod_of_nonneg (by omega)]; omega
  have h2 : ((k : Int) + ((k % 4 : Nat) : Int) * 4).tmod 16 = ((shI k : Nat) : Int) := by
    rw [Int.tmod_eq_emod_of_nonneg (by omega)]
    unfold shI
    omega
  have hb : k % 4 < 4 := Nat.mod_lt _ (by omega)
  generalize k % 4 = r at *
  generalize shI k = R at *
  go_enter Try.func59, Try.ntmps59
  go_wp2_with fail
  go_ret
  exact ⟨rfl, rfl⟩
set_option maxRecDepth 100000 in
set_option maxHeartbeats 800000 in
theorem pWith_any (a b : Nat → UInt8) (w : World) : Calls Try.prog 51 #[.agg (bR a), .agg (bR b)] w fun e w' => e = .returned (.agg (bR (xoB a b))) ∧ Below w.heap.size w w' := by
  obtain ⟨hz, hsz⟩ := zero_of_info Try.zero59
  have hs1 : (bR a).size = 16 := rowZ_size _ _ _
  have hs2 : (bR b).size = 16 := rowZ_size _ _ _
  have hib : (Try.prog.info? 59).map (·.size) = some (bR b).size := by rw [hsz, hs2]
  have HIX : Hid (∀ k : Nat, k < 16 → ∀ w, (Instr.index 59 (.agg (bR b)) (.int .i64 (k : Int))).run Try.prog w = .ok (.int .u8 ((b k).toNat : Int)) w) := fun k hk w => index16 _ k _ hk (rowZ_get .u8 16 _ k hk) w
  obtain ⟨b1, b2, b3, b4, b5⟩ := three_blocks w (bR a) (bR b) (rowZ .u8 16 (fun _ => 0)) 59
  have W1 := hidD b1
  have W2 := hidD b2
  have W3 := hidD b3
  have W4 := hidD b4
  clear b1 b2 b3 b4 b5
  go_enter Try.func51, Try.ntmps51
  go_wp2_with (refine wpList_load_row rfl 59 _ rfl (w.heap.size + 1) rfl 59 (bR b) (0, 0) _ W2.out Try.underlying59 rfl hib ?_)
  generalize hW : World.alloc _ (Obj.cells (rowZ .u8 16 (fun _ => 0)) (59 : TypeId)) = W
  have V1 : Hid (RowZ W w.heap.size .u8 16 59 (fun i => ((a i).toNat : Int))) := by rw [← hW]; exact W1.out
  have V3 : Hid (RowZ W (w.heap.size + 2) .u8 16 59 (fun _ => 0)) := by rw [← hW]; exact W3.out
  have V4 : Hid (Below w.heap.size w W) := by rw [← hW]; exact W4.out
  clear hW W1 W2 W3 W4
  rw [show w.heap.size + 1 + 1 = w.heap.size + 2 from rfl]
  generalize hg : w.heap.size = g at *
  have HG := hidD hg
  clear hg
  go_loopw [8] (fun i wr => ∃ k : Nat, k ≤ 16 ∧ i = .int .i64 k ∧ RowZ wr g .u8 16 59 (fun i => ((if i < k then xoB a b i else a i : UInt8).toNat : Int)) ∧ RowZ wr (g + 2) .u8 16 59 (fun _ => 0) ∧ Below g W wr) (fun i _ => 16 - (intOf i).toNat)
  case atStart => exact ⟨0, Nat.zero_le _, rfl, V1.out, V3.out, Below.refl _ _⟩
  case round =>
    obtain ⟨k, hk, rfl, hrow, hout, hbel⟩ := hrel
    by_cases hlt : k < 16
    · have hlti : (k : Int) < 16 := by omega
      have hix := fun w => HIX.out k hlt w
      have hcc : wr.cell? ⟨g, k, none⟩ = some (.int .u8 ((a k).toNat : Int)) := by have := hrow.cell hlt; rwa [if_neg (by omega)] at this
      have hfr := hrow.frozen k
      have hxr := u8_xor_nat (a k).toNat (b k).toNat (u8_lt _) (u8_lt _)
      rw [← UInt8.toNat_xor, show a k ^^^ b k = xoB a b k from rfl] at hxr
      have HST := hidD (row_step hrow hlt)
      have HSO : Hid (∀ v, RowZ (wr.setCell ⟨g, k, none⟩ v) (g + 2) .u8 16 59 (fun _ => 0)) := fun v => hout.other (by omega) k v
      have HSB : Hid (∀ v, Below g W (wr.setCell ⟨g, k, none⟩ v)) := fun v => below_setCell hbel (Nat.le_refl _) _ v
      generalize (xoB a b k).toNat = X at *
      generalize (a k).toNat = xa at *
      generalize (b k).toNat = xb at *
      clear hbel hrow hout
      go_wp2_with fail
      go_roundw
      case rel => exact ⟨k + 1, by omega, by go_num, HST.out, HSO.out _, HSB.out _⟩
      case measure => simp [intOf]; omega
    · obtain rfl : k = 16 := by omega
      have HL : Hid (wr.heap[g]? = some (.cells (bR (xoB a b)) (59 : TypeId) (0, 0))) := hrow.congr fun i hi => by rw [if_pos hi]
      have HO : Hid (wr.heap[g + 2]? = some (.cells (rowZ .u8 16 (fun _ => 0)) (59 : TypeId) (0, 0))) := hout
      have HONE : Hid ((bR (xoB a b)).all (·.oneCell') = true) := rowZ_one _ _ _
      have h4 : (bR (xoB a b)).size = 16 := rowZ_size _ _ _
      have h0 : (rowZ .u8 16 (fun _ => 0)).size = 16 := rowZ_size _ _ _
      have HBG : Hid (Below g w wr) := V4.out.trans hbel
      clear hrow hbel hout
      generalize hC : bR (xoB a b) = C at *
      have HCE := hidD hC
      clear hC
      generalize (rowZ .u8 16 (fun _ => 0)) = C0 at *
      have hi : (Try.prog.info? 59).map (·.size) = some C.size := by rw [hsz, h4]
      go_wp2_with (first | (refine wpList_load_row rfl 59 _ rfl (g) rfl 59 C (0, 0) _ HL.out Try.underlying59 rfl hi ?_) | (refine wpList_store_row rfl 59 _ _ rfl (g + 2) C rfl rfl 59 C0 HO.out hi (by rw [h0, h4]) HONE.out ?_))
      refine bodyPost_ret (results_cell_row (P := Try.prog) (p := 4) (ty := 59) (by kernel_rfl) _ _ (g + 2) 59 C (0, 0) _ rfl (setRow_heap _ _ C0 C 59 (0, 0) HO.out) Try.underlying59 rfl hi) rfl ?_
      refine ⟨by rw [HCE.out], ?_⟩
      have hfin : Below g w (wr.setRow (g + 2) C) := below_setRow HBG.out (by omega) _
      rw [HG.out]; exact hfin
set_option maxRecDepth 100000 in
set_option maxHeartbeats 800000 in
theorem pEachSub_any (b : Nat → UInt8) (w : World) : Calls Try.prog 67 #[.agg (bR b), .func (.func 68) #[] #[]] w fun e w' => e = .returned (.agg (bR (sbB b))) ∧ Below w.heap.size w w' := by
  obtain ⟨hz, hsz⟩ := zero_of_info Try.zero59
  have hs1 : (bR b).size = 16 := rowZ_size _ _ _
  have hib : (Try.prog.info? 59).map (·.size) = some (bR b).size := by rw [hsz, hs1]
  have HIX : Hid (∀ k : Nat, k < 16 → ∀ w, (Instr.index 59 (.agg (bR b)) (.int .i64 (k : Int))).run Try.prog w = .ok (.int .u8 ((b k).toNat : Int)) w) := fun k hk w => index16 _ k _ hk (rowZ_get .u8 16 _ k hk) w
  have HC : Hid (∀ k w, Calls Try.prog 68 #[.int .u8 ((b k).toNat : Int)] w fun e w' => e = .returned (.int .u8 ((sbB b k).toNat : Int)) ∧ Below w.heap.size w w') := fun k w => by
    exact pSub_any (b k) w
  obtain ⟨b1, b2, b3, b4⟩ := two_blocks w (bR b) (rowZ .u8 16 (fun _ => 0)) 59
  have W1 := hidD b1
  have W2 := hidD b2
  have W3 := hidD b3
  clear b1 b2 b3 b4
  go_enter Try.func67, Try.ntmps67
  go_wp2_with (refine wpList_load_row rfl 59 _ rfl w.heap.size rfl 59 (bR b) (0, 0) _ W1.out Try.underlying59 rfl hib ?_)
  generalize hW : World.alloc _ (Obj.cells (rowZ .u8 16 (fun _ => 0)) (59 : TypeId)) = W
  have V1 : Hid (RowZ W w.heap.size .u8 16 59 (fun i => ((b i).toNat : Int))) := by rw [← hW]; exact W1.out
  have V3 : Hid (RowZ W (w.heap.size + 1) .u8 16 59 (fun _ => 0)) := by rw [← hW]; exact W2.out
  have V4 : Hid (Below w.heap.size w W) := by rw [← hW]; exact W3.out
  clear hW W1 W2 W3
  generalize hg : w.heap.size = g at *
  have HG := hidD hg
  clear hg
  go_loopw [8] (fun i wr => ∃ k : Nat, k ≤ 16 ∧ i = .int .i64 k ∧ RowZ wr g .u8 16 59 (fun i => ((if i < k then sbB b i else b i : UInt8).toNat : Int)) ∧ RowZ wr (g + 1) .u8 16 59 (fun _ => 0) ∧ Below g W wr) (fun i _ => 16 - (intOf i).toNat)
  case atStart => exact ⟨0, Nat.zero_le _, rfl, V1.out, V3.out, Below.refl _ _⟩
  case round =>
    obtain ⟨k, hk, rfl, hrow, hout, hbel⟩ := hrel
    by_cases hlt : k < 16
    · have hlti : (k : Int) < 16 := by omega
      have hix := fun w => HIX.out k hlt w
      have HCK := hidD (fun w => HC.out k w)
      have HRW := hidD hrow
      have HOT := hidD hout
      have HBL := hidD hbel
      have HK := hidD hlt
      generalize (b k).toNat = xb at *
      generalize hX : (sbB b k).toNat = X at *
      have HX := hidD hX
      clear hbel hrow hout hX
      go_wp2_with (go_at_call 68; refine (HCK.out _).mono ?_; rintro e w3 ⟨rfl, hb3⟩; have HR3 := hidD (HRW.out.next hb3); have HO3 := hidD (HOT.out.next hb3); have HB3 : Hid (Below g W w3) := HBL.out.trans (hb3.mono (Nat.le_of_lt HRW.out.lt)); have hcc := HR3.out.cell HK.out; have hfr := HR3.out.frozen k; clear hb3)
      go_roundw
      case rel => exact ⟨k + 1, by omega, by go_num, by rw [← HX.out]; exact row_step HR3.out HK.out, HO3.out.other (by omega) k _, below_setCell HB3.out (Nat.le_refl _) _ _⟩
      case measure => simp [intOf]; omega
    · obtain rfl : k = 16 := by omega
      have HL : Hid (wr.heap[g]? = some (.cells (bR (sbB b)) (59 : TypeId) (0, 0))) := hrow.congr fun i hi => by rw [if_pos hi]
      have HO : Hid (wr.heap[g + 1]? = some (.cells (rowZ .u8 16 (fun _ => 0)) (59 : TypeId) (0, 0))) := hout
      have HONE : Hid ((bR (sbB b)).all (·.oneCell') = true) := rowZ_one _ _ _
      have h4 : (bR (sbB b)).size = 16 := rowZ_size _ _ _
      have h0 : (rowZ .u8 16 (fun _ => 0)).size = 16 := rowZ_size _ _ _
      have HBG : Hid (Below g w wr) := V4.out.trans hbel
      clear hrow hbel hout
      generalize hC : bR (sbB b) = C at *
      have HCE := hidD hC
      clear hC
      generalize (rowZ .u8 16 (fun _ => 0)) = C0 at *
      have hi : (Try.prog.info? 59).map (·.size) = some C.size := by rw [hsz, h4]
      go_wp2_with (first | (refine wpList_load_row rfl 59 _ rfl (g) rfl 59 C (0, 0) _ HL.out Try.underlying59 rfl hi ?_) | (refine wpList_store_row rfl 59 _ _ rfl (g + 1) C rfl rfl 59 C0 HO.out hi (by rw [h0, h4]) HONE.out ?_))
      refine bodyPost_ret (results_cell_row (P := Try.prog) (p := 4) (ty := 59) (by kernel_rfl) _ _ (g + 1) 59 C (0, 0) _ rfl (setRow_heap _ _ C0 C 59 (0, 0) HO.out) Try.underlying59 rfl hi) rfl ?_
      refine ⟨by rw [HCE.out], ?_⟩
      have hfin : Below g w (wr.setRow (g + 1) C) := below_setRow HBG.out (by omega) _
      rw [HG.out]; exact hfin
set_option maxRecDepth 100000 in
set_option maxHeartbeats 800000 in
theorem pEachUnsub_any (b : Nat → UInt8) (w : World) : Calls Try.prog 67 #[.agg (bR b), .func (.func 78) #[] #[]] w fun e w' => e = .returned (.agg (bR (ubB b))) ∧ Below w.heap.size w w' := by
  obtain ⟨hz, hsz⟩ := zero_of_info Try.zero59
  have hs1 : (bR b).size = 16 := rowZ_size _ _ _
  have hib : (Try.prog.info? 59).map (·.size) = some (bR b).size := by rw [hsz, hs1]
  have HIX : Hid (∀ k : Nat, k < 16 → ∀ w, (Instr.index 59 (.agg (bR b)) (.int .i64 (k : Int))).run Try.prog w = .ok (.int .u8 ((b k).toNat : Int)) w) := fun k hk w => index16 _ k _ hk (rowZ_get .u8 16 _ k hk) w
  have HC : Hid (∀ k w, Calls Try.prog 78 #[.int .u8 ((b k).toNat : Int)] w fun e w' => e = .returned (.int .u8 ((ubB b k).toNat : Int)) ∧ Below w.heap.size w w') := fun k w => by
    have h := pUnsub_any (b k) w
    rw [show ((ubB b k).toNat : Int) = (unsS (b k) : Int) by unfold ubB; exact congrArg (fun n : Nat => (n : Int)) (u8_nat (us_sb (u8_lt (b k))).2.2.1)]
    exact h
  obtain ⟨b1, b2, b3, b4⟩ := two_blocks w (bR b) (rowZ .u8 16 (fun _ => 0)) 59
  have W1 := hidD b1
  have W2 := hidD b2
  have W3 := hidD b3
  clear b1 b2 b3 b4
  go_enter Try.func67, Try.ntmps67
  go_wp2_with (refine wpList_load_row rfl 59 _ rfl w.heap.size rfl 59 (bR b) (0, 0) _ W1.out Try.underlying59 rfl hib ?_)
  generalize hW : World.alloc _ (Obj.cells (rowZ .u8 16 (fun _ => 0)) (59 : TypeId)) = W
  have V1 : Hid (RowZ W w.heap.size .u8 16 59 (fun i => ((b i).toNat : Int))) := by rw [← hW]; exact W1.out
  have V3 : Hid (RowZ W (w.heap.size + 1) .u8 16 59 (fun _ => 0)) := by rw [← hW]; exact W2.out
  have V4 : Hid (Below w.heap.size w W) := by rw [← hW]; exact W3.out
  clear hW W1 W2 W3
  generalize hg : w.heap.size = g at *
  have HG := hidD hg
  clear hg
  go_loopw [8] (fun i wr => ∃ k : Nat, k ≤ 16 ∧ i = .int .i64 k ∧ RowZ wr g .u8 16 59 (fun i => ((if i < k then ubB b i else b i : UInt8).toNat : Int)) ∧ RowZ wr (g + 1) .u8 16 59 (fun _ => 0) ∧ Below g W wr) (fun i _ => 16 - (intOf i).toNat)
  case atStart => exact ⟨0, Nat.zero_le _, rfl, V1.out, V3.out, Below.refl _ _⟩
  case round =>
    obtain ⟨k, hk, rfl, hrow, hout, hbel⟩ := hrel
    by_cases hlt : k < 16
    · have hlti : (k : Int) < 16 := by omega
      have hix := fun w => HIX.out k hlt w
      have HCK := hidD (fun w => HC.out k w)
      have HRW := hidD hrow
      have HOT := hidD hout
      have HBL := hidD hbel
      have HK := hidD hlt
      generalize (b k).toNat = xb at *
      generalize hX : (ubB b k).toNat = X at *
      have HX := hidD hX
      clear hbel hrow hout hX
      go_wp2_with (go_at_call 78; refine (HCK.out _).mono ?_; rintro e w3 ⟨rfl, hb3⟩; have HR3 := hidD (HRW.out.next hb3); have HO3 := hidD (HOT.out.next hb3); have HB3 : Hid (Below g W w3) := HBL.out.trans (hb3.mono (Nat.le_of_lt HRW.out.lt)); have hcc := HR3.out.cell HK.out; have hfr := HR3.out.frozen k; clear hb3)
      go_roundw
      case rel => exact ⟨k + 1, by omega, by go_num, by rw [← HX.out]; exact row_step HR3.out HK.out, HO3.out.other (by omega) k _, below_setCell HB3.out (Nat.le_refl _) _ _⟩
      case measure => simp [intOf]; omega
    · obtain rfl : k = 16 := by omega
      have HL : Hid (wr.heap[g]? = some (.cells (bR (ubB b)) (59 : TypeId) (0, 0))) := hrow.congr fun i hi => by rw [if_pos hi]
      have HO : Hid (wr.heap[g + 1]? = some (.cells (rowZ .u8 16 (fun _ => 0)) (59 : TypeId) (0, 0))) := hout
      have HONE : Hid ((bR (ubB b)).all (·.oneCell') = true) := rowZ_one _ _ _
      have h4 : (bR (ubB b)).size = 16 := rowZ_size _ _ _
      have h0 : (rowZ .u8 16 (fun _ => 0)).size = 16 := rowZ_size _ _ _
      have HBG : Hid (Below g w wr) := V4.out.trans hbel
      clear hrow hbel hout
      generalize hC : bR (ubB b) = C at *
      have HCE := hidD hC
      clear hC
      generalize (rowZ .u8 16 (fun _ => 0)) = C0 at *
      have hi : (Try.prog.info? 59).map (·.size) = some C.size := by rw [hsz, h4]
      go_wp2_with (first | (refine wpList_load_row rfl 59 _ rfl (g) rfl 59 C (0, 0) _ HL.out Try.underlying59 rfl hi ?_) | (refine wpList_store_row rfl 59 _ _ rfl (g + 1) C rfl rfl 59 C0 HO.out hi (by rw [h0, h4]) HONE.out ?_))
      refine bodyPost_ret (results_cell_row (P := Try.prog) (p := 4) (ty := 59) (by kernel_rfl) _ _ (g + 1) 59 C (0, 0) _ rfl (setRow_heap _ _ C0 C 59 (0, 0) HO.out) Try.underlying59 rfl hi) rfl ?_
      refine ⟨by rw [HCE.out], ?_⟩
      have hfin : Below g w (wr.setRow (g + 1) C) := below_setRow HBG.out (by omega) _
      rw [HG.out]; exact hfin
end Go.Proofs.Ytgefampdfhbmbaa
/- What the program's blocks answer: with, eachByte, Shift, Unshift. -/
namespace Go.Proofs.Ytgefampdfhbmbaa
open Go.RowKit
set_option linter.unusedVariables false

set_option maxRecDepth 100000 in
set_option maxHeartbeats 800000 in
theorem pShift_any (b : Nat → UInt8) (w : World) : Calls Try.prog 35 #[.agg (bR b)] w fun e w' => e = .returned (.agg (bR (shB b))) ∧ Below w.heap.size w w' := by
  obtain ⟨hz, hsz⟩ := zero_of_info Try.zero50
  have hs1 : (bR b).size = 16 := rowZ_size _ _ _
  have hs0 : (rowZ .u8 16 (fun _ => 0)).size = 16 := rowZ_size _ _ _
  have hib : (Try.prog.info? 50).map (·.size) = some (bR b).size := by rw [hsz, hs1]
  have HONEB : Hid ((bR b).all (·.oneCell') = true) := rowZ_one _ _ _
  have HP := hidD (fun k hk w => place_any k hk w)
  obtain ⟨b1, b2, b3, b4, b5⟩ := three_blocks w (bR b) (rowZ .u8 16 (fun _ => 0)) (rowZ .u8 16 (fun _ => 0)) 50
  have W1 := hidD b1
  have W2 := hidD b2
  have W3 := hidD b3
  have W4 := hidD b4
  obtain ⟨c1, c2, c3, c4⟩ := two_blocks w (bR b) (rowZ .u8 16 (fun _ => 0)) 50
  have Y1 := hidD c1
  clear b1 b2 b3 b4 b5 c1 c2 c3 c4
  go_enter Try.func35, Try.ntmps35
  go_wp2_with (first | (refine wpList_load_row rfl 50 _ rfl w.heap.size rfl 50 (bR b) (0, 0) _ Y1.out Try.underlying50 rfl hib ?_) | (refine wpList_store_row rfl 50 _ _ rfl (w.heap.size + 1 + 1) (bR b) rfl rfl 50 (rowZ .u8 16 (fun _ => 0)) W3.out hib (by rw [hs0, hs1]) HONEB.out ?_))
  have V0 : Hid (RowZ (World.setRow (((w.alloc (.cells (bR b) (50 : TypeId))).alloc (.cells (rowZ .u8 16 (fun _ => 0)) (50 : TypeId))).alloc (.cells (rowZ .u8 16 (fun _ => 0)) (50 : TypeId))) (w.heap.size + 1 + 1) (bR b)) (w.heap.size + 2) .u8 16 50 (fun i => ((b i).toNat : Int))) := setRow_heap _ _ (rowZ .u8 16 (fun _ => 0)) (bR b) 50 (0, 0) W3.out
  have V1 : Hid (RowZ (World.setRow (((w.alloc (.cells (bR b) (50 : TypeId))).alloc (.cells (rowZ .u8 16 (fun _ => 0)) (50 : TypeId))).alloc (.cells (rowZ .u8 16 (fun _ => 0)) (50 : TypeId))) (w.heap.size + 1 + 1) (bR b)) w.heap.size .u8 16 50 (fun i => ((b i).toNat : Int))) := ((below_setRow (Below.refl _ _) (Nat.le_refl _) _).block w.heap.size (by omega)).trans W1.out
  have V2 : Hid (RowZ (World.setRow (((w.alloc (.cells (bR b) (50 : TypeId))).alloc (.cells (rowZ .u8 16 (fun _ => 0)) (50 : TypeId))).alloc (.cells (rowZ .u8 16 (fun _ => 0)) (50 : TypeId))) (w.heap.size + 1 + 1) (bR b)) (w.heap.size + 1) .u8 16 50 (fun _ => 0)) := ((below_setRow (Below.refl _ _) (Nat.le_refl _) _).block (w.heap.size + 1) (by omega)).trans W2.out
  have V4 : Hid (Below w.heap.size w (World.setRow (((w.alloc (.cells (bR b) (50 : TypeId))).alloc (.cells (rowZ .u8 16 (fun _ => 0)) (50 : TypeId))).alloc (.cells (rowZ .u8 16 (fun _ => 0)) (50 : TypeId))) (w.heap.size + 1 + 1) (bR b))) := below_setRow W4.out (by omega) _
  clear W1 W2 W3 W4 Y1
  generalize hW : World.setRow _ _ (bR b) = W at *
  clear hW
  rw [show w.heap.size + 1 + 1 = w.heap.size + 2 from rfl]
  generalize hg : w.heap.size = g at *
  have HG := hidD hg
  clear hg
  go_loopw [6] (fun i wr => ∃ k : Nat, k ≤ 16 ∧ i = .int .i64 k ∧ RowZ wr (g + 2) .u8 16 50 (fun i => ((if i < k then shB b i else b i : UInt8).toNat : Int)) ∧ Below (g + 2) W wr) (fun i _ => 16 - (intOf i).toNat)
  case atStart => exact ⟨0, Nat.zero_le _, rfl, V0.out, Below.refl _ _⟩
  case round =>
    obtain ⟨k, hk, rfl, hrow, hbel⟩ := hrel
    by_cases hlt : k < 16
    · have hlti : (k : Int) < 16 := by omega
      have hj : shI k < 16 := by unfold shI; omega
      have hca : wr.cell? ⟨g, shI k, none⟩ = some (.int .u8 ((shB b k).toNat : Int)) := (V1.out.below hbel (by omega)).cell hj
      have hcc := hrow.cell hlt
      have hfr := hrow.frozen k
      have HPK := hidD (fun w => HP.out k hlt w)
      have HST := hidD (row_step hrow hlt)
      have HSB : Hid (∀ v, Below (g + 2) W (wr.setCell ⟨g + 2, k, none⟩ v)) := fun v => below_setCell hbel (Nat.le_refl _) _ v
      generalize (shB b k).toNat = X at *
      generalize shI k = J at *
      clear hbel hrow
      go_wp2_with (go_at_call 59; refine (HPK.out _).mono ?_; rintro e w3 ⟨rfl, rfl⟩)
      go_roundw
      case rel => exact ⟨k + 1, by omega, by go_num, HST.out, HSB.out _⟩
      case measure => simp [intOf]; omega
    · obtain rfl : k = 16 := by omega
      have hout : RowZ wr (g + 1) .u8 16 50 (fun _ => 0) := V2.out.below hbel (by omega)
      replace hbel := hbel.mono (show g ≤ g + 2 by omega)
      have HL : Hid (wr.heap[g + 2]? = some (.cells (bR (shB b)) (50 : TypeId) (0, 0))) := hrow.congr fun i hi => by rw [if_pos hi]
      have HO : Hid (wr.heap[g + 1]? = some (.cells (rowZ .u8 16 (fun _ => 0)) (50 : TypeId) (0, 0))) := hout
      have HONE : Hid ((bR (shB b)).all (·.oneCell') = true) := rowZ_one _ _ _
      have h4 : (bR (shB b)).size = 16 := rowZ_size _ _ _
      have h0 : (rowZ .u8 16 (fun _ => 0)).size = 16 := rowZ_size _ _ _
      have HBG : Hid (Below g w wr) := V4.out.trans hbel
      clear hrow hbel hout
      generalize hC : bR (shB b) = C at *
      have HCE := hidD hC
      clear hC
      generalize (rowZ .u8 16 (fun _ => 0)) = C0 at *
      have hi : (Try.prog.info? 50).map (·.size) = some C.size := by rw [hsz, h4]
      go_wp2_with (first | (refine wpList_load_row rfl 50 _ rfl (g + 2) rfl 50 C (0, 0) _ HL.out Try.underlying50 rfl hi ?_) | (refine wpList_store_row rfl 50 _ _ rfl (g + 1) C rfl rfl 50 C0 HO.out hi (by rw [h0, h4]) HONE.out ?_))
      refine bodyPost_ret (results_cell_row (P := Try.prog) (p := 2) (ty := 50) (by kernel_rfl) _ _ (g + 1) 50 C (0, 0) _ rfl (setRow_heap _ _ C0 C 50 (0, 0) HO.out) Try.underlying50 rfl hi) rfl ?_
      refine ⟨by rw [HCE.out], ?_⟩
      have hfin : Below g w (wr.setRow (g + 1) C) := below_setRow HBG.out (by omega) _
      rw [HG.out]; exact hfin
set_option maxRecDepth 100000 in
set_option maxHeartbeats 800000 in
theorem pUnshift_any (b : Nat → UInt8) (w : World) : Calls Try.prog 37 #[.agg (bR b)] w fun e w' => e = .returned (.agg (bR (usB b))) ∧ Below w.heap.size w w' := by
  obtain ⟨hz, hsz⟩ := zero_of_info Try.zero50
  have hs1 : (bR b).size = 16 := rowZ_size _ _ _
  have hs0 : (rowZ .u8 16 (fun _ => 0)).size = 16 := rowZ_size _ _ _
  have hib : (Try.prog.info? 50).map (·.size) = some (bR b).size := by rw [hsz, hs1]
  have HONEB : Hid ((bR b).all (·.oneCell') = true) := rowZ_one _ _ _
  have HP := hidD (fun k hk w => place_any k hk w)
  obtain ⟨b1, b2, b3, b4, b5⟩ := three_blocks w (bR b) (rowZ .u8 16 (fun _ => 0)) (rowZ .u8 16 (fun _ => 0)) 50
  have W1 := hidD b1
  have W2 := hidD b2
  have W3 := hidD b3
  have W4 := hidD b4
  obtain ⟨c1, c2, c3, c4⟩ := two_blocks w (bR b) (rowZ .u8 16 (fun _ => 0)) 50
  have Y1 := hidD c1
  clear b1 b2 b3 b4 b5 c1 c2 c3 c4
  go_enter Try.func37, Try.ntmps37
  go_wp2_with (first | (refine wpList_load_row rfl 50 _ rfl w.heap.size rfl 50 (bR b) (0, 0) _ Y1.out Try.underlying50 rfl hib ?_) | (refine wpList_store_row rfl 50 _ _ rfl (w.heap.size + 1 + 1) (bR b) rfl rfl 50 (rowZ .u8 16 (fun _ => 0)) W3.out hib (by rw [hs0, hs1]) HONEB.out ?_))
  have V0 : Hid (RowZ (World.setRow (((w.alloc (.cells (bR b) (50 : TypeId))).alloc (.cells (rowZ .u8 16 (fun _ => 0)) (50 : TypeId))).alloc (.cells (rowZ .u8 16 (fun _ => 0)) (50 : TypeId))) (w.heap.size + 1 + 1) (bR b)) (w.heap.size + 2) .u8 16 50 (fun i => ((b i).toNat : Int))) := setRow_heap _ _ (rowZ .u8 16 (fun _ => 0)) (bR b) 50 (0, 0) W3.out
  have V1 : Hid (RowZ (World.setRow (((w.alloc (.cells (bR b) (50 : TypeId))).alloc (.cells (rowZ .u8 16 (fun _ => 0)) (50 : TypeId))).alloc (.cells (rowZ .u8 16 (fun _ => 0)) (50 : TypeId))) (w.heap.size + 1 + 1) (bR b)) w.heap.size .u8 16 50 (fun i => ((b i).toNat : Int))) := ((below_setRow (Below.refl _ _) (Nat.le_refl _) _).block w.heap.size (by omega)).trans W1.out
  have V2 : Hid (RowZ (World.setRow (((w.alloc (.cells (bR b) (50 : TypeId))).alloc (.cells (rowZ .u8 16 (fun _ => 0)) (50 : TypeId))).alloc (.cells (rowZ .u8 16 (fun _ => 0)) (50 : TypeId))) (w.heap.size + 1 + 1) (bR b)) (w.heap.size + 1) .u8 16 50 (fun _ => 0)) := ((below_setRow (Below.refl _ _) (Nat.le_refl _) _).block (w.heap.size + 1) (by omega)).trans W2.out
  have V4 : Hid (Below w.heap.size w (World.setRow (((w.alloc (.cells (bR b) (50 : TypeId))).alloc (.cells (rowZ .u8 16 (fun _ => 0)) (50 : TypeId))).alloc (.cells (rowZ .u8 16 (fun _ => 0)) (50 : TypeId))) (w.heap.size + 1 + 1) (bR b))) := below_setRow W4.out (by omega) _
  clear W1 W2 W3 W4 Y1
  generalize hW : World.setRow _ _ (bR b) = W at *
  clear hW
  rw [show w.heap.size + 1 + 1 = w.heap.size + 2 from rfl]
  generalize hg : w.heap.size = g at *
  have HG := hidD hg
  clear hg
  go_loopw [6] (fun i wr => ∃ k : Nat, k ≤ 16 ∧ i = .int .i64 k ∧ RowZ wr (g + 2) .u8 16 50 (fun i => ((if usI i < k then usB b i else b i : UInt8).toNat : Int)) ∧ Below (g + 2) W wr) (fun i _ => 16 - (intOf i).toNat)
  case atStart => exact ⟨0, Nat.zero_le _, rfl, V0.out, Below.refl _ _⟩
  case round =>
    obtain ⟨k, hk, rfl, hrow, hbel⟩ := hrel
    by_cases hlt : k < 16
    · have hlti : (k : Int) < 16 := by omega
      have hj : shI k < 16 := by unfold shI; omega
      have hca : ∀ i : BW wr, i.v.cell? ⟨g, k, none⟩ = some (.int .u8 ((b k).toNat : Int)) := fun i => (i.below.cell (p := ⟨g, k, none⟩) (V1.out.below hbel (by omega)).lt).trans ((V1.out.below hbel (by omega)).cell hlt)
      have hcc : ∀ i : BW wr, i.v.cell? ⟨g + 2, shI k, none⟩ = some (.int .u8 ((if usI (shI k) < k then usB b (shI k) else b (shI k) : UInt8).toNat : Int)) := fun i => (i.below.cell (p := ⟨g + 2, shI k, none⟩) hrow.lt).trans (hrow.cell hj)
      have hfr : ∀ i : BW wr, i.v.frozen? ⟨g + 2, shI k, none⟩ = false := fun i => (i.below.frozen (p := ⟨g + 2, shI k, none⟩) hrow.lt).trans (hrow.frozen _)
      have HPK : Hid (∀ w, Calls Try.prog 59 #[.int .i64 (k : Int)] w fun e w' => e = .returned (.int .i64 ((shI k : Nat) : Int)) ∧ Below w.heap.size w w') := fun w => (HP.out k hlt w).mono fun e w' h => ⟨h.1, by rw [h.2]; exact Below.refl _ _⟩
      have HST : Hid (∀ i : BW wr, RowZ (i.v.setCell ⟨g + 2, shI k, none⟩ (.int .u8 ((b k).toNat : Int))) (g + 2) .u8 16 50 (fun i => ((if usI i < k + 1 then usB b i else b i : UInt8).toNat : Int))) := fun i => by
        refine ((hrow.next i.below).set hj _).congr fun i hi => ?_
        by_cases he : i = shI k
        · subst he
          have h1 := (sh_us_at k hlt).2
          rw [if_pos rfl, if_pos (by omega)]
          show _ = ((b (usI (shI k))).toNat : Int)
          rw [h1]
        · rw [if_neg he]
          have h3 : usI i ≠ k := fun h => he (by rw [← h]; exact ((sh_us_at i hi).1).symm)
          by_cases h2 : usI i < k
          · rw [if_pos h2, if_pos (by omega)]
          · rw [if_neg h2, if_neg (by omega)]
      have HSB : Hid (∀ (i : BW wr) v, Below (g + 2) W (i.v.setCell ⟨g + 2, shI k, none⟩ v)) := fun i v => below_setCell (hbel.trans (i.below.mono (Nat.le_of_lt hrow.lt))) (Nat.le_refl _) _ v
      generalize ((if usI (shI k) < k then usB b (shI k) else b (shI k) : UInt8).toNat : Int) = Y at *
      generalize (b k).toNat = X at *
      generalize shI k = J at *
      clear hbel hrow
      go_wp2_with fail
      refine wp_region_put (by simp) (by kernel_rfl) rfl (by kernel_rfl) (by kernel_rfl) (by kernel_rfl) ?_
      simp only [List.dropLast_cons_cons, List.dropLast_singleton, List.getLast_cons_cons, List.getLast_singleton, List.cons_append, List.nil_append, mute]
      repeat (go_big_quiet_step ((go_at_call 59; exact Calls.below_of (HPK.out _))))
      refine wpQuiet_nil ?_
      intro i
      go_wp2_with fail
      go_roundw
      case rel => exact ⟨k + 1, by omega, by go_num, HST.out _, HSB.out _ _⟩
      case measure => simp [intOf]; omega
    · obtain rfl : k = 16 := by omega
      have hout : RowZ wr (g + 1) .u8 16 50 (fun _ => 0) := V2.out.below hbel (by omega)
      replace hbel := hbel.mono (show g ≤ g + 2 by omega)
      have hus : ∀ i, i < 16 → usI i < 16 := fun i hi => by unfold usI; omega
      have HL : Hid (wr.heap[g + 2]? = some (.cells (bR (usB b)) (50 : TypeId) (0, 0))) := hrow.congr fun i hi => by rw [if_pos (hus i hi)]
      have HO : Hid (wr.heap[g + 1]? = some (.cells (rowZ .u8 16 (fun _ => 0)) (50 : TypeId) (0, 0))) := hout
      have HONE : Hid ((bR (usB b)).all (·.oneCell') = true) := rowZ_one _ _ _
      have h4 : (bR (usB b)).size = 16 := rowZ_size _ _ _
      have h0 : (rowZ .u8 16 (fun _ => 0)).size = 16 := rowZ_size _ _ _
      have HBG : Hid (Below g w wr) := V4.out.trans hbel
      clear hrow hbel hout
      generalize hC : bR (usB b) = C at *
      have HCE := hidD hC
      clear hC
      generalize (rowZ .u8 16 (fun _ => 0)) = C0 at *
      have hi : (Try.prog.info? 50).map (·.size) = some C.size := by rw [hsz, h4]
      go_wp2_with (first | (refine wpList_load_row rfl 50 _ rfl (g + 2) rfl 50 C (0, 0) _ HL.out Try.underlying50 rfl hi ?_) | (refine wpList_store_row rfl 50 _ _ rfl (g + 1) C rfl rfl 50 C0 HO.out hi (by rw [h0, h4]) HONE.out ?_))
      refine bodyPost_ret (results_cell_row (P := Try.prog) (p := 2) (ty := 50) (by kernel_rfl) _ _ (g + 1) 50 C (0, 0) _ rfl (setRow_heap _ _ C0 C 50 (0, 0) HO.out) Try.underlying50 rfl hi) rfl ?_
      refine ⟨by rw [HCE.out], ?_⟩
      have hfin : Below g w (wr.setRow (g + 1) C) := below_setRow HBG.out (by omega) _
      rw [HG.out]; exact hfin
end Go.Proofs.Ytgefampdfhbmbaa
/- Bytes that are copied into a row, and rows that are made. -/
namespace Go.Proofs.Ytgefampdfhbmbaa
open Go.RowKit
set_option linter.unusedVariables false

theorem But.row {g : Nat} {a b : World} (h : But g a b) (C : Array Value) : But g a (b.setRow g C) := ⟨below_setRow h.bel (Nat.le_refl _) C, fun i hi hn => (setRow_other b g i C hn).trans (h.rest i hi hn)⟩
theorem But.size {g : Nat} {a b : World} (h : But g a b) : a.heap.size ≤ b.heap.size := h.bel.size
theorem RowZ.but {w w' : World} {g b n : Nat} {kd : IntKind} {ty : TypeId} {f : Nat → Int} (h : RowZ w b kd n ty f) (hb : But g w w') (hn : b ≠ g) : RowZ w' b kd n ty f := (hb.rest b h.lt hn).trans h
/-- copy into a row that is known whole: all but that block stays. -/
theorem wpList_copy_but {P : Program} {w : World} {ops : Array Oper} {rest : List Oper} {o : Oper} {a : Act} {Q : Exit → Act → World → Prop} (hgd : o.guard = none) (d s : Operand) (dT sT : TypeId)
    (ho : o.op = .call { callee := .builtin .copy, args := #[d, s], argTypes := #[dT, sT] }) (elem : TypeId) (hu : P.underlying dT = some (.slice elem)) (hsz : (P.info? elem).map (·.size) = some 1)
    (dp sp : Option Addr) (dLen dCap sLen sCap : Nat) (hd : a.eval d = .slice dp dLen dCap) (hs : a.eval s = .slice sp sLen sCap)
    (g off : Nat) (cur : List Value) (t : TypeId) (hg : w.heap[g]? = some (.cells cur.toArray t (0, 0))) (cs : List Value) (hn : cs.length = Nat.min sLen dLen)
    (hpos : 0 < cs.length → dp = some ⟨g, off, none⟩ ∧ ∃ sg so, sp = some ⟨sg, so, none⟩ ∧ w.rangeAt sg so cs)
    (hfit : off + cs.length ≤ cur.length) (h1 : ∀ v ∈ cs, v.oneCell' = true)
    (h : ∀ w', Hid (w'.heap[g]? = some (.cells (splice cur off cs).toArray t (0, 0))) → But g w w' → wpList P ops Q rest (a.put o.dst (goInt cs.length)) w') :
    wpList P ops Q (o :: rest) a w := by
  by_cases h0 : cs.length = 0
  · obtain rfl : cs = [] := List.eq_nil_of_length_eq_zero h0
    refine wpList_copy_nothing hgd d s dT sT ho elem hu hsz dp sp dLen dCap sLen sCap hd hs (by simpa using hn.symm) ?_
    exact h w (show _ = _ by simpa [splice] using hg) (But.refl _ _)
  · obtain ⟨rfl, sg, so, rfl, hsrc⟩ := hpos (by omega)
    refine wpList_copy_own hgd d s dT sT ho elem hu hsz g off dLen dCap ⟨sg, so, none⟩ sLen sCap hd hs cur.toArray t hg cs hn (fun j v hv => by rw [Addr.add_mid]; exact hsrc j v hv) (by simpa using hfit) h1 ?_
    exact h _ (show _ = _ by simpa [splice] using setRow_heap w g _ _ t _ hg) ((But.refl _ _).row _)
def lZ (kd : IntKind) (n : Nat) (f : Nat → Int) : List Value := (List.range n).map fun i => Value.int kd (f i)
theorem lZ_len (kd : IntKind) (n : Nat) (f : Nat → Int) : (lZ kd n f).length = n := by simp [lZ]
theorem lZ_get (kd : IntKind) (n : Nat) (f : Nat → Int) {j : Nat} (h : j < n) : (lZ kd n f)[j]? = some (.int kd (f j)) := by simp [lZ, h]
theorem lZ_one (kd : IntKind) (n : Nat) (f : Nat → Int) : ∀ v ∈ lZ kd n f, v.oneCell' = true := by
  intro v hv
  unfold lZ at hv
  rw [List.mem_map] at hv
  obtain ⟨i, _, rfl⟩ := hv
  rfl
theorem lZ_range {w : World} {kd : IntKind} {g o n : Nat} {f : Nat → Int} (h : ∀ j, j < n → w.cell? ⟨g, o + j, none⟩ = some (.int kd (f j))) : w.rangeAt g o (lZ kd n f) := fun j v hv => by
  by_cases hj : j < n
  · rw [lZ_get kd n f hj] at hv
    cases hv
    exact h j hj
  · rw [List.getElem?_eq_none (by rw [lZ_len]; omega)] at hv
    cases hv
theorem splice_lZ (kd : IntKind) {n off m : Nat} (f h : Nat → Int) (hle : off + m ≤ n) : splice (lZ kd n f) off (lZ kd m h) = lZ kd n fun i => if off ≤ i ∧ i < off + m then h (i - off) else f i := by
  apply List.ext_getElem?
  intro i
  unfold splice
  by_cases hi : i < n
  · rw [lZ_get kd n _ hi]
    by_cases h1 : i < off
    · rw [List.getElem?_append_left (by rw [List.length_take, lZ_len]; omega), List.getElem?_take_of_lt h1, lZ_get kd n f hi, if_neg (by omega)]
    · rw [List.getElem?_append_right (by rw [List.length_take, lZ_len]; omega), List.length_take, lZ_len kd n f, Nat.min_eq_left (show off ≤ n by omega)]
      by_cases h2 : i < off + m
      · rw [List.getElem?_append_left (by rw [lZ_len]; omega), lZ_get kd m h (j := i - off) (by omega), if_pos ⟨by omega, h2⟩]
      · rw [List.getElem?_append_right (by rw [lZ_len]; omega), lZ_len, List.getElem?_drop, show off + m + (i - off - m) = i by omega, lZ_get kd n f hi, if_neg (by omega)]
  · have e1 : (lZ kd n fun i => if off ≤ i ∧ i < off + m then h (i - off) else f i)[i]? = none := List.getElem?_eq_none (by rw [lZ_len]; omega)
    rw [e1]
    exact List.getElem?_eq_none (by simp only [List.length_append, List.length_take, List.length_drop, lZ_len]; omega)
/-- The same, of rows of numbers. -/
theorem wpList_copy_Z {P : Program} {w : World} {ops : Array Oper} {rest : List Oper} {o : Oper} {a : Act} {Q : Exit → Act → World → Prop} (hgd : o.guard = none) (d s : Operand) (dT sT : TypeId)
    (ho : o.op = .call { callee := .builtin .copy, args := #[d, s], argTypes := #[dT, sT] }) (elem : TypeId) (hu : P.underlying dT = some (.slice elem)) (hsz : (P.info? elem).map (·.size) = some 1)
    (dp sp : Option Addr) (dLen dCap sLen sCap : Nat) (hd : a.eval d = .slice dp dLen dCap) (hs : a.eval s = .slice sp sLen sCap)
    (kd : IntKind) (g off n m : Nat) (f h : Nat → Int) (t : TypeId) (hg : RowZ w g kd n t f) (hn : m = Nat.min sLen dLen)
    (hpos : 0 < m → dp = some ⟨g, off, none⟩ ∧ ∃ sg so, sp = some ⟨sg, so, none⟩ ∧ ∀ j, j < m → w.cell? ⟨sg, so + j, none⟩ = some (.int kd (h j)))
    (hfit : off + m ≤ n)
    (hK : ∀ w', Hid (RowZ w' g kd n t fun i => if off ≤ i ∧ i < off + m then h (i - off) else f i) → But g w w' → wpList P ops Q rest (a.put o.dst (goInt m)) w') :
    wpList P ops Q (o :: rest) a w := by
  refine wpList_copy_but hgd d s dT sT ho elem hu hsz dp sp dLen dCap sLen sCap hd hs g off (lZ kd n f) t hg (lZ kd m h) (by rw [lZ_len]; exact hn) (fun h0 => ?_) (by rw [lZ_len, lZ_len]; exact hfit) (lZ_one _ _ _) fun w' hg' hb => ?_
  · rw [lZ_len] at h0
    obtain ⟨h1, sg, so, h2, h3⟩ := hpos h0
    exact ⟨h1, sg, so, h2, lZ_range h3⟩
  · rw [lZ_len]
    refine hK w' ?_ hb
    have := hg'.out
    rw [splice_lZ kd f h hfit] at this
    exact this
/-- Bytes that are made. -/
theorem wpList_makeB (w : World) {ops : Array Oper} {rest : List Oper} {o : Oper} {a : Act} {Q : Exit → Act → World → Prop}
    (hg : o.guard = none) (l c : Operand) (hop : o.op = Op.makeSlice 22 l c) (kl kc : IntKind) (L C : Int) (n : Nat) (hl : a.eval l = .int kl L) (hc : a.eval c = .int kc C) (hL : L = (n : Int)) (hC : C = (n : Int)) (hn : n ≤ 281474976710656)
    (hK : ∀ w', Hid (RowZ w' w.heap.size .u8 n 5 (fun _ => 0)) → Below w.heap.size w w' → wpList Try.prog ops Q rest (a.put o.dst (.slice (some ⟨w.heap.size, 0, none⟩) n n)) w') :
    wpList Try.prog ops Q (o :: rest) a w := by
  obtain ⟨i0, hi, hz0, hz1, hz2⟩ := info_parts Try.info5
  refine wpList_make_full w hg l c 22 hop w.heap.size 5 i0 (.int .u8 0) 1 Try.underlying22 hi hz0 hz1 kl kc L C n hl hc hL hC (by rw [hz2]; omega) (by unfold maxLen; omega) (Nat.le_refl _) fun w' hown hgr => ?_
  refine hK w' ?_ ((Below.refl w.heap.size w).grown hgr (Nat.le_refl _) (fun k hk => by cases hk))
  have hr := row_full hown
  rw [Nat.mul_one, show Value.cells (.int .u8 0) = #[.int .u8 0] from rfl, toList_madeCells_one] at hr
  show _ = _
  rw [hr]
  unfold rowZ
  rw [List.map_const', List.length_range]
theorem rowZ_at {w : World} {g n : Nat} {f : Nat → UInt8} (h : RowZ w g .u8 n 5 (fun i => ((f i).toNat : Int))) : RowAt w g ((List.range n).map f) := by
  unfold RowAt
  rw [h]
  unfold rowZ
  rw [List.map_map]
  rfl
theorem rowZ_sl {w : World} {g n : Nat} {f : Nat → UInt8} (h : RowZ w g .u8 n 5 (fun i => ((f i).toNat : Int))) (hn : n ≤ 9223372036854775807) : SlAt w (.slice (some ⟨g, 0, none⟩) n n) ((List.range n).map f) := SlAt.row (rowZ_at h) (by simp) hn
theorem rowZ_own {w : World} {base g n : Nat} {f : Nat → UInt8} (hb : base ≤ g) (h : RowZ w g .u8 n 5 (fun i => ((f i).toNat : Int))) (hn : n ≤ maxLen) : w.ownsRow base 5 1 (.slice (some ⟨g, 0, none⟩) n n) n (((List.range n).map f).map encB) := full_row hb (by simp) hn (rowZ_at h)
/-- A slice's cells, from its first one on. -/
theorem ByAt.src {w : World} {a : Option Addr} {cap : Nat} {bs : List UInt8} (h : ByAt w (.slice a bs.length cap) bs) (h0 : 0 < bs.length) : ∃ g o, a = some ⟨g, o, none⟩ ∧ g < w.heap.size ∧ ∀ j, j < bs.length → w.cell? ⟨g, o + j, none⟩ = some (.int .u8 ((bs.getD j 0).toNat : Int)) := by
  rcases h with ⟨h, _⟩ | ⟨g, off, cap', he, hg, hc⟩
  · rw [h] at h0; simp at h0
  · obtain ⟨rfl, _⟩ : a = some ⟨g, off, none⟩ ∧ True := ⟨by cases he; rfl, trivial⟩
    exact ⟨g, off, rfl, hg, hc⟩
end Go.Proofs.Ytgefampdfhbmbaa
/- What the program's bytes and blockOf answer. -/
namespace Go.Proofs.Ytgefampdfhbmbaa
open Go.RowKit
set_option linter.unusedVariables false

theorem Try.size5 : (Try.prog.info? 5).map (·.size) = some 1 := by kernel_rfl
set_option maxRecDepth 100000 in
set_option maxHeartbeats 800000 in
theorem pBytes_any (b : Nat → UInt8) (w : World) : Calls Try.prog 40 #[.agg (bR b)] w fun e w' => ∃ g, e = .returned (.slice (some ⟨g, 0, none⟩) 16 16) ∧ w.heap.size ≤ g ∧ RowZ w' g .u8 16 5 (fun i => ((b i).toNat : Int)) ∧ Below w.heap.size w w' := by
  have hi5 := Try.size5
  have W1 : Hid (RowZ (w.alloc (.cells (bR b) (59 : TypeId))) w.heap.size .u8 16 59 (fun i => ((b i).toNat : Int))) := RowZ.new w .u8 16 59 _
  have W2 : Hid (Below w.heap.size w (w.alloc (.cells (bR b) (59 : TypeId)))) := (Below.refl _ _).alloc (Nat.le_refl _) _
  go_enter Try.func40, Try.ntmps40
  go_wp2_with (first
    | (at_make; generalize hW : World.alloc _ (Obj.cells (bR b) (59 : TypeId)) = W; have V1 : Hid (RowZ W w.heap.size .u8 16 59 (fun i => ((b i).toNat : Int))) := (by rw [← hW]; exact W1.out); have V2 : Hid (Below w.heap.size w W) := (by rw [← hW]; exact W2.out); clear hW W1 W2; refine wpList_makeB W rfl _ _ rfl .i64 .i64 16 16 16 rfl rfl rfl rfl (by omega) ?_; intro w2 hr2 hb2; have HB2 := hidD hb2; have HR1 := hidD (V1.out.next hb2); have HL := hidD V1.out.lt; clear hb2 V1)
    | (refine wpList_copy_Z rfl _ _ 22 22 rfl 5 Try.underlying22 hi5 (some ⟨W.heap.size, 0, none⟩) (some ⟨w.heap.size, 0, none⟩) 16 16 16 16 rfl rfl .u8 W.heap.size 0 16 16 (fun _ => 0) (fun i => ((b i).toNat : Int)) 5 hr2.out rfl (fun _ => ⟨rfl, w.heap.size, 0, rfl, fun j hj => by rw [Nat.zero_add]; exact HR1.out.cell hj⟩) (by omega) ?_; intro w3 hr3 hb3; have HB3 := hidD hb3; clear hb3))
  refine bodyPost_ret (v := .slice (some ⟨W.heap.size, 0, none⟩) 16 16) (by simp [results, Try.results40, go_sem]) rfl ?_
  refine ⟨W.heap.size, rfl, V2.out.size, hr3.out.congr fun i hi => by rw [if_pos ⟨Nat.zero_le _, by omega⟩, Nat.sub_zero], ?_⟩
  exact V2.out.trans ((HB2.out.mono V2.out.size).trans (HB3.out.bel.mono V2.out.size))
theorem blk_at {l : List UInt8} {i : Nat} : ((blk l i).toNat : Int) = ((l.getD i 0).toNat : Int) := rfl
set_option maxRecDepth 100000 in
set_option maxHeartbeats 800000 in
theorem pBlockOf_any (l : List UInt8) (v : Value) (w : World) (hv : ByAt w v l) : Calls Try.prog 43 #[v] w fun e w' => e = .returned (.agg (bR (blk (l.take 16)))) ∧ Below w.heap.size w w' := by
  obtain ⟨a, cap, rfl, hsh⟩ := hv.shape
  have HV := hidD hv
  have hi5 := Try.size5
  obtain ⟨hz, hsz⟩ := zero_of_info Try.zero59
  obtain ⟨b1, b2, b3, b4⟩ := two_blocks w (rowZ .u8 16 (fun _ => 0)) (rowZ .u8 16 (fun _ => 0)) 59
  have W1 := hidD b1
  have W2 := hidD b2
  have W3 := hidD b3
  have HRES : Hid (∀ i, i < 16 → ((if 0 ≤ i ∧ i < 0 + Nat.min l.length 16 then ((l.getD (i - 0) 0).toNat : Int) else 0) = ((blk (l.take 16) i).toNat : Int))) := fun i hi => by
    rw [show Nat.min l.length 16 = min l.length 16 from rfl]
    unfold blk
    by_cases h : i < l.length
    · rw [if_pos ⟨Nat.zero_le _, by omega⟩, Nat.sub_zero, List.getD_eq_getElem?_getD, List.getD_eq_getElem?_getD, List.getElem?_take_of_lt hi]
    · rw [if_neg (by omega), List.getD_eq_getElem?_getD, List.getElem?_eq_none (by rw [List.length_take]; omega)]; rfl
  have HONE : Hid ((bR (blk (l.take 16))).all (·.oneCell') = true) := rowZ_one _ _ _
  have h4 : (bR (blk (l.take 16))).size = 16 := rowZ_size _ _ _
  have h0 : (rowZ .u8 16 (fun _ => 0)).size = 16 := rowZ_size _ _ _
  clear b1 b2 b3 b4 hv hsh
  generalize hn : l.length = n at *
  have HN := hidD hn
  clear hn
  go_enter Try.func43, Try.ntmps43
  go_wp2_with (first
    | (generalize hW : World.alloc _ (Obj.cells (rowZ .u8 16 (fun _ => 0)) (59 : TypeId)) = W; have V1 : Hid (RowZ W w.heap.size .u8 16 59 (fun _ => 0)) := (by rw [← hW]; exact W1.out); have V2 : Hid (RowZ W (w.heap.size + 1) .u8 16 59 (fun _ => 0)) := (by rw [← hW]; exact W2.out); have V3 : Hid (Below w.heap.size w W) := (by rw [← hW]; exact W3.out); clear hW W1 W2 W3; refine wpList_copy_Z rfl _ _ 22 22 rfl 5 Try.underlying22 hi5 (some ⟨w.heap.size + 1, 0, none⟩) a 16 16 n cap rfl rfl .u8 (w.heap.size + 1) 0 16 (Nat.min n 16) (fun _ => 0) (fun i => ((l.getD i 0).toNat : Int)) 59 V2.out rfl (fun h0 => ⟨rfl, ?_⟩) (by rw [show Nat.min n 16 = min n 16 from rfl]; omega) ?_; (have h1 : 0 < l.length := (by have := HN.out; rw [show Nat.min n 16 = min n 16 from rfl] at h0; omega); have h2 := HV.out; rw [← HN.out] at h2; obtain ⟨g', o', e1, e2, e3⟩ := h2.src h1; exact ⟨g', o', e1, fun j hj => (V3.out.cell (p := ⟨g', o' + j, none⟩) e2).trans (e3 j (by have := HN.out; rw [show Nat.min n 16 = min n 16 from rfl] at hj; omega))⟩); intro w3 hr3 hb3; have HL : Hid (w3.heap[w.heap.size + 1]? = some (.cells (bR (blk (l.take 16))) (59 : TypeId) (0, 0))) := hr3.out.congr HRES.out; have HO : Hid (w3.heap[w.heap.size]? = some (.cells (rowZ .u8 16 (fun _ => 0)) (59 : TypeId) (0, 0))) := V1.out.but hb3 (by omega); have HBG : Hid (Below w.heap.size w w3) := V3.out.trans (hb3.bel.mono (by omega)); clear hr3 hb3 HRES V1 V2; generalize hC : bR (blk (l.take 16)) = C at *; have HCE := hidD hC; clear hC; generalize rowZ .u8 16 (fun _ => 0) = C0 at *; have hi : (Try.prog.info? 59).map (·.size) = some C.size := (by rw [hsz, h4]))
    | (refine wpList_load_row rfl 59 _ rfl (w.heap.size + 1) rfl 59 C (0, 0) _ HL.out Try.underlying59 rfl hi ?_) | (refine wpList_store_row rfl 59 _ _ rfl w.heap.size C rfl rfl 59 C0 HO.out hi (by rw [h0, h4]) HONE.out ?_))
  refine bodyPost_ret (results_cell_row (P := Try.prog) (p := 2) (ty := 59) (by kernel_rfl) _ _ w.heap.size 59 C (0, 0) _ rfl (setRow_heap _ _ C0 C 59 (0, 0) HO.out) Try.underlying59 rfl hi) rfl ?_
  exact ⟨by rw [HCE.out], below_setRow HBG.out (Nat.le_refl _) _⟩
theorem pBlockOf16_any (l : List UInt8) (hl : l.length = 16) (v : Value) (w : World) (hv : ByAt w v l) : Calls Try.prog 43 #[v] w fun e w' => e = .returned (.agg (bR (blk l))) ∧ Below w.heap.size w w' := by
  have := pBlockOf_any l v w hv
  rwa [List.take_of_length_le (by omega)] at this
end Go.Proofs.Ytgefampdfhbmbaa
/- A region that draws its order: the quiet ones in the order of the text, then the loud ones in each order that may come up, then the last one. -/
namespace Go.Proofs.Ytgefampdfhbmbaa
open Go.RowKit
set_option linter.unusedVariables false

theorem wp_region_free {P : Program} {id : Nat} {Q : Exit → Act → World → Prop} {a : Act} {w : World} {L : List Oper} (m : List Bool) (fu : Nat) (bs : List Nat) (hne : L ≠ []) (hm : P.follows .mixedOrders = true) (hd : (L.getLast hne).dst = none) (hg : (L.getLast hne).guard = none)
    (hl : coverB L = true) (ht : topB L = true) (hs : Region.noSelect (L.dropLast ++ [mute (L.getLast hne)]).toArray = true) (hml : m.length = L.dropLast.length) (hfu : fu + (qIdx m 0).length = L.length)
    (hq : quietsB (L.dropLast ++ [mute (L.getLast hne)]).toArray (qIdx m 0) (Array.replicate L.length false) = true)
    (hQ : ∀ c (d : Nat) v a w, Q (.panic c) (a.put (some d) v) w → Q (.panic c) a w)
    (h : wpQuiet P (L.dropLast ++ [mute (L.getLast hne)]).toArray (fun w' => ∃ i : KB w bs, w' = i.v)
      (fun a' => wpAnyH P .any (L.dropLast ++ [mute (L.getLast hne)]).toArray (CutQ P L.dropLast (L.getLast hne) Q) (fun w' => ∃ i : KB w bs, w' = i.v) fu (setAll (Array.replicate L.length false) (qIdx m 0)) a' w.drew) (qPick L.dropLast m) a) : (Code.region id L.toArray true).wp P Q a w := by
  have e : L.dropLast ++ [L.getLast hne] = L := List.dropLast_concat_getLast hne
  have hlen : L.dropLast.length + 1 = L.length := by
    have := congrArg List.length e
    simpa using this
  refine wp_region_any hm ?_
  have hS : (fun w' => ∃ i : KB w bs, w' = i.v) w.drew := ⟨⟨w.drew, fun _ _ => rfl⟩, rfl⟩
  have hpre : ∀ j, j < m.length → L.dropLast[j]? = (L.dropLast ++ [mute (L.getLast hne)])[0 + j]? := fun j hj => by
    rw [Nat.zero_add, List.getElem?_append_left (by omega)]
  have h1 : wpAnyH P .any (L.dropLast ++ [mute (L.getLast hne)]).toArray (CutQ P L.dropLast (L.getLast hne) Q) (fun w' => ∃ i : KB w bs, w' = i.v) (fu + (qIdx m 0).length) (Array.replicate L.length false) a w.drew :=
    quiets_any hs (fun c d v a w hh => hh.imp (fun h => ⟨h.1, absurd h.1 (by simp)⟩) (fun h => ⟨h.1, by cases d with | none => exact h.2 | some d => exact hQ c d v a w h.2⟩)) hS L.dropLast m 0 fu _ a (fun j hj => by rw [hpre j hj, List.getElem?_toArray]) hq h fun a' ha' => ha'
  rw [hfu] at h1
  have hgd : (Array.replicate L.length false).getD L.dropLast.length true = false := by
    rw [Array.getD_eq_getD_getElem?, Array.getElem?_replicate, if_pos (by omega)]; rfl
  have h2 := wpAny_cut (P := P) (Q := Q) hd (by rw [e]; exact hl) (by rw [e]; exact ht) L.length (Array.replicate L.length false) a w.drew (by rw [e]; simp) hgd (fun i o _ hi => absurd hi (by rw [Array.getD_eq_getD_getElem?, Array.getElem?_replicate]; split <;> simp)) (wpAny_of_held _ _ _ _ h1)
  rw [e] at h2
  simpa using h2
/-- One of those that may come up. -/
def StepAny (P : Program) (ops : Array Oper) (l0 : List Oper) (o : Oper) (Q : Exit → Act → World → Prop) (S : World → Prop) (fu : Nat) (listed : Array Bool) (i : Nat) (a : Act) (w : World) : Prop :=
  ∃ x, ops[i]? = some x ∧ wpList P ops (fun e a' w' => (e = .normal ∧ S w' ∧ wpAnyH P .any ops (CutQ P l0 o Q) S fu (listed.setIfInBounds i true) a' w') ∨ (e ≠ .normal ∧ Q e a' w')) [x] a w
theorem any_step {P : Program} {ops : Array Oper} {l0 : List Oper} {o : Oper} {Q : Exit → Act → World → Prop} {S : World → Prop} {fu : Nat} {listed : Array Bool} {a : Act} {w : World} (js : List Nat) (hops : ops = (l0 ++ [mute o]).toArray) (hr : Region.ready .any ops listed = js) (hne : js ≠ []) (h : ∀ i, i ∈ js → StepAny P ops l0 o Q S fu listed i a w) :
    wpAnyH P .any ops (CutQ P l0 o Q) S (fu + 1) listed a w := by
  subst hops
  refine wpAnyH_all hr hne fun i hi => ?_
  obtain ⟨x, hx, h'⟩ := h i hi
  rw [List.getElem?_toArray] at hx
  have hc : ∀ (e : Exit) (a' : Act) (w' : World), ((e = .normal ∧ S w' ∧ wpAnyH P .any (l0 ++ [mute o]).toArray (CutQ P l0 o Q) S fu (listed.setIfInBounds i true) a' w') ∨ (e ≠ .normal ∧ Q e a' w')) = ((e = .normal ∧ S w' ∧ wpAnyH P .any (l0 ++ [mute o]).toArray (CutQ P l0 o Q) S fu (listed.setIfInBounds i true) a' w') ∨ (e ≠ .normal ∧ CutQ P l0 o Q e a' w')) := fun e a' w' => propext ⟨fun hh => hh.imp id fun hh => ⟨hh.1, .inr hh⟩, fun hh => hh.imp id fun hh => ⟨hh.1, hh.2.elim (fun h => absurd h.1 hh.1) (fun h => h.2)⟩⟩
  simp only [hc] at h'
  exact wpOp_plain (K := fun a' w' => S w' ∧ wpAnyH P .any (l0 ++ [mute o]).toArray (CutQ P l0 o Q) S fu (listed.setIfInBounds i true) a' w') hx h'
theorem any_last {P : Program} {ops : Array Oper} {l0 : List Oper} {o : Oper} {Q : Exit → Act → World → Prop} {S : World → Prop} {listed : Array Bool} {a : Act} {w : World} (hops : ops = (l0 ++ [mute o]).toArray) (hd : o.dst = none) (hg : o.guard = none) (hB : chainB ops [l0.length] listed = true) (hS : S w) (h : wpList P (l0 ++ [o]).toArray Q [o] a w) :
    wpAnyH P .any ops (CutQ P l0 o Q) S 1 listed a w := by
  subst hops
  exact loud_any hd hg [] [] 0 listed a w (fun j hj => absurd hj (by simp)) hB hS h
theorem all_two {p : Nat → Prop} {i j : Nat} (hi : p i) (hj : p j) : ∀ k, k ∈ [i, j] → p k := fun k hk => by
  rcases (show k = i ∨ k = j by simpa using hk) with h | h <;> subst h <;> assumption
theorem all_one {p : Nat → Prop} {i : Nat} (hi : p i) : ∀ k, k ∈ [i] → p k := fun k hk => by
  obtain rfl : k = i := by simpa using hk
  exact hi
/-- A load in the quiet walk, by its own run. -/
theorem quiet_load {P : Program} {ops : Array Oper} {C : World → Prop} {Q : Act → Prop} {a : Act} {o : Oper} {rest : List Oper} (hg : o.guard = none) (ty : TypeId) (x : Operand) (ho : o.op = .load ty x) (ad : Addr) (hx : a.eval x = .pointer (some ad)) (v : Value) (h : ∀ w, C w → (Instr.loadAt ty (.pointer (some ad))).run P w = .ok v w) (hK : wpQuiet P ops C Q rest (a.put o.dst v)) : wpQuiet P ops C Q (o :: rest) a := by
  have hw : Region.wanted o (yielded ops a.tmps) = true := by simp [Region.wanted, hg]
  refine wpQuiet_step fun K hk => ?_
  rw [if_pos hw]
  refine ⟨v, fun w hC => ?_, hk _ hK⟩
  unfold Oper.quietAt execOp
  simp only [ho, hx]
  rw [Sem.run_bind, h w hC]
  exact ⟨rfl, rfl⟩
theorem run_slice59 (g o i : Nat) (hi : i < 16) (w : World) : (Instr.sliceAt 59 (.pointer (some ⟨g, o, none⟩)) (some (.int .i64 (i : Int))) none none).run Try.prog w = .ok (.slice (some ⟨g, o + i, none⟩) (16 - i) (16 - i)) w := by
  have hu : Try.prog.underlying 59 = some (.array (Try.prog.arrayLen 59) (Try.prog.elem 59)) := by kernel_rfl
  have ha : Try.prog.arrayLen 59 = 16 := by kernel_rfl
  have he : Try.prog.elem 59 = 5 := by kernel_rfl
  obtain ⟨i0, hin, _, hz1, _⟩ := info_parts Try.info5
  rw [run_sliceAt_array_l w 59 ⟨g, o, none⟩ hu .i64 (i : Int) (by omega) (by rw [ha]; omega), he, run_sizeOf w hin, Result.andThen_ok]
  simp only [slicedAt, ha, Int.toNat_natCast]
  rw [if_neg (by omega), Addr.add_mid, show Try.prog.cellsOf 5 = 1 by kernel_rfl, Nat.mul_one]
theorem run_slice59' (g i : Nat) (hi : i < 16) (w : World) : (Instr.sliceAt 59 (.pointer (some ⟨g, 0, none⟩)) (some (.int .i64 (i : Int))) none none).run Try.prog w = .ok (.slice (some ⟨g, i, none⟩) (16 - i) (16 - i)) w := by
  rw [run_slice59 g 0 i hi w, Nat.zero_add]
end Go.Proofs.Ytgefampdfhbmbaa
