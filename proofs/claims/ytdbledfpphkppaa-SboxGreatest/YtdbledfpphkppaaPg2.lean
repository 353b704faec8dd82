/- What the program's Mix, Unmix, Column and Round answer. -/
import Derived.Test.YtdbledfpphkppaaPg1
import Derived.Laws.StructEq
namespace Go.Proofs.Ytdbledfpphkppaa
open Go.RowKit
set_option linter.unusedVariables false

theorem eqP22 (a : Int) (w : World) : (Op.equalIn 10000 22 (.agg #[.int .u8 a, .int .u8 a, .int .u8 a, .int .u8 a]) (.agg #[.int .u8 a, .int .u8 a, .int .u8 a, .int .u8 a])).run Try.prog w = .ok true w := by
  have u5 := Try.underlying5
  have a5 := Try.isAgg5
  have z5 := Try.sizeOf5
  rw [show (10000 : Nat) = 9999 + 1 from rfl, Op.equalIn]
  simp only [Sem.run_bind, run_underlying Try.underlying22, Result.andThen_ok]
  simp only [Std.Legacy.Range.forIn_eq_forIn_range', Std.Legacy.Range.size, Nat.sub_zero, Nat.add_sub_cancel, Nat.div_one, List.range'_succ, List.range'_zero, List.forIn_cons, List.forIn_nil]
  go_simp
theorem neP22 (a b c d : Int) (h : ¬ (b = a ∧ c = a ∧ d = a)) (w : World) : (Op.equalIn 10000 22 (.agg #[.int .u8 a, .int .u8 b, .int .u8 c, .int .u8 d]) (.agg #[.int .u8 a, .int .u8 a, .int .u8 a, .int .u8 a])).run Try.prog w = .ok false w := by
  have u5 := Try.underlying5
  have a5 := Try.isAgg5
  have z5 := Try.sizeOf5
  rw [show (10000 : Nat) = 9999 + 1 from rfl, Op.equalIn]
  simp only [Sem.run_bind, run_underlying Try.underlying22, Result.andThen_ok]
  simp only [Std.Legacy.Range.forIn_eq_forIn_range', Std.Legacy.Range.size, Nat.sub_zero, Nat.add_sub_cancel, Nat.div_one, List.range'_succ, List.range'_zero, List.forIn_cons, List.forIn_nil]
  by_cases hb : b = a
  · subst hb
    by_cases hc : c = b
    · subst hc
      have hd : ¬ d = c := fun hd => h ⟨rfl, rfl, hd⟩
      have hd' : (d == c) = false := by simpa using hd
      clear h
      go_simp
    · have hc' : (c == b) = false := by simpa using hc
      clear h
      go_simp
  · have hb' : (b == a) = false := by simpa using hb
    clear h
    go_simp
theorem index4 (C : Array Value) (k : Nat) (u : Value) (hk : k < 4) (h : C[k]? = some u) (w : World) : (Instr.index 22 (.agg C) (.int .i64 (k : Int))).run Try.prog w = .ok u w := by
  have hu : Try.prog.underlying 22 = some (.array 4 5) := by kernel_rfl
  have hpk : Try.prog.plainKey 5 = true := by kernel_rfl
  have hc : Try.prog.cellsOf 5 = 1 := by kernel_rfl
  obtain ⟨i0, hi, _⟩ := info_parts Try.info5
  have hn : (0 : Int) ≤ (k : Int) ∧ (k : Int) < ((4 : Nat) : Int) := by omega
  have hp := run_part_plain (P := Try.prog) (w := w) hpk (xs := C) (off := k) (v := u) h
  simp only [Instr.index, asIntOf, Sem.run_bind, Sem.run_pure, Result.andThen_ok, run_underlying hu, if_pos hn, run_sizeOf w hi, hc, Nat.mul_one, Int.toNat_natCast, hp]
theorem three_blocks (w : World) (A B C : Array Value) (ty : TypeId) : (((w.alloc (.cells A ty)).alloc (.cells B ty)).alloc (.cells C ty)).heap[w.heap.size]? = some (.cells A ty (0, 0)) ∧ (((w.alloc (.cells A ty)).alloc (.cells B ty)).alloc (.cells C ty)).heap[w.heap.size + 1]? = some (.cells B ty (0, 0))
    ∧ (((w.alloc (.cells A ty)).alloc (.cells B ty)).alloc (.cells C ty)).heap[w.heap.size + 1 + 1]? = some (.cells C ty (0, 0)) ∧ Below w.heap.size w (((w.alloc (.cells A ty)).alloc (.cells B ty)).alloc (.cells C ty)) ∧ (((w.alloc (.cells A ty)).alloc (.cells B ty)).alloc (.cells C ty)).heap.size = w.heap.size + 3 := by
  have sz : ∀ (w : World) o, (w.alloc o).heap.size = w.heap.size + 1 := fun w o => by simp
  refine ⟨?_, ?_, ?_, ((((Below.refl _ _).alloc (Nat.le_refl _) _).alloc (by rw [sz]; omega) _).alloc (by rw [sz, sz]; omega) _), by rw [sz, sz, sz]⟩
  · rw [Below.heap_alloc _ _ _ (by rw [sz, sz]; omega), Below.heap_alloc _ _ _ (by rw [sz]; omega)]; exact heap_alloc_last _ _
  · rw [Below.heap_alloc _ _ _ (by rw [sz, sz]; omega)]
    have := heap_alloc_last (w.alloc (.cells A ty)) (.cells B ty); rw [sz] at this; exact this
  · have := heap_alloc_last ((w.alloc (.cells A ty)).alloc (.cells B ty)) (.cells C ty); rw [sz, sz] at this; exact this
set_option maxRecDepth 100000 in
set_option maxHeartbeats 800000 in
theorem pMixed_same (c0 m0 m1 m2 m3 : Int) (w : World) : Calls Try.prog 46 #[.agg #[.int .u8 c0, .int .u8 c0, .int .u8 c0, .int .u8 c0], .agg #[.int .u8 m0, .int .u8 m1, .int .u8 m2, .int .u8 m3]] w fun e w' => e = .returned (.agg #[.int .u8 c0, .int .u8 c0, .int .u8 c0, .int .u8 c0]) ∧ Below w.heap.size w w' := by
  obtain ⟨hz, hsz⟩ := zero_of_info Try.zero22'
  have heq := fun w => eqP22 c0 w
  have HONE : Hid ((#[.int .u8 c0, .int .u8 c0, .int .u8 c0, .int .u8 c0] : Array Value).all (·.oneCell') = true) := rowZ_one .u8 4 (fun _ => c0)
  obtain ⟨b1, b2, b3, b4, b5⟩ := three_blocks w #[.int .u8 c0, .int .u8 c0, .int .u8 c0, .int .u8 c0] #[.int .u8 m0, .int .u8 m1, .int .u8 m2, .int .u8 m3] #[.int .u8 0, .int .u8 0, .int .u8 0, .int .u8 0] 22
  have B1 := hidD b1
  have B3 := hidD b3
  have B4 := hidD b4
  have B5 := hidD b5
  clear b1 b2 b3 b4 b5
  go_enter Try.func46, Try.ntmps46
  go_wp2_with (first | (refine wpList_load_row rfl 22 _ rfl w.heap.size rfl 22 #[.int .u8 c0, .int .u8 c0, .int .u8 c0, .int .u8 c0] (0, 0) _ B1.out Try.underlying22 rfl (by rw [hsz]; rfl) ?_; generalize hW : World.alloc _ (Obj.cells #[.int .u8 0, .int .u8 0, .int .u8 0, .int .u8 0] (22 : TypeId)) = W; have W1 : W.heap[w.heap.size]? = some (.cells #[.int .u8 c0, .int .u8 c0, .int .u8 c0, .int .u8 c0] (22 : TypeId) (0, 0)) := (by rw [← hW]; exact B1.out); have W3 : Hid (W.heap[w.heap.size + 1 + 1]? = some (.cells #[.int .u8 0, .int .u8 0, .int .u8 0, .int .u8 0] (22 : TypeId) (0, 0))) := (by rw [← hW]; exact B3.out); have W4 : Hid (Below w.heap.size w W) := (by rw [← hW]; exact B4.out); have hcell := (col_cells W1).1; have HW1 := hidD W1; clear hW W1 B1 B3 B4) | (refine wpList_load_row rfl 22 _ rfl w.heap.size rfl 22 #[.int .u8 c0, .int .u8 c0, .int .u8 c0, .int .u8 c0] (0, 0) _ HW1.out Try.underlying22 rfl (by rw [hsz]; rfl) ?_) | (refine wpList_store_row rfl 22 _ _ rfl (w.heap.size + 1 + 1) #[.int .u8 c0, .int .u8 c0, .int .u8 c0, .int .u8 c0] rfl rfl 22 #[.int .u8 0, .int .u8 0, .int .u8 0, .int .u8 0] W3.out (by rw [hsz]; rfl) rfl HONE.out ?_))
  refine bodyPost_ret (results_cell_row (P := Try.prog) (p := 4) (ty := 22) (by kernel_rfl) _ _ (w.heap.size + 1 + 1) 22 #[.int .u8 c0, .int .u8 c0, .int .u8 c0, .int .u8 c0] (0, 0) _ rfl (setRow_heap _ _ #[.int .u8 0, .int .u8 0, .int .u8 0, .int .u8 0] #[.int .u8 c0, .int .u8 c0, .int .u8 c0, .int .u8 c0] 22 (0, 0) W3.out) Try.underlying22 rfl (by rw [hsz]; rfl)) rfl ?_
  exact ⟨rfl, below_setRow W4.out (by omega) _⟩
set_option maxRecDepth 100000 in
set_option maxHeartbeats 1600000 in
theorem pMixed_any (c m : Nat → UInt8) (hm : (m 0 ^^^ m 1 ^^^ m 2 ^^^ m 3) = 1) (w : World) : Calls Try.prog 46 #[.agg (colR c), .agg (colR m)] w fun e w' => e = .returned (.agg (colR (mixS c m))) ∧ Below w.heap.size w w' := by
  by_cases hsame : c 1 = c 0 ∧ c 2 = c 0 ∧ c 3 = c 0
  · have hr : colR (mixS c m) = colR c := rowZ_congr .u8 fun i hi => by rw [mix_same hsame.1 hsame.2.1 hsame.2.2 hm hi]
    have hcc : colR c = #[.int .u8 ((c 0).toNat : Int), .int .u8 ((c 0).toNat : Int), .int .u8 ((c 0).toNat : Int), .int .u8 ((c 0).toNat : Int)] := by rw [colR_lit, hsame.1, hsame.2.1, hsame.2.2]
    rw [hr, hcc, colR_lit m]
    exact pMixed_same _ _ _ _ _ w
  have hne : ¬ (((c 1).toNat : Int) = ((c 0).toNat : Int) ∧ ((c 2).toNat : Int) = ((c 0).toNat : Int) ∧ ((c 3).toNat : Int) = ((c 0).toNat : Int)) := fun h => hsame ⟨UInt8.toNat.inj (by have := h.1; omega), UInt8.toNat.inj (by have := h.2.1; omega), UInt8.toNat.inj (by have := h.2.2; omega)⟩
  have hneq := fun w => neP22 ((c 0).toNat : Int) ((c 1).toNat : Int) ((c 2).toNat : Int) ((c 3).toNat : Int) hne w
  clear hsame hne
  have HC : Hid (∀ a b w, Calls Try.prog 48 #[.int .u8 (UInt8.toNat a : Int), .int .u8 (UInt8.toNat b : Int)] w fun e w' => e = .returned (.int .u8 ((bm 27 a b).toNat : Int)) ∧ w' = w) := fun a b w => gmul_any a b w
  have HIX : Hid (∀ k : Nat, k < 4 → ∀ w, (Instr.index 22 (.agg (colR m)) (.int .i64 (k : Int))).run Try.prog w = .ok (.int .u8 ((m k).toNat : Int)) w) := fun k hk w => index4 _ k _ hk (rowZ_get .u8 4 _ k hk) w
  obtain ⟨hz, hsz⟩ := zero_of_info Try.zero22
  obtain ⟨b1, b2, b3, b4, b5⟩ := three_blocks w (colR c) (colR m) (rowZ .u8 4 (fun _ => 0)) 22
  have HRA : Hid (RowZ ((((w.alloc (.cells (colR c) (22 : TypeId))).alloc (.cells (colR m) (22 : TypeId))).alloc (.cells (rowZ .u8 4 (fun _ => 0)) (22 : TypeId)))) w.heap.size .u8 4 22 (fun i => ((c i).toNat : Int))) := b1
  have HRB : Hid (RowZ ((((w.alloc (.cells (colR c) (22 : TypeId))).alloc (.cells (colR m) (22 : TypeId))).alloc (.cells (rowZ .u8 4 (fun _ => 0)) (22 : TypeId)))) (w.heap.size + 1) .u8 4 22 (fun i => ((m i).toNat : Int))) := b2
  have HRC : Hid (RowZ ((((w.alloc (.cells (colR c) (22 : TypeId))).alloc (.cells (colR m) (22 : TypeId))).alloc (.cells (rowZ .u8 4 (fun _ => 0)) (22 : TypeId)))) (w.heap.size + 1 + 1) .u8 4 22 (fun _ => 0)) := b3
  have HBW := hidD b4
  have HSW := hidD b5
  have hs1 : (colR c).size = 4 := rowZ_size _ _ _
  have hs2 : (colR m).size = 4 := rowZ_size _ _ _
  have hi1 : (Try.prog.info? 22).map (·.size) = some (colR c).size := by rw [hsz, hs1]
  have hi2 : (Try.prog.info? 22).map (·.size) = some (colR m).size := by rw [hsz, hs2]
  rw [← colR_lit c] at hneq
  have hneq' : ∀ w, (Op.equalIn 10000 22 (.agg (colR c)) (.agg (((((rowZ .u8 4 fun _ => 0).setIfInBounds 0 (.int .u8 ((c 0).toNat : Int))).setIfInBounds 1 (.int .u8 ((c 0).toNat : Int))).setIfInBounds 2 (.int .u8 ((c 0).toNat : Int))).setIfInBounds 3 (.int .u8 ((c 0).toNat : Int))))).run Try.prog w = .ok false w := fun w => hneq w
  clear b1 b2 b3 b4 b5 hm hneq
  go_enter Try.func46, Try.ntmps46
  go_wp2_with (first | (refine wpList_load_row rfl 22 _ rfl w.heap.size rfl 22 (colR c) (0, 0) _ HRA.out Try.underlying22 rfl hi1 ?_; generalize hW : World.alloc _ (Obj.cells (rowZ .u8 4 (fun _ => 0)) (22 : TypeId)) = W; have W1 : RowZ W w.heap.size .u8 4 22 (fun i => ((c i).toNat : Int)) := (by rw [← hW]; exact HRA.out); have W2 : Hid (RowZ W (w.heap.size + 1) .u8 4 22 (fun i => ((m i).toNat : Int))) := (by rw [← hW]; exact HRB.out); have W3 : Hid (RowZ W (w.heap.size + 1 + 1) .u8 4 22 (fun _ => 0)) := (by rw [← hW]; exact HRC.out); have W4 : Hid (Below w.heap.size w W) := (by rw [← hW]; exact HBW.out); have W5 : Hid (W.heap.size = w.heap.size + 3) := (by rw [← hW]; exact HSW.out); have hcell := W1.cell (k := 0) (by omega); have HW1 := hidD W1; clear hW W1 HRA HRB HRC HBW HSW))
  clear hcell hneq'
  have HRD : Hid (RowZ (W.alloc (.cells (rowZ .u8 4 (fun _ => 0)) (22 : TypeId))) (w.heap.size + 3) .u8 4 22 (fun _ => 0)) := by
    have := RowZ.new W .u8 4 22 (fun _ => 0)
    rw [W5.out] at this; exact this
  have HW2 : Hid (Below W.heap.size W (W.alloc (.cells (rowZ .u8 4 (fun _ => 0)) (22 : TypeId)))) := (Below.refl _ _).alloc (Nat.le_refl _) _
  rw [W5.out]
  have V1 := hidD (HW1.out.next HW2.out)
  have V2 := hidD (W2.out.next HW2.out)
  have V3 := hidD (W3.out.next HW2.out)
  have V4 : Hid (Below w.heap.size w (W.alloc (.cells (rowZ .u8 4 (fun _ => 0)) (22 : TypeId)))) := Below.next W4.out HW2.out
  clear HW1 W2 W3 W4 W5 HW2
  generalize W.alloc (.cells (rowZ .u8 4 (fun _ => 0)) (22 : TypeId)) = U at *
  clear W
  rw [show w.heap.size + 1 + 1 = w.heap.size + 2 from rfl] at *
  have hg3 : w.heap.size < w.heap.size + 3 := by omega
  generalize hg : w.heap.size = g at *
  have HG := hidD hg
  clear hg
  go_loopw [21] (fun i wr => ∃ j : Nat, j ≤ 4 ∧ i = .int .i64 j ∧ RowZ wr (g + 3) .u8 4 22 (fun i => ((mixAt c m j 0 i).toNat : Int)) ∧ Below (g + 3) U wr) (fun i _ => 4 - (intOf i).toNat)
  case atStart => exact ⟨0, Nat.zero_le _, rfl, HRD.out.congr fun i _ => by rw [mixAt_zero]; rfl, Below.refl _ _⟩
  case round =>
    obtain ⟨j, hj, rfl, hrow, hbel⟩ := hrel
    have HBL := hidD hbel
    have HRW := hidD hrow
    by_cases hlt : j < 4
    · have hlti : (j : Int) < 4 := by omega
      have HVB : Hid (wr.heap[g + 1]? = some (.cells (colR m) (22 : TypeId) (0, 0))) := V2.out.below hbel (by omega)
      clear hbel hrow
      go_wp2_with (refine wpList_load_row rfl 22 _ rfl (g + 1) rfl 22 (colR m) (0, 0) _ HVB.out Try.underlying22 rfl hi2 ?_)
      go_loopw [25] (fun i wr => ∃ k : Nat, k ≤ 4 ∧ i = .int .i64 k ∧ RowZ wr (g + 3) .u8 4 22 (fun i => ((mixAt c m j k i).toNat : Int)) ∧ Below (g + 3) U wr) (fun i _ => 4 - (intOf i).toNat)
      case atStart => exact ⟨0, Nat.zero_le _, rfl, HRW.out, HBL.out⟩
      case round =>
        obtain ⟨k, hk, rfl, hrow, hbel⟩ := hrel
        have HBL := hidD hbel
        have HRW := hidD hrow
        by_cases hlk : k < 4
        · have hlki : (k : Int) < 4 := by omega
          have hi4 : (j + k) % 4 < 4 := Nat.mod_lt _ (by omega)
          have hmod : ((j : Int) + k).tmod 4 = (((j + k) % 4 : Nat) : Int) := by rw [Int.tmod_eq_emod_of_nonneg (by omega)]; omega
          have hwr : IntKind.i64.wrap ((j : Int) + k) = (j : Int) + k := by rw [IntKind.wrap_i64]; omega
          have hix := fun w => HIX.out k hlk w
          have hca : ∀ i : BW wr, i.v.cell? ⟨g, (j + k) % 4, none⟩ = some (.int .u8 ((c ((j + k) % 4)).toNat : Int)) := fun i => (i.below.cell (p := ⟨g, (j + k) % 4, none⟩) (V1.out.below hbel (by omega)).lt).trans ((V1.out.below hbel (by omega)).cell hi4)
          have hcd : ∀ i : BW wr, i.v.cell? ⟨g + 3, j, none⟩ = some (.int .u8 ((mixTo c m j k).toNat : Int)) := fun i => by rw [← mixAt_here]; exact (i.below.cell (p := ⟨g + 3, j, none⟩) hrow.lt).trans (hrow.cell hlt)
          have hfd : ∀ i : BW wr, i.v.frozen? ⟨g + 3, j, none⟩ = false := fun i => (i.below.frozen (p := ⟨g + 3, j, none⟩) hrow.lt).trans (hrow.frozen j)
          have hxr := u8_xor_nat (mixTo c m j k).toNat (bm 27 (c ((j + k) % 4)) (m k)).toNat (u8_lt _) (u8_lt _)
          rw [← UInt8.toNat_xor] at hxr
          have HCK : Hid (∀ w, Calls Try.prog 48 #[.int .u8 ((m k).toNat : Int), .int .u8 ((c ((j + k) % 4)).toNat : Int)] w fun e w' => e = .returned (.int .u8 ((bm 27 (c ((j + k) % 4)) (m k)).toNat : Int)) ∧ Below w.heap.size w w') := fun w => (HC.out (m k) (c ((j + k) % 4)) w).mono fun e w' h => ⟨by rw [bm_comm]; exact h.1, by rw [h.2]; exact Below.refl _ _⟩
          have HST : Hid (∀ i : BW wr, RowZ (i.v.setCell ⟨g + 3, j, none⟩ (.int .u8 ((mixTo c m j k ^^^ bm 27 (c ((j + k) % 4)) (m k)).toNat : Int))) (g + 3) .u8 4 22 (fun i => ((mixAt c m j (k + 1) i).toNat : Int))) := fun i => by
            refine ((hrow.next i.below).set hlt _).congr fun i hi => ?_
            rw [← mixAt_step]; split <;> rfl
          have HSB : Hid (∀ (i : BW wr) v, Below (g + 3) U (i.v.setCell ⟨g + 3, j, none⟩ v)) := fun i v => below_setCell (hbel.trans (i.below.mono (Nat.le_of_lt hrow.lt))) (Nat.le_refl _) _ v
          generalize (mixTo c m j k ^^^ bm 27 (c ((j + k) % 4)) (m k)).toNat = V at *
          generalize (bm 27 (c ((j + k) % 4)) (m k)).toNat = X at *
          generalize (mixTo c m j k).toNat = Y at *
          generalize (c ((j + k) % 4)).toNat = ca at *
          generalize (m k).toNat = cb at *
          generalize (j + k) % 4 = d at *
          clear hbel hrow
          go_wp2_with fail
          refine wp_region_put (by simp) (by kernel_rfl) rfl (by kernel_rfl) (by kernel_rfl) (by kernel_rfl) ?_
          simp only [List.dropLast_cons_cons, List.dropLast_singleton, List.getLast_cons_cons, List.getLast_singleton, List.cons_append, List.nil_append, mute]
          repeat (go_big_quiet_step ((go_at_call 48; exact Calls.below_of (HCK.out _))))
          refine wpQuiet_nil ?_
          intro i
          go_wp2_with fail
          go_roundw
          case rel => exact ⟨k + 1, by omega, by go_num, HST.out _, HSB.out _ _⟩
          case measure => simp [intOf]; omega
        · obtain rfl : k = 4 := by omega
          have HRN : Hid (RowZ wr (g + 3) .u8 4 22 (fun i => ((mixAt c m (j + 1) 0 i).toNat : Int))) := hrow.congr fun i _ => by rw [mixAt_next]
          clear hrow hbel
          go_wp2_with fail
          go_roundw
          case rel => exact ⟨j + 1, by omega, by go_num, HRN.out, HBL.out⟩
          case measure => simp [intOf]; omega
    · obtain rfl : j = 4 := by omega
      have HRN : Hid (RowZ wr (g + 3) .u8 4 22 (fun i => ((mixS c m i).toNat : Int))) := HRW.out.congr fun i hi => by rw [mixAt_all c m hi]
      have HO : Hid (wr.heap[g + 2]? = some (.cells (rowZ .u8 4 (fun _ => 0)) (22 : TypeId) (0, 0))) := V3.out.below HBL.out (by omega)
      have HL : Hid (wr.heap[g + 3]? = some (.cells (colR (mixS c m)) (22 : TypeId) (0, 0))) := HRN.out
      have HONE : Hid ((colR (mixS c m)).all (·.oneCell') = true) := rowZ_one _ _ _
      have h4 : (colR (mixS c m)).size = 4 := rowZ_size _ _ _
      have h0 : (rowZ .u8 4 (fun _ => 0)).size = 4 := rowZ_size _ _ _
      clear hrow hbel
      generalize hC : colR (mixS c m) = C at *
      have HCE := hidD hC
      clear hC
      generalize rowZ .u8 4 (fun _ => 0) = C0 at *
      have hi : (Try.prog.info? 22).map (·.size) = some C.size := by rw [hsz, h4]
      go_wp2_with (first | (refine wpList_load_row rfl 22 _ rfl (g + 3) rfl 22 C (0, 0) _ HL.out Try.underlying22 rfl hi ?_) | (refine wpList_store_row rfl 22 _ _ rfl (g + 2) C rfl rfl 22 C0 HO.out hi (by rw [h0, h4]) HONE.out ?_))
      refine bodyPost_ret (results_cell_row (P := Try.prog) (p := 4) (ty := 22) (by kernel_rfl) _ _ (g + 2) 22 C (0, 0) _ rfl (setRow_heap _ _ C0 C 22 (0, 0) HO.out) Try.underlying22 rfl hi) rfl ?_
      refine ⟨by rw [HCE.out], ?_⟩
      have hfin : Below g w (wr.setRow (g + 2) C) := below_setRow (V4.out.trans (HBL.out.mono (by omega))) (by omega) _
      rw [HG.out]; exact hfin
end Go.Proofs.Ytdbledfpphkppaa
