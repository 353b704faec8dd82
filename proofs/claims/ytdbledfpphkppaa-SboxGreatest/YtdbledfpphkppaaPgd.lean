/- What the program's Differences and Uniform answer. -/
import Derived.Test.YtdbledfpphkppaaPg1
import Derived.Laws.Unary
namespace Go.Proofs.Ytdbledfpphkppaa
open Go.RowKit
set_option linter.unusedVariables false

theorem right_any (n cap : Nat) (a : Option Addr) (w : World) : Calls Try.prog 50 #[.slice a n cap] w fun e w' => e = .returned (.bool (decide (n = 256))) ∧ w' = w := by
  by_cases h : n = 256
  · subst h
    go_enter Try.func50, Try.ntmps50
    go_wp2_with fail
    go_ret
    exact ⟨rfl, rfl⟩
  · have h1 : ¬ (n : Int) = 256 := by omega
    have h2 : ((n : Int) == 256) = false := by simpa using h1
    have HD : Hid (decide (n = 256) = false) := by show _ = _; simp [h]
    rw [HD.out]
    go_enter Try.func50, Try.ntmps50
    go_wp2_with fail
    go_ret
    exact ⟨rfl, rfl⟩
theorem index256 (C : Array Value) (k : Nat) (u : Value) (hk : k < 256) (h : C[k]? = some u) (w : World) : (Instr.index 60 (.agg C) (.int .i64 (k : Int))).run Try.prog w = .ok u w := by
  have hu : Try.prog.underlying 60 = some (.array 256 3) := by kernel_rfl
  have hpk : Try.prog.plainKey 3 = true := by kernel_rfl
  have hc : Try.prog.cellsOf 3 = 1 := by kernel_rfl
  obtain ⟨i0, hi, _⟩ := info_parts Try.info3
  have hn : (0 : Int) ≤ (k : Int) ∧ (k : Int) < ((256 : Nat) : Int) := by omega
  have hp := run_part_plain (P := Try.prog) (w := w) hpk (xs := C) (off := k) (v := u) h
  simp only [Instr.index, asIntOf, Sem.run_bind, Sem.run_pure, Result.andThen_ok, run_underlying hu, if_pos hn, run_sizeOf w hi, hc, Nat.mul_one, Int.toNat_natCast, hp]
theorem index256b (C : Array Value) (k : Nat) (u : Value) (hk : k < 256) (h : C[k]? = some u) (w : World) : (Instr.index 60 (.agg C) (.int .u8 (k : Int))).run Try.prog w = .ok u w := by
  have hu : Try.prog.underlying 60 = some (.array 256 3) := by kernel_rfl
  have hpk : Try.prog.plainKey 3 = true := by kernel_rfl
  have hc : Try.prog.cellsOf 3 = 1 := by kernel_rfl
  obtain ⟨i0, hi, _⟩ := info_parts Try.info3
  have hn : (0 : Int) ≤ (k : Int) ∧ (k : Int) < ((256 : Nat) : Int) := by omega
  have hp := run_part_plain (P := Try.prog) (w := w) hpk (xs := C) (off := k) (v := u) h
  simp only [Instr.index, asIntOf, Sem.run_bind, Sem.run_pure, Result.andThen_ok, run_underlying hu, if_pos hn, run_sizeOf w hi, hc, Nat.mul_one, Int.toNat_natCast, hp]
/-- Two blocks, one behind the other. -/
theorem two_rowsZ (w : World) (n : Nat) (kd : IntKind) (ty : TypeId) (f : Nat → Int) : RowZ ((w.alloc (.cells (rowZ kd n f) ty)).alloc (.cells (rowZ kd n f) ty)) w.heap.size kd n ty f ∧ RowZ ((w.alloc (.cells (rowZ kd n f) ty)).alloc (.cells (rowZ kd n f) ty)) (w.heap.size + 1) kd n ty f
    ∧ Below w.heap.size w ((w.alloc (.cells (rowZ kd n f) ty)).alloc (.cells (rowZ kd n f) ty)) := by
  obtain ⟨h1, h2, h3, _⟩ := two_blocks w (rowZ kd n f) (rowZ kd n f) ty
  exact ⟨h1, h2, h3⟩
set_option maxRecDepth 100000 in
set_option maxHeartbeats 800000 in
theorem pDiffs_any (l : List UInt8) (hl : l.length = 256) (A : Nat) (hA : A < 256) (v : Value) (w : World) (hv : ByAt w v l) : Calls Try.prog 51 #[v, .int .u8 (A : Int)] w fun e w' => e = .returned (.agg (rowZ .i64 256 (fun d => (diffS (tbN l) A d : Int)))) ∧ Below w.heap.size w w' := by
  obtain ⟨a', cap, rfl, _⟩ := hv.shape
  have HTC := hidD (fun wr (hb : Below w.heap.size w wr) x (hx : x < 256) => tab_cell0 hv hl hb hx)
  have HL := hidD (fun x => tbN_lt l x)
  have HR : Hid (∀ d, diffS (tbN l) A d = cD (tbN l) A 256 d) := fun d => rfl
  rw [hl] at *
  clear hv hl
  generalize tbN l = t at *
  obtain ⟨hz, hsz⟩ := zero_of_info Try.zero60
  obtain ⟨hw1, hw2, hw3⟩ := two_rowsZ w 256 .i64 60 (fun _ => 0)
  have W1 := hidD hw1
  have W2 := hidD hw2
  have W3 := hidD hw3
  clear hw1 hw2 hw3
  go_enter Try.func51, Try.ntmps51
  go_wp2_with fail
  generalize hW : World.alloc _ (Obj.cells (rowZ .i64 256 (fun _ => 0)) (60 : TypeId)) = W
  have V1 : Hid (RowZ W w.heap.size .i64 256 60 (fun _ => 0)) := by rw [← hW]; exact W1.out
  have V2 : Hid (RowZ W (w.heap.size + 1) .i64 256 60 (fun _ => 0)) := by rw [← hW]; exact W2.out
  have V3 : Hid (Below w.heap.size w W) := by rw [← hW]; exact W3.out
  clear hW W1 W2 W3
  generalize hg : w.heap.size = g at *
  have HG := hidD hg
  clear hg
  go_loopw [10] (fun i wr => ∃ k : Nat, k ≤ 256 ∧ i = .int .i64 k ∧ RowZ wr (g + 1) .i64 256 60 (fun d => (cD t A k d : Int)) ∧ Below (g + 1) W wr) (fun i _ => 256 - (intOf i).toNat)
  case atStart => exact ⟨0, Nat.zero_le _, rfl, V2.out, Below.refl _ _⟩
  case round =>
    obtain ⟨k, hk, rfl, hrow, hbel⟩ := hrel
    have HBL := hidD hbel
    have HRW := hidD hrow
    have hbg : Below g w wr := V3.out.trans (hbel.mono (by omega))
    by_cases hlt : k < 256
    · have hlti : (k : Int) < 256 := by omega
      have hmod : (k : Int) % 256 = k := by omega
      have hy := xor256 hlt hA
      have hxy : bits .xor .u8 (k : Int) (A : Int) = ((k ^^^ A : Nat) : Int) := u8_xor_nat _ _ hlt hA
      obtain ⟨g', o, rfl, hg, hc1⟩ := HTC.out wr hbg k hlt
      obtain ⟨g2, o', hgo, hg2, hc2⟩ := HTC.out wr hbg (k ^^^ A) hy
      cases hgo
      have hz : bits .xor .u8 (t k : Int) (t (k ^^^ A) : Int) = ((t k ^^^ t (k ^^^ A) : Nat) : Int) := u8_xor_nat _ _ (HL.out _) (HL.out _)
      have hzl : t k ^^^ t (k ^^^ A) < 256 := xor256 (HL.out _) (HL.out _)
      have hn := cD_le t A k (t k ^^^ t (k ^^^ A))
      have hcc : wr.cell? ⟨g + 1, t k ^^^ t (k ^^^ A), none⟩ = some (.int .i64 (cD t A k (t k ^^^ t (k ^^^ A)) : Int)) := hrow.cell hzl
      have hfr : wr.frozen? ⟨g + 1, t k ^^^ t (k ^^^ A), none⟩ = false := hrow.frozen _
      have HC1 : Hid (cD t A (k + 1) (t k ^^^ t (k ^^^ A)) = cD t A k (t k ^^^ t (k ^^^ A)) + 1) := by
        show _ = _; unfold cD; rw [ct_succ]; simp
      have HC2 : Hid (∀ d, d ≠ t k ^^^ t (k ^^^ A) → cD t A (k + 1) d = cD t A k d) := fun d hd => by
        unfold cD; rw [ct_succ, show (t k ^^^ t (k ^^^ A) == d) = false by simpa using fun h => hd h.symm]; rfl
      have HST : Hid (RowZ (wr.setCell ⟨g + 1, t k ^^^ t (k ^^^ A), none⟩ (.int .i64 ((cD t A k (t k ^^^ t (k ^^^ A)) : Int) + 1))) (g + 1) .i64 256 60 (fun d => (cD t A (k + 1) d : Int))) := by
        refine (hrow.set hzl _).congr fun i _ => ?_
        split
        · rename_i he; subst he; rw [HC1.out]; rfl
        · rename_i he; rw [HC2.out i he]
      have HSB : Hid (∀ v, Below (g + 1) W (wr.setCell ⟨g + 1, t k ^^^ t (k ^^^ A), none⟩ v)) := fun v => below_setCell hbel (Nat.le_refl _) _ v
      clear HC1 HC2
      generalize cD t A k (t k ^^^ t (k ^^^ A)) = N at *
      generalize t k ^^^ t (k ^^^ A) = Z at *
      generalize (t k : Int) = X at *
      generalize (t (k ^^^ A) : Int) = Y at *
      generalize k ^^^ A = y at *
      clear hbel hrow hbg
      go_wp2_with fail
      go_roundw
      case rel => exact ⟨k + 1, by omega, by go_num, HST.out, HSB.out _⟩
      case measure => simp [intOf]; omega
    · obtain rfl : k = 256 := by omega
      have HL : Hid (wr.heap[g + 1]? = some (.cells (rowZ .i64 256 (fun d => (diffS t A d : Int))) (60 : TypeId) (0, 0))) := hrow
      have HO : Hid (wr.heap[g]? = some (.cells (rowZ .i64 256 (fun _ => 0)) (60 : TypeId) (0, 0))) := V1.out.below hbel (by omega)
      have HONE : Hid ((rowZ .i64 256 (fun d => (diffS t A d : Int))).all (·.oneCell') = true) := rowZ_one _ _ _
      have h4 : (rowZ .i64 256 (fun d => (diffS t A d : Int))).size = 256 := rowZ_size _ _ _
      have h0 : (rowZ .i64 256 (fun _ => 0)).size = 256 := rowZ_size _ _ _
      have HBG := hidD hbg
      clear hrow hbel hbg
      generalize hC : rowZ .i64 256 (fun d => (diffS t A d : Int)) = C at *
      have HCE := hidD hC
      clear hC
      generalize rowZ .i64 256 (fun _ => 0) = C0 at *
      have hi : (Try.prog.info? 60).map (·.size) = some C.size := by rw [hsz, h4]
      go_wp2_with (first | (refine wpList_load_row rfl 60 _ rfl (g + 1) rfl 60 C (0, 0) _ HL.out Try.underlying60 rfl hi ?_) | (refine wpList_store_row rfl 60 _ _ rfl g C rfl rfl 60 C0 HO.out hi (by rw [h0, h4]) HONE.out ?_))
      refine bodyPost_ret (results_cell_row (P := Try.prog) (p := 4) (ty := 60) (by kernel_rfl) _ _ g 60 C (0, 0) _ rfl (setRow_heap _ _ C0 C 60 (0, 0) HO.out) Try.underlying60 rfl hi) rfl ?_
      refine ⟨by rw [HCE.out], ?_⟩
      have hfin : Below g w (wr.setRow g C) := below_setRow HBG.out (Nat.le_refl _) _
      rw [HG.out]; exact hfin
set_option maxRecDepth 100000 in
theorem pDiff_out (l : List UInt8) (hl : l.length ≠ 256) (a c : UInt8) (v : Value) (w : World) (hv : ByAt w v l) : Calls Try.prog 24 #[v, .int .u8 (a.toNat : Int), .int .u8 (c.toNat : Int)] w fun e w' => e = .returned (.tuple #[.int .i64 0, .int .i64 91]) ∧ Below w.heap.size w w' := by
  obtain ⟨a', cap, rfl, _⟩ := hv.shape
  have HI := hidD (fun w => right_any l.length cap a' w)
  rw [show decide (l.length = 256) = false by simpa using hl] at HI
  generalize l.length = n at *
  clear hl hv
  go_enter Try.func24, Try.ntmps24
  go_wp2_with (go_at_call 50; refine (HI.out _).mono ?_; rintro e w1 ⟨rfl, rfl⟩)
  refine bodyPost_ret (v := .tuple #[.int .i64 0, .int .i64 91]) (by simp [results, Try.results24, go_sem]) rfl ?_
  exact ⟨rfl, Below.refl _ _⟩
set_option maxRecDepth 100000 in
theorem pDiff_any (l : List UInt8) (hl : l.length = 256) (a c : UInt8) (v : Value) (w : World) (hv : ByAt w v l) : Calls Try.prog 24 #[v, .int .u8 (a.toNat : Int), .int .u8 (c.toNat : Int)] w fun e w' => e = .returned (.tuple #[.int .i64 (diffS (tbN l) a.toNat c.toNat : Nat), .int .i64 0]) ∧ Below w.heap.size w w' := by
  obtain ⟨a', cap, rfl, _⟩ := hv.shape
  have HI := hidD (fun w => right_any l.length cap a' w)
  rw [show decide (l.length = 256) = true by simpa using hl] at HI
  have HD := hidD (pDiffs_any l hl a.toNat a.toNat_lt _ w hv)
  have hix := fun w => index256b (rowZ .i64 256 (fun d => (diffS (tbN l) a.toNat d : Int))) c.toNat (.int .i64 (diffS (tbN l) a.toNat c.toNat : Int)) c.toNat_lt (rowZ_get .i64 256 _ _ c.toNat_lt) w
  generalize rowZ .i64 256 (fun d => (diffS (tbN l) a.toNat d : Int)) = C at *
  generalize diffS (tbN l) a.toNat c.toNat = R at *
  generalize l.length = n at *
  clear hl hv
  go_enter Try.func24, Try.ntmps24
  go_wp2_with (first | (go_at_call 50; refine (HI.out _).mono ?_; rintro e w1 ⟨rfl, rfl⟩) | (go_at_call 51; refine HD.out.mono ?_; rintro e w2 ⟨rfl, hb2⟩))
  refine bodyPost_ret (v := .tuple #[.int .i64 (R : Int), .int .i64 0]) (by simp [results, Try.results24, go_sem]) rfl ?_
  exact ⟨rfl, hb2⟩
set_option maxRecDepth 100000 in
theorem pUni_out (l : List UInt8) (hl : l.length ≠ 256) (v : Value) (w : World) (hv : ByAt w v l) : Calls Try.prog 33 #[v] w fun e w' => e = .returned (.tuple #[.int .i64 0, .int .i64 91]) ∧ Below w.heap.size w w' := by
  obtain ⟨a', cap, rfl, _⟩ := hv.shape
  have HI := hidD (fun w => right_any l.length cap a' w)
  rw [show decide (l.length = 256) = false by simpa using hl] at HI
  generalize l.length = n at *
  clear hl hv
  go_enter Try.func33, Try.ntmps33
  go_wp2_with (go_at_call 50; refine (HI.out _).mono ?_; rintro e w1 ⟨rfl, rfl⟩)
  refine bodyPost_ret (v := .tuple #[.int .i64 0, .int .i64 91]) (by simp [results, Try.results33, go_sem]) rfl ?_
  exact ⟨rfl, Below.refl _ _⟩
set_option maxRecDepth 100000 in
set_option maxHeartbeats 800000 in
theorem pUni_any (l : List UInt8) (hl : l.length = 256) (v : Value) (w : World) (hv : ByAt w v l) : Calls Try.prog 33 #[v] w fun e w' => e = .returned (.tuple #[.int .i64 (uniS (tbN l) : Nat), .int .i64 0]) ∧ Below w.heap.size w w' := by
  obtain ⟨a', cap, rfl, _⟩ := hv.shape
  have HI := hidD (fun w => right_any l.length cap a' w)
  rw [show decide (l.length = 256) = true by simpa using hl] at HI
  have HD : Hid (∀ A, A < 256 → ∀ wr, Below w.heap.size w wr → Calls Try.prog 51 #[.slice a' l.length cap, .int .u8 ((A : Nat) : Int)] wr fun e w' => e = .returned (.agg (rowZ .i64 256 (fun d => (cD (tbN l) A 256 d : Int)))) ∧ Below wr.heap.size wr w') := fun A hA wr hb => pDiffs_any l hl A hA _ wr (hv.next hb)
  have HIX : Hid (∀ A k : Nat, k < 256 → ∀ w, (Instr.index 60 (.agg (rowZ .i64 256 (fun d => (cD (tbN l) A 256 d : Int)))) (.int .i64 (k : Int))).run Try.prog w = .ok (.int .i64 (cD (tbN l) A 256 k : Int)) w) := fun A k hk w => index256 _ k _ hk (rowZ_get .i64 256 _ k hk) w
  have HR : Hid (uniS (tbN l) = bestS (tbN l) 255) := rfl
  generalize uniS (tbN l) = R at *
  generalize tbN l = t at *
  generalize l.length = n at *
  clear hv hl
  go_enter Try.func33, Try.ntmps33
  go_wp2_with (go_at_call 50; refine (HI.out _).mono ?_; rintro e w1 ⟨rfl, rfl⟩)
  go_loopw [4, 5] (fun b i wr => ∃ k : Nat, k ≤ 255 ∧ i = .int .i64 (k + 1 : Nat) ∧ b = .int .i64 ((bestS t k : Nat) : Int) ∧ Below w1.heap.size w1 wr) (fun _ i _ => 256 - (intOf i).toNat)
  case atStart => exact ⟨0, Nat.zero_le _, rfl, rfl, Below.refl _ _⟩
  case round =>
    obtain ⟨j, hj, rfl, rfl, hbel⟩ := hrel
    have HBL := hidD hbel
    by_cases hlt : j < 255
    · have hlti : ((j + 1 : Nat) : Int) < 256 := by omega
      have hA : j + 1 < 256 := by omega
      have HBS := hidD (best_succ t j)
      have HLE := hidD (best_le t j)
      generalize hA' : j + 1 = A at *
      have hmod : (A : Int) % 256 = A := by omega
      have HA := hidD hA'
      have HDA := hidD (HD.out A hA wr hbel)
      clear hA' hbel
      have HIXA := hidD (HIX.out A)
      generalize hC : rowZ .i64 256 (fun d => (cD t A 256 d : Int)) = C at *
      clear hC
      go_wp2_with (go_at_call 51; refine HDA.out.mono ?_; rintro e w2 ⟨rfl, hb2⟩; have HB2 := hidD (Below.next HBL.out hb2); clear hb2)
      go_loopw [4, 19] (fun b i wr => ∃ k : Nat, k ≤ 256 ∧ i = .int .i64 k ∧ b = .int .i64 ((max (bestS t j) (mx (cD t A 256) k) : Nat) : Int) ∧ wr = w2) (fun _ i _ => 256 - (intOf i).toNat)
      case atStart => exact ⟨0, Nat.zero_le _, rfl, by rw [mx, show max (bestS t j) 0 = bestS t j from by omega], rfl⟩
      case round =>
        obtain ⟨k, hk, rfl, rfl, rfl⟩ := hrel
        by_cases hlk : k < 256
        · have hlki : (k : Int) < 256 := by omega
          have hix := fun w => HIXA.out k hlk w
          have hcl := cD_le t A 256 k
          have HM : Hid (max (bestS t j) (mx (cD t A 256) (k + 1)) = max (max (bestS t j) (mx (cD t A 256) k)) (cD t A 256 k)) := by show max (bestS t j) (max (mx (cD t A 256) k) (cD t A 256 k)) = _; omega
          have hml : max (bestS t j) (mx (cD t A 256) k) ≤ 256 := Nat.max_le.2 ⟨HLE.out, mx_le fun d _ => cD_le t A 256 d⟩
          generalize max (bestS t j) (mx (cD t A 256) k) = M at *
          generalize cD t A 256 k = X at *
          go_wp2_with fail
          go_roundw
          case rel => exact ⟨k + 1, by omega, by go_num, by rw [HM.out]; congr 1; omega, by first | trivial | rfl⟩
          case measure => simp [intOf]; omega
        · obtain rfl : k = 256 := by omega
          have HBB : Hid ((max (bestS t j) (mx (cD t A 256) 256) : Nat) = bestS t A) := by show _ = _; rw [← HA.out]; rfl
          rw [HBB.out]
          have hA2 := HA.out
          generalize hbs : bestS t A = M at *
          have HM := hidD hbs
          clear hbs
          go_wp2_with fail
          go_roundw
          case rel => exact ⟨A, by omega, by go_num, by rw [HM.out], HB2.out⟩
          case measure => simp [intOf]; omega
    · obtain rfl : j = 255 := by omega
      rw [← HR.out]
      clear hbel
      go_wp2_with fail
      refine bodyPost_ret (v := .tuple #[.int .i64 (R : Int), .int .i64 0]) (by simp [results, Try.results33, go_sem]) rfl ?_
      exact ⟨rfl, HBL.out⟩
end Go.Proofs.Ytdbledfpphkppaa
