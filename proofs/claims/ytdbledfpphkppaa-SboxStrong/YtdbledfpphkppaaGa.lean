/- Texts of one proof, one behind the other. -/
import Derived.Test.YtdbledfpphkppaaPgl
import Derived.Test.YtdbledfpphkppaaRwz
import Derived.Test.YtdbledfpphkppaaRfe
import Derived.Test.YtdbledfpphkppaaPgd
import Derived.Sort.Row
import Derived.Sort.Grow
/- What the program's Degree answers. -/
namespace Go.Proofs.Ytdbledfpphkppaa
open Go.RowKit
set_option linter.unusedVariables false

def bitG (k i : Nat) : Bool := !i.testBit k || ((i ^^^ 2 ^ k) == i - 2 ^ k)
theorem bitG_tab : ((List.range 8).all fun k => (List.range 256).all fun i => bitG k i) = true := by decide +kernel
theorem flipG_at {k i : Nat} (hk : k < 8) (hi : i < 256) (h : i.testBit k = true) : i ^^^ 2 ^ k = i - 2 ^ k := by
  have := List.all_eq_true.1 (List.all_eq_true.1 bitG_tab k (by simpa using hk)) i (by simpa using hi)
  unfold bitG at this
  rw [h] at this
  simpa using this
theorem Try.zero63 : (Try.prog.info? 63).map (fun i => (i.zero, i.size)) = some (some (.agg (rowZ .u8 256 (fun _ => 0))), 256) := by kernel_rfl
theorem index256u (C : Array Value) (k : Nat) (u : Value) (hk : k < 256) (h : C[k]? = some u) (w : World) : (Instr.index 63 (.agg C) (.int .i64 (k : Int))).run Try.prog w = .ok u w := by
  have hu : Try.prog.underlying 63 = some (.array 256 5) := by kernel_rfl
  have hpk : Try.prog.plainKey 5 = true := by kernel_rfl
  have hc : Try.prog.cellsOf 5 = 1 := by kernel_rfl
  obtain ⟨i0, hi, _⟩ := info_parts Try.info5
  have hn : (0 : Int) ≤ (k : Int) ∧ (k : Int) < ((256 : Nat) : Int) := by omega
  have hp := run_part_plain (P := Try.prog) (w := w) hpk (xs := C) (off := k) (v := u) h
  simp only [Instr.index, asIntOf, Sem.run_bind, Sem.run_pure, Result.andThen_ok, run_underlying hu, if_pos hn, run_sizeOf w hi, hc, Nat.mul_one, Int.toNat_natCast, hp]
def btS (t : Nat → Nat) (bit x : Nat) : Nat := ((t x).testBit bit).toNat
theorem bt_lt (t : Nat → Nat) (bit x : Nat) : btS t bit x < 2 := by have := Bool.toNat_le ((t x).testBit bit); unfold btS; omega
set_option maxRecDepth 100000 in
set_option maxHeartbeats 4000000 in
theorem pProducts_any (l : List UInt8) (hl : l.length = 256) (b : Nat) (hb8 : b < 8) (v : Value) (w : World) (hv : ByAt w v l) : Calls Try.prog 54 #[v, .int .i64 (b : Int)] w fun e w' => e = .returned (.agg (rowZ .u8 256 (fun m => ((anfS (tbN l) b m : Nat) : Int)))) ∧ Below w.heap.size w w' := by
  obtain ⟨a', cap, rfl, _⟩ := hv.shape
  have HTC := hidD (fun wr (hb : Below w.heap.size w wr) x (hx : x < 256) => tab_cell0 hv hl hb hx)
  have HL := hidD (fun x => tbN_lt l x)
  rw [hl] at *
  clear hv hl
  generalize tbN l = t at *
  have hbi : (b : Int) < 8 := by omega
  obtain ⟨hz, hsz⟩ := zero_of_info Try.zero63
  obtain ⟨hw1, hw2, hw3⟩ := two_rowsZ w 256 .u8 63 (fun _ => 0)
  have W1 := hidD hw1
  have W2 := hidD hw2
  have W3 := hidD hw3
  clear hw1 hw2 hw3
  go_enter Try.func54, Try.ntmps54
  go_wp2_with fail
  generalize hW : World.alloc _ (Obj.cells (rowZ .u8 256 (fun _ => 0)) (63 : TypeId)) = W
  have V1 : Hid (RowZ W w.heap.size .u8 256 63 (fun _ => 0)) := by rw [← hW]; exact W1.out
  have V2 : Hid (RowZ W (w.heap.size + 1) .u8 256 63 (fun _ => 0)) := by rw [← hW]; exact W2.out
  have V3 : Hid (Below w.heap.size w W) := by rw [← hW]; exact W3.out
  clear hW W1 W2 W3
  generalize hg : w.heap.size = g at *
  have HG := hidD hg
  clear hg
  go_loopw [12] (fun i wr => ∃ k : Nat, k ≤ 256 ∧ i = .int .i64 k ∧ RowZ wr (g + 1) .u8 256 63 (fun x => ((if x < k then btS t b x else 0 : Nat) : Int)) ∧ Below (g + 1) W wr) (fun i _ => 256 - (intOf i).toNat)
  case atStart => exact ⟨0, Nat.zero_le _, rfl, V2.out, Below.refl _ _⟩
  case round =>
    obtain ⟨k, hk, rfl, hrow, hbel⟩ := hrel
    have HBL := hidD hbel
    have hbg : Below g w wr := V3.out.trans (hbel.mono (by omega))
    by_cases hlt : k < 256
    · have hlti : (k : Int) < 256 := by omega
      obtain ⟨g', o, rfl, hg, hc1⟩ := HTC.out wr hbg k hlt
      have hbt := bit_u8 (v := t k) b (HL.out k)
      have hcc := hrow.cell hlt
      have hfr := hrow.frozen k
      have HST : Hid (RowZ (wr.setCell ⟨g + 1, k, none⟩ (.int .u8 ((btS t b k : Nat) : Int))) (g + 1) .u8 256 63 (fun x => ((if x < k + 1 then btS t b x else 0 : Nat) : Int))) := by
        refine (hrow.set hlt _).congr fun i hi => ?_
        by_cases he : i = k
        · subst he; rw [if_pos rfl, if_pos (by omega)]
        · rw [if_neg he]
          by_cases h2 : i < k
          · rw [if_pos h2, if_pos (by omega)]
          · rw [if_neg h2, if_neg (by omega)]
      have HSB : Hid (∀ v, Below (g + 1) W (wr.setCell ⟨g + 1, k, none⟩ v)) := fun v => below_setCell hbel (Nat.le_refl _) _ v
      rw [show ((t k).testBit b).toNat = btS t b k from rfl] at hbt
      generalize ((btS t b k : Nat) : Int) = y at *
      generalize (t k : Int) = X at *
      clear hbel hrow hbg
      go_wp2_with fail
      go_roundw
      case rel => exact ⟨k + 1, by omega, by go_num, HST.out, HSB.out _⟩
      case measure => simp [intOf]; omega
    · obtain rfl : k = 256 := by omega
      have HRW : Hid (RowZ wr (g + 1) .u8 256 63 (fun x => ((mbS (btS t b) 0 x : Nat) : Int))) := hrow.congr fun i hi => by rw [if_pos hi]; rfl
      clear hrow hbel hbg
      go_wp2_with fail
      go_loopw [24] (fun h wr => ∃ k : Nat, k ≤ 8 ∧ h = .int .i64 k ∧ RowZ wr (g + 1) .u8 256 63 (fun x => ((mbS (btS t b) k x : Nat) : Int)) ∧ Below (g + 1) W wr) (fun h _ => 8 - (intOf h).toNat)
      case atStart => exact ⟨0, Nat.zero_le _, rfl, HRW.out, HBL.out⟩
      case round =>
        obtain ⟨k, hk, rfl, hrow, hbel⟩ := hrel
        have HBL := hidD hbel
        have HRW := hidD hrow
        by_cases hlt : k < 8
        · have hlti : (k : Int) < 8 := by omega
          clear hrow hbel
          go_wp2_with fail
          go_loopw [27] (fun i wr => ∃ m : Nat, m ≤ 256 ∧ i = .int .i64 m ∧ RowZ wr (g + 1) .u8 256 63 (fun x => ((midM (btS t b) k m x : Nat) : Int)) ∧ Below (g + 1) W wr) (fun i _ => 256 - (intOf i).toNat)
          case atStart => exact ⟨0, Nat.zero_le _, rfl, HRW.out.congr fun i _ => by rw [midM_zero], HBL.out⟩
          case round =>
            obtain ⟨m, hm, rfl, hrow, hbel⟩ := hrel
            have HBL := hidD hbel
            by_cases hlm : m < 256
            · have hlmi : (m : Int) < 256 := by omega
              have hbitv := bit_i64 (v := m) k (by omega)
              cases hbit : m.testBit k
              · rw [hbit] at hbitv
                have hb0 : bits .and .i64 ((m : Int) / 2 ^ k) 1 = 0 := hbitv
                have HST : Hid (RowZ wr (g + 1) .u8 256 63 (fun x => ((midM (btS t b) k (m + 1) x : Nat) : Int))) := hrow.congr fun i hi => by rw [midM_skip (btS t b) hbit]
                clear hrow hbel hbit hbitv
                go_wp2_with fail
                go_roundw
                case rel => exact ⟨m + 1, by omega, by go_num, HST.out, HBL.out⟩
                case measure => simp [intOf]; omega
              · rw [hbit] at hbitv
                have hb1 : bits .and .i64 ((m : Int) / 2 ^ k) 1 = 1 := hbitv
                have hbh := bit_high hlt hlm hbit
                have hp := pow_i hlt
                have hxr : bits .xor .i64 (m : Int) ((2 ^ k : Nat) : Int) = ((m - 2 ^ k : Nat) : Int) := by
                  rw [i64_xor_nat m (2 ^ k) (by omega) (by omega), flipG_at hlt hlm hbit]
                have hw64 : wrap64 (2 ^ k) = ((2 ^ k : Nat) : Int) := by
                  rw [show (2 ^ k : Int) = ((2 ^ k : Nat) : Int) by simp]; unfold wrap64; omega
                have hL : m - 2 ^ k < 256 := by omega
                have hLi : ((m - 2 ^ k : Nat) : Int) < 256 := by omega
                have hca : ∀ i : BW wr, i.v.cell? ⟨g + 1, m - 2 ^ k, none⟩ = some (.int .u8 ((mbS (btS t b) k (m - 2 ^ k) : Nat) : Int)) := fun i => by
                  rw [← midM_b (btS t b) hlt hlm hbit]; exact (i.below.cell (p := ⟨g + 1, m - 2 ^ k, none⟩) hrow.lt).trans (hrow.cell hL)
                have hcb : ∀ i : BW wr, i.v.cell? ⟨g + 1, m, none⟩ = some (.int .u8 ((mbS (btS t b) k m : Nat) : Int)) := fun i => by
                  rw [← midM_a (btS t b) k m]; exact (i.below.cell (p := ⟨g + 1, m, none⟩) hrow.lt).trans (hrow.cell hlm)
                have hfb : ∀ i : BW wr, i.v.frozen? ⟨g + 1, m, none⟩ = false := fun i => (i.below.frozen (p := ⟨g + 1, m, none⟩) hrow.lt).trans (hrow.frozen m)
                have h1 := mb_lt (bt_lt t b) k m
                have h2 := mb_lt (bt_lt t b) k (m - 2 ^ k)
                have hxo : bits .xor .u8 ((mbS (btS t b) k m : Nat) : Int) ((mbS (btS t b) k (m - 2 ^ k) : Nat) : Int) = ((mbS (btS t b) k m ^^^ mbS (btS t b) k (m - 2 ^ k) : Nat) : Int) := u8_xor_nat _ _ (by omega) (by omega)
                have HST : Hid (∀ i : BW wr, RowZ (i.v.setCell ⟨g + 1, m, none⟩ (.int .u8 ((mbS (btS t b) k m ^^^ mbS (btS t b) k (m - 2 ^ k) : Nat) : Int))) (g + 1) .u8 256 63 (fun x => ((midM (btS t b) k (m + 1) x : Nat) : Int))) := fun i => by
                  refine ((hrow.next i.below).set hlm _).congr fun j hj => ?_
                  rw [← midM_put (btS t b) hbit j]; split <;> rfl
                have HSB : Hid (∀ (i : BW wr) v, Below (g + 1) W (i.v.setCell ⟨g + 1, m, none⟩ v)) := fun i v => below_setCell (hbel.trans (i.below.mono (Nat.le_of_lt hrow.lt))) (Nat.le_refl _) _ v
                generalize ((mbS (btS t b) k m ^^^ mbS (btS t b) k (m - 2 ^ k) : Nat) : Int) = Z at *
                generalize ((mbS (btS t b) k m : Nat) : Int) = x at *
                generalize ((mbS (btS t b) k (m - 2 ^ k) : Nat) : Int) = y at *
                generalize m - 2 ^ k = L at *
                generalize ((2 ^ k : Nat) : Int) = PP at *
                clear hbit hbitv hbh hrow hbel hp h1 h2
                go_wp2_with fail
                refine wp_region_put (by simp) (by kernel_rfl) rfl (by kernel_rfl) (by kernel_rfl) (by kernel_rfl) ?_
                simp only [List.dropLast_cons_cons, List.dropLast_singleton, List.getLast_cons_cons, List.getLast_singleton, List.cons_append, List.nil_append, mute]
                repeat (go_big_quiet_step (fail))
                refine wpQuiet_nil ?_
                intro i
                go_wp2_with fail
                go_roundw
                case rel => exact ⟨m + 1, by omega, by go_num, HST.out _, HSB.out _ _⟩
                case measure => simp [intOf]; omega
            · obtain rfl : m = 256 := by omega
              have HRN : Hid (RowZ wr (g + 1) .u8 256 63 (fun x => ((mbS (btS t b) (k + 1) x : Nat) : Int))) := hrow.congr fun i hi => by rw [midM_all _ _ hi]
              clear hrow hbel
              go_wp2_with fail
              go_roundw
              case rel => exact ⟨k + 1, by omega, by go_num, HRN.out, HBL.out⟩
              case measure => simp [intOf]; omega
        · obtain rfl : k = 8 := by omega
          have HAN : Hid (RowZ wr (g + 1) .u8 256 63 (fun m => ((anfS t b m : Nat) : Int))) := hrow.congr fun i hi => by rw [mb_anf (t := t) (f := btS t b) (bit := b) hi (fun x => rfl)]
          have HL : Hid (wr.heap[g + 1]? = some (.cells (rowZ .u8 256 (fun m => ((anfS t b m : Nat) : Int))) (63 : TypeId) (0, 0))) := HAN.out
          have HO : Hid (wr.heap[g]? = some (.cells (rowZ .u8 256 (fun _ => 0)) (63 : TypeId) (0, 0))) := V1.out.below hbel (by omega)
          have HONE : Hid ((rowZ .u8 256 (fun m => ((anfS t b m : Nat) : Int))).all (·.oneCell') = true) := rowZ_one _ _ _
          have h4 : (rowZ .u8 256 (fun m => ((anfS t b m : Nat) : Int))).size = 256 := rowZ_size _ _ _
          have h0 : (rowZ .u8 256 (fun _ => 0)).size = 256 := rowZ_size _ _ _
          have HBG : Hid (Below g w wr) := V3.out.trans (hbel.mono (by omega))
          clear hrow hbel HAN
          generalize hC : rowZ .u8 256 (fun m => ((anfS t b m : Nat) : Int)) = C at *
          have HCE := hidD hC
          clear hC
          generalize rowZ .u8 256 (fun _ => 0) = C0 at *
          have hi : (Try.prog.info? 63).map (·.size) = some C.size := by rw [hsz, h4]
          go_wp2_with (first | (refine wpList_load_row rfl 63 _ rfl (g + 1) rfl 63 C (0, 0) _ HL.out Try.underlying63 rfl hi ?_) | (refine wpList_store_row rfl 63 _ _ rfl g C rfl rfl 63 C0 HO.out hi (by rw [h0, h4]) HONE.out ?_))
          refine bodyPost_ret (results_cell_row (P := Try.prog) (p := 4) (ty := 63) (by kernel_rfl) _ _ g 63 C (0, 0) _ rfl (setRow_heap _ _ C0 C 63 (0, 0) HO.out) Try.underlying63 rfl hi) rfl ?_
          refine ⟨by rw [HCE.out], ?_⟩
          have hfin : Below g w (wr.setRow g C) := below_setRow HBG.out (Nat.le_refl _) _
          rw [HG.out]; exact hfin
set_option maxRecDepth 100000 in
theorem pDeg_out (l : List UInt8) (hl : l.length ≠ 256) (b : Int) (v : Value) (w : World) (hv : ByAt w v l) : Calls Try.prog 28 #[v, .int .i64 b] w fun e w' => e = .returned (.tuple #[.int .i64 0, .int .i64 91]) ∧ Below w.heap.size w w' := by
  obtain ⟨a', cap, rfl, _⟩ := hv.shape
  have HI := hidD (fun w => right_any l.length cap a' w)
  rw [show decide (l.length = 256) = false by simpa using hl] at HI
  generalize l.length = n at *
  clear hl hv
  go_enter Try.func28, Try.ntmps28
  go_wp2_with (go_at_call 50; refine (HI.out _).mono ?_; rintro e w1 ⟨rfl, rfl⟩)
  refine bodyPost_ret (v := .tuple #[.int .i64 0, .int .i64 91]) (by simp [results, Try.results28, go_sem]) rfl ?_
  exact ⟨rfl, Below.refl _ _⟩
set_option maxRecDepth 100000 in
theorem pDeg_arg (l : List UInt8) (hl : l.length = 256) (b : Int) (hb : b < 0 ∨ 7 < b) (v : Value) (w : World) (hv : ByAt w v l) : Calls Try.prog 28 #[v, .int .i64 b] w fun e w' => e = .returned (.tuple #[.int .i64 0, .int .i64 1]) ∧ Below w.heap.size w w' := by
  obtain ⟨a', cap, rfl, _⟩ := hv.shape
  have HI := hidD (fun w => right_any l.length cap a' w)
  rw [show decide (l.length = 256) = true by simpa using hl] at HI
  generalize l.length = n at *
  clear hl hv
  by_cases h0 : b < 0
  · clear hb
    go_enter Try.func28, Try.ntmps28
    go_wp2_with (go_at_call 50; refine (HI.out _).mono ?_; rintro e w1 ⟨rfl, rfl⟩)
    refine bodyPost_ret (v := .tuple #[.int .i64 0, .int .i64 1]) (by simp [results, Try.results28, go_sem]) rfl ?_
    exact ⟨rfl, Below.refl _ _⟩
  · have h8 : 8 ≤ b := by omega
    have h0' : decide (b < 0) = false := by simpa using h0
    clear hb h0
    go_enter Try.func28, Try.ntmps28
    go_wp2_with (go_at_call 50; refine (HI.out _).mono ?_; rintro e w1 ⟨rfl, rfl⟩)
    refine bodyPost_ret (v := .tuple #[.int .i64 0, .int .i64 1]) (by simp [results, Try.results28, go_sem]) rfl ?_
    exact ⟨rfl, Below.refl _ _⟩
set_option maxRecDepth 100000 in
set_option maxHeartbeats 800000 in
theorem pDeg_any (l : List UInt8) (hl : l.length = 256) (b : Nat) (hb : b < 8) (v : Value) (w : World) (hv : ByAt w v l) : Calls Try.prog 28 #[v, .int .i64 (b : Int)] w fun e w' => e = .returned (.tuple #[.int .i64 (degS (tbN l) b : Nat), .int .i64 0]) ∧ Below w.heap.size w w' := by
  obtain ⟨a', cap, rfl, _⟩ := hv.shape
  have HI := hidD (fun w => right_any l.length cap a' w)
  rw [show decide (l.length = 256) = true by simpa using hl] at HI
  have HP := hidD (pProducts_any l hl b hb _ w hv)
  have HIX : Hid (∀ k : Nat, k < 256 → ∀ w, (Instr.index 63 (.agg (rowZ .u8 256 (fun m => ((anfS (tbN l) b m : Nat) : Int)))) (.int .i64 (k : Int))).run Try.prog w = .ok (.int .u8 ((anfS (tbN l) b k : Nat) : Int)) w) := fun k hk w => index256u _ k _ hk (rowZ_get .u8 256 _ k hk) w
  have HR : Hid (degS (tbN l) b = bestD (tbN l) b 256) := rfl
  have HO : Hid (∀ v : Nat, v < 256 → ∀ w, Calls Try.prog 55 #[.int .u8 (v : Int)] w fun e w' => e = .returned (.int .i64 ((onesTo v 8 : Nat) : Int)) ∧ w' = w) := fun v hv w => pOnes_any v hv w
  have HAN : Hid (∀ m, anfS (tbN l) b m < 2) := fun m => Nat.mod_lt _ (by omega)
  generalize degS (tbN l) b = R at *
  generalize hC : rowZ .u8 256 (fun m => ((anfS (tbN l) b m : Nat) : Int)) = C at *
  generalize tbN l = t at *
  generalize l.length = n at *
  have hb1 : ¬ (8 : Int) ≤ (b : Int) := by omega
  have hb0 : (0 : Int) ≤ (b : Int) := by omega
  clear hv hl hC
  go_enter Try.func28, Try.ntmps28
  go_wp2_with (first | (go_at_call 50; refine (HI.out _).mono ?_; rintro e w1 ⟨rfl, rfl⟩) | (go_at_call 54; refine HP.out.mono ?_; rintro e w2 ⟨rfl, hb2⟩; have HB2 := hidD hb2; clear hb2))
  go_loopw [6, 21] (fun d i wr => ∃ k : Nat, k ≤ 256 ∧ i = .int .i64 k ∧ d = .int .i64 ((bestD t b k : Nat) : Int) ∧ wr = w2) (fun _ i _ => 256 - (intOf i).toNat)
  case atStart => exact ⟨0, Nat.zero_le _, rfl, rfl, rfl⟩
  case round =>
    obtain ⟨k, hk, rfl, rfl, rfl⟩ := hrel
    by_cases hlt : k < 256
    · have hlti : (k : Int) < 256 := by omega
      have hmod : (k : Int) % 256 = k := by omega
      have hix := fun w => HIX.out k hlt w
      have hal := HAN.out k
      have HS := hidD (bestD_succ t b k)
      have hdl := bestD_le t b k
      have hol := ones_le k 8
      have HOk := hidD (HO.out k hlt)
      by_cases ha : anfS t b k = 1
      · rw [ha] at hix
        rw [if_pos ha] at HS
        clear ha hal
        generalize hD : bestD t b k = D at *
        generalize onesTo k 8 = N at *
        clear hD
        go_wp2_with (go_at_call 55; refine (HOk.out _).mono ?_; rintro e w3 ⟨rfl, hw3⟩; clear HOk)
        all_goals
          subst hw3
          go_roundw
          case rel => exact ⟨k + 1, by omega, by go_num, by rw [HS.out]; congr 1; omega, by first | trivial | rfl⟩
          case measure => simp [intOf]; omega
      · have h0 : anfS t b k = 0 := by omega
        rw [h0] at hix
        rw [if_neg ha] at HS
        have HS' : Hid (bestD t b (k + 1) = bestD t b k) := by show _ = _; rw [HS.out]; omega
        clear ha hal h0 HS
        generalize hD : bestD t b k = D at *
        clear hD
        go_wp2_with fail
        go_roundw
        case rel => exact ⟨k + 1, by omega, by go_num, by rw [HS'.out], by first | trivial | rfl⟩
        case measure => simp [intOf]; omega
    · obtain rfl : k = 256 := by omega
      rw [← HR.out]
      go_wp2_with fail
      refine bodyPost_ret (v := .tuple #[.int .i64 (R : Int), .int .i64 0]) (by simp [results, Try.results28, go_sem]) rfl ?_
      exact ⟨rfl, HB2.out⟩
end Go.Proofs.Ytdbledfpphkppaa
/- A row of booleans in memory. -/
namespace Go.Proofs.Ytdbledfpphkppaa
open Go.RowKit
set_option linter.unusedVariables false

def rowB (n : Nat) (f : Nat → Bool) : Array Value := ((List.range n).map fun i => Value.bool (f i)).toArray
theorem rowB_size (n : Nat) (f : Nat → Bool) : (rowB n f).size = n := by simp [rowB]
theorem rowB_get (n : Nat) (f : Nat → Bool) (i : Nat) (h : i < n) : (rowB n f)[i]? = some (.bool (f i)) := by
  unfold rowB
  rw [List.getElem?_toArray, List.getElem?_map, List.getElem?_range h]; rfl
theorem rowB_congr {n : Nat} {f g : Nat → Bool} (h : ∀ i, i < n → f i = g i) : rowB n f = rowB n g := by
  apply Array.ext_getElem?
  intro i
  by_cases hi : i < n
  · rw [rowB_get n f i hi, rowB_get n g i hi, h i hi]
  · rw [Array.getElem?_eq_none (by rw [rowB_size]; omega), Array.getElem?_eq_none (by rw [rowB_size]; omega)]
theorem rowB_set (n : Nat) (f : Nat → Bool) (j : Nat) (v : Bool) (h : j < n) : (rowB n f).setIfInBounds j (.bool v) = rowB n (fun i => if i = j then v else f i) := by
  apply Array.ext_getElem?
  intro i
  rw [Array.getElem?_setIfInBounds]
  by_cases hi : i < n
  · rw [rowB_size]
    by_cases he : j = i
    · subst he; rw [if_pos rfl, if_pos h, rowB_get n _ j h, if_pos rfl]
    · rw [if_neg he, rowB_get n f i hi, rowB_get n _ i hi, if_neg (fun h => he h.symm)]
  · have h1 : ∀ f, (rowB n f)[i]? = none := fun f => Array.getElem?_eq_none (by rw [rowB_size]; omega)
    rw [if_neg (by omega), h1, h1]
theorem rowB_one (n : Nat) (f : Nat → Bool) : (rowB n f).all (·.oneCell') = true := by
  rw [Array.all_eq_true_iff_forall_mem]
  intro v hv
  simp only [rowB, List.mem_toArray, List.mem_map] at hv
  obtain ⟨i, _, rfl⟩ := hv; rfl
def RowB (w : World) (g : Nat) (n : Nat) (ty : TypeId) (f : Nat → Bool) : Prop := w.heap[g]? = some (.cells (rowB n f) ty (0, 0))
theorem RowB.lt {w : World} {g n : Nat} {ty : TypeId} {f : Nat → Bool} (h : RowB w g n ty f) : g < w.heap.size := row_lt h
theorem RowB.cell {w : World} {g n : Nat} {ty : TypeId} {f : Nat → Bool} (h : RowB w g n ty f) {k : Nat} (hk : k < n) : w.cell? ⟨g, k, none⟩ = some (.bool (f k)) := by
  rw [cell_of_row _ _ _ _ _ _ h]; exact rowB_get n f k hk
theorem RowB.frozen {w : World} {g n : Nat} {ty : TypeId} {f : Nat → Bool} (h : RowB w g n ty f) (k : Nat) : w.frozen? ⟨g, k, none⟩ = false := frozen_of_row _ _ _ _ _ h
theorem RowB.set {w : World} {g n : Nat} {ty : TypeId} {f : Nat → Bool} (h : RowB w g n ty f) {k : Nat} (hk : k < n) (v : Bool) : RowB (w.setCell ⟨g, k, none⟩ (.bool v)) g n ty (fun i => if i = k then v else f i) := by
  unfold RowB; rw [← rowB_set n f k v hk, heap_setCell_same w g k _ _ _ h]
theorem RowB.below {w w' : World} {g n b : Nat} {ty : TypeId} {f : Nat → Bool} (h : RowB w g n ty f) (hb : Below b w w') (hg : g < b) : RowB w' g n ty f := (hb.block g hg).trans h
theorem RowB.next {w w' : World} {g n : Nat} {ty : TypeId} {f : Nat → Bool} (h : RowB w g n ty f) (hb : Below w.heap.size w w') : RowB w' g n ty f := h.below hb h.lt
theorem RowB.congr {w : World} {g n : Nat} {ty : TypeId} {f f' : Nat → Bool} (h : RowB w g n ty f) (he : ∀ i, i < n → f i = f' i) : RowB w g n ty f' := by
  unfold RowB; rw [← rowB_congr he]; exact h
theorem RowB.new (w : World) (n : Nat) (ty : TypeId) (f : Nat → Bool) : RowB (w.alloc (.cells (rowB n f) ty)) w.heap.size n ty f := heap_alloc_last _ _
end Go.Proofs.Ytdbledfpphkppaa
/- Plain: the lengths of a table's cycles as they are met, sorted and turned round; and a table that has every byte. -/
namespace Go.Proofs.Ytdbledfpphkppaa
set_option linter.unusedVariables false

def lenTo (t : Nat → Nat) : Nat → (Nat → Bool) × List Int
  | 0 => (fun _ => true, [])
  | k + 1 => ((walkC t 257 (lenTo t k).1 k 0).1, if 0 < (walkC t 257 (lenTo t k).1 k 0).2 then (lenTo t k).2 ++ [((walkC t 257 (lenTo t k).1 k 0).2 : Int)] else (lenTo t k).2)
theorem len_met (t : Nat → Nat) : ∀ k, (lenTo t k).1 = (cycTo t k).1
  | 0 => rfl
  | k + 1 => by rw [lenTo, cycTo, len_met t k]
theorem ins_count (n v : Int) (l : List Int) : (insF n l).count v = (l ++ [n]).count v := by
  unfold insF
  have h := congrArg (List.count v) (List.take_append_drop (cutF n l) l)
  rw [List.count_append] at h
  rw [List.count_append, List.count_append, List.count_cons, List.count_cons, List.count_nil]
  omega
theorem len_count (t : Nat → Nat) (v : Int) : ∀ k, (lenTo t k).2.count v = (cycTo t k).2.count v
  | 0 => rfl
  | k + 1 => by
    rw [lenTo, cycTo, len_met t k]
    dsimp only
    split
    · rw [ins_count, List.count_append, List.count_append, len_count t v k]
    · exact len_count t v k
theorem len_len (t : Nat → Nat) : ∀ k, (lenTo t k).2.length ≤ k
  | 0 => Nat.le_refl _
  | k + 1 => by
    have := len_len t k
    rw [lenTo]
    dsimp only
    split
    · rw [List.length_append, List.length_singleton]; omega
    · omega
theorem ins_cons (n x : Int) (l : List Int) : insF n (x :: l) = if n ≤ x then x :: insF n l else n :: x :: l := by
  unfold insF
  rw [cutF]
  split <;> rfl
theorem ins_mem {n v : Int} {l : List Int} (h : v ∈ insF n l) : v = n ∨ v ∈ l := by
  unfold insF at h
  rcases List.mem_append.1 h with h | h
  · exact .inr (List.mem_of_mem_take h)
  · rcases List.mem_cons.1 h with h | h
    · exact .inl h
    · exact .inr (List.mem_of_mem_drop h)
theorem ins_fall (n : Int) : ∀ l : List Int, l.Pairwise (· ≥ ·) → (insF n l).Pairwise (· ≥ ·)
  | [], _ => by show [n].Pairwise _; exact List.pairwise_singleton _ _
  | x :: l, h => by
    obtain ⟨h1, h2⟩ := List.pairwise_cons.1 h
    rw [ins_cons]
    split
    · rename_i hn
      refine List.pairwise_cons.2 ⟨fun v hv => ?_, ins_fall n l h2⟩
      rcases ins_mem hv with h | h
      · rw [h]; exact hn
      · exact h1 v h
    · rename_i hn
      refine List.pairwise_cons.2 ⟨fun v hv => ?_, h⟩
      rcases List.mem_cons.1 hv with h | h
      · rw [h]; exact Int.le_of_lt (Int.not_le.1 hn)
      · exact Int.le_trans (h1 v h) (Int.le_of_lt (Int.not_le.1 hn))
theorem cyc_fall (t : Nat → Nat) : ∀ k, (cycTo t k).2.Pairwise (· ≥ ·)
  | 0 => List.Pairwise.nil
  | k + 1 => by
    rw [cycTo]
    dsimp only
    split
    · exact ins_fall _ _ (cyc_fall t k)
    · exact cyc_fall t k
theorem cyc_sorted (t : Nat → Nat) : ((lenTo t 256).2.mergeSort fun x y => decide (x ≤ y)).reverse = cycS t := by
  refine List.Perm.eq_of_pairwise (le := fun a b : Int => a ≥ b) (fun a b _ _ h1 h2 => Int.le_antisymm h2 h1) ?_ (cyc_fall t 256) ?_
  · rw [List.pairwise_reverse]
    have := List.pairwise_mergeSort (le := fun x y : Int => decide (x ≤ y)) (fun a b c h1 h2 => by simp at *; omega) (fun a b => by simp; omega) (lenTo t 256).2
    exact this.imp fun h => by simpa using h
  · refine (List.reverse_perm _).trans ((List.mergeSort_perm _ _).trans ?_)
    rw [List.perm_iff_count]
    intro v
    exact len_count t v 256
/- every byte -/
theorem sm_ge {f : Nat → Nat} : ∀ {n v : Nat}, (∀ x, x < n → 1 ≤ f x) → v < n → n + f v ≤ sm f n + 1
  | n + 1, v, h, hv => by
    rw [sm]
    have hn := h n (by omega)
    by_cases he : v = n
    · subst he
      have : ∀ m, m ≤ v → m ≤ sm f m := fun m => by
        induction m with
        | zero => intro _; exact Nat.zero_le _
        | succ m ih => intro hm; rw [sm]; have := ih (by omega); have := h m (by omega); omega
      have := this v (Nat.le_refl _)
      omega
    · have := sm_ge (n := n) (v := v) (fun x hx => h x (by omega)) (by omega)
      omega
theorem once_pos {t : Nat → Nat} (ht : ∀ x, x < 256 → t x < 256) (h : ∀ v, v < 256 → 0 < cnV t 256 v) : onceB t = true := by
  refine once_all fun v hv => ?_
  have h1 := ct_all t (m := 256) (n := 256) ht
  have h2 := sm_ge (f := fun c => ct (fun x => t x == c) 256) (n := 256) (v := v) (fun x hx => h x hx) hv
  have h3 := h v hv
  unfold cnV at h3
  rw [h1] at h2
  omega
theorem once_neg {t : Nat → Nat} {v : Nat} (hv : v < 256) (h : cnV t 256 v = 0) : onceB t = false := once_not hv (by unfold cnV at h; rw [h]; simp)
end Go.Proofs.Ytdbledfpphkppaa
/- What the program's hasAll and Cycles answer (over contracts of sorting and of turning round). -/
namespace Go.Proofs.Ytdbledfpphkppaa
open Go.RowKit
set_option linter.unusedVariables false

theorem Try.zero65 : (Try.prog.info? 65).map (fun i => (i.zero, i.size)) = some (some (.agg (rowB 256 (fun _ => false))), 256) := by kernel_rfl
theorem Try.info4 : (Try.prog.info? 4).map (fun i => (i.zero, i.size, i.bytes)) = some (some (.bool false), 1, 1) := by kernel_rfl
theorem index256t (C : Array Value) (k : Nat) (u : Value) (hk : k < 256) (h : C[k]? = some u) (w : World) : (Instr.index 65 (.agg C) (.int .i64 (k : Int))).run Try.prog w = .ok u w := by
  have hu : Try.prog.underlying 65 = some (.array 256 4) := by kernel_rfl
  have hpk : Try.prog.plainKey 4 = true := by kernel_rfl
  have hc : Try.prog.cellsOf 4 = 1 := by kernel_rfl
  obtain ⟨i0, hi, _⟩ := info_parts Try.info4
  have hn : (0 : Int) ≤ (k : Int) ∧ (k : Int) < ((256 : Nat) : Int) := by omega
  have hp := run_part_plain (P := Try.prog) (w := w) hpk (xs := C) (off := k) (v := u) h
  simp only [Instr.index, asIntOf, Sem.run_bind, Sem.run_pure, Result.andThen_ok, run_underlying hu, if_pos hn, run_sizeOf w hi, hc, Nat.mul_one, Int.toNat_natCast, hp]
def hdS (t : Nat → Nat) (k v : Nat) : Bool := decide (0 < cnV t k v)
set_option maxRecDepth 100000 in
set_option maxHeartbeats 800000 in
theorem hasAll_any (l : List UInt8) (hl : l.length = 256) (v : Value) (w : World) (hv : ByAt w v l) : Calls Try.prog 56 #[v] w fun e w' => e = .returned (.bool (onceB (tbN l))) ∧ Below w.heap.size w w' := by
  obtain ⟨a', cap, rfl, _⟩ := hv.shape
  have HT0 := hidD (fun wr (hb : Below w.heap.size w wr) x (hx : x < 256) => tab_cell0 hv hl hb hx)
  have HL := hidD (fun x => tbN_lt l x)
  rw [hl] at *
  clear hv hl
  generalize tbN l = t at *
  obtain ⟨hz, hsz⟩ := zero_of_info Try.zero65
  go_enter Try.func56, Try.ntmps56
  go_wp2_with fail
  have HRZ := hidD (RowB.new w 256 65 (fun _ => false))
  have HB1 : Hid (Below w.heap.size w (w.alloc (.cells (rowB 256 (fun _ => false)) 65))) := (Below.refl _ _).alloc (Nat.le_refl _) _
  generalize w.alloc (.cells (rowB 256 (fun _ => false)) 65) = w1 at *
  generalize hg : w.heap.size = g at *
  have HG := hidD hg
  clear hg
  go_loopw [10] (fun i wr => ∃ k : Nat, k ≤ 256 ∧ i = .int .i64 k ∧ RowB wr g 256 65 (hdS t k) ∧ Below g w wr) (fun i _ => 256 - (intOf i).toNat)
  case atStart => exact ⟨0, Nat.zero_le _, rfl, HRZ.out, HB1.out⟩
  case round =>
    obtain ⟨k, hk, rfl, hrow, hbel⟩ := hrel
    have HBL := hidD hbel
    have HRW := hidD hrow
    by_cases hlt : k < 256
    · have hlti : (k : Int) < 256 := by omega
      obtain ⟨g', o, rfl, hg', hc1⟩ := HT0.out wr hbel k hlt
      have hT := HL.out k
      have hco := hrow.cell hT
      have hfo := hrow.frozen (t k)
      have HST : Hid (RowB (wr.setCell ⟨g, t k, none⟩ (.bool true)) g 256 65 (hdS t (k + 1))) := (hrow.set hT true).congr fun j _ => by
        unfold hdS cnV; rw [ct_succ]
        by_cases he : j = t k
        · rw [if_pos he, ← he]; simp
        · rw [if_neg he, show (t k == j) = false by simpa using Ne.symm he]; simp
      have HSB : Hid (∀ v, Below g w (wr.setCell ⟨g, t k, none⟩ v)) := fun v => below_setCell hbel (Nat.le_refl _) _ v
      generalize hdS t k (t k) = N at *
      generalize t k = T at *
      have hTi : (T : Int) < 256 := by omega
      clear hbel hrow
      go_wp2_with fail
      go_roundw
      case rel => exact ⟨k + 1, by omega, by go_num, HST.out, HSB.out _⟩
      case measure => simp [intOf]; omega
    · obtain rfl : k = 256 := by omega
      have HIX : Hid (∀ k : Nat, k < 256 → ∀ w, (Instr.index 65 (.agg (rowB 256 (hdS t 256))) (.int .i64 (k : Int))).run Try.prog w = .ok (.bool (hdS t 256 k)) w) := fun k hk w => index256t _ k _ hk (rowB_get 256 _ k hk) w
      have HLD : Hid (wr.heap[g]? = some (.cells (rowB 256 (hdS t 256)) (65 : TypeId) (0, 0))) := hrow
      have h4 : (rowB 256 (hdS t 256)).size = 256 := rowB_size _ _
      clear hbel hrow
      generalize rowB 256 (hdS t 256) = C at *
      have hi : (Try.prog.info? 65).map (·.size) = some C.size := by rw [hsz, h4]
      go_wp2_with (refine wpList_load_row rfl 65 _ rfl g rfl 65 C (0, 0) _ HLD.out Try.underlying65 rfl hi ?_)
      go_loopw [18] (fun i wr' => ∃ k : Nat, k ≤ 256 ∧ i = .int .i64 k ∧ (∀ v, v < k → 0 < cnV t 256 v) ∧ wr' = wr) (fun i _ => 256 - (intOf i).toNat)
      case atStart => exact ⟨0, Nat.zero_le _, rfl, fun v h => absurd h (by omega), rfl⟩
      case round =>
        obtain ⟨k, hk, rfl, hall, rfl⟩ := hrel
        have HALL := hidD hall
        clear hall
        by_cases hlt : k < 256
        · have hlti : (k : Int) < 256 := by omega
          have hix := fun w => HIX.out k hlt w
          by_cases h1 : 0 < cnV t 256 k
          · have HN : Hid (∀ v, v < k + 1 → 0 < cnV t 256 v) := fun v hv => by
              by_cases he : v = k
              · rw [he]; exact h1
              · exact HALL.out v (by omega)
            rw [show hdS t 256 k = true by unfold hdS; simpa using h1] at hix
            clear h1
            go_wp2_with fail
            go_roundw
            case rel => exact ⟨k + 1, by omega, by go_num, HN.out, by first | trivial | rfl⟩
            case measure => simp [intOf]; omega
          · have HON : Hid (onceB t = false) := once_neg hlt (by omega)
            rw [show hdS t 256 k = false by unfold hdS; simpa using h1] at hix
            clear h1
            go_wp2_with fail
            refine bodyPost_ret (v := .bool false) (by simp [results, Try.results56, go_sem]) rfl ?_
            refine ⟨by rw [HON.out], ?_⟩
            rw [HG.out]; exact HBL.out
        · obtain rfl : k = 256 := by omega
          have HON : Hid (onceB t = true) := once_pos (fun x _ => HL.out x) HALL.out
          go_wp2_with fail
          refine bodyPost_ret (v := .bool true) (by simp [results, Try.results56, go_sem]) rfl ?_
          refine ⟨by rw [HON.out], ?_⟩
          rw [HG.out]; exact HBL.out
set_option maxRecDepth 100000 in
theorem pCyc_out (l : List UInt8) (hl : l.length ≠ 256) (v : Value) (w : World) (hv : ByAt w v l) : Calls Try.prog 30 #[v] w fun e w' => e = .returned (.tuple #[.slice none 0 0, .int .i64 91]) ∧ Below w.heap.size w w' := by
  obtain ⟨a', cap, rfl, _⟩ := hv.shape
  have HI := hidD (fun w => right_any l.length cap a' w)
  rw [show decide (l.length = 256) = false by simpa using hl] at HI
  generalize l.length = n at *
  clear hl hv
  go_enter Try.func30, Try.ntmps30
  go_wp2_with (go_at_call 50; refine (HI.out _).mono ?_; rintro e w1 ⟨rfl, rfl⟩)
  refine bodyPost_ret (v := .tuple #[.slice none 0 0, .int .i64 91]) (by simp [results, Try.results30, go_sem]) rfl ?_
  exact ⟨rfl, Below.refl _ _⟩
set_option maxRecDepth 100000 in
theorem pCyc_not (l : List UInt8) (hl : l.length = 256) (ho : onceB (tbN l) = false) (v : Value) (w : World) (hv : ByAt w v l) : Calls Try.prog 30 #[v] w fun e w' => e = .returned (.tuple #[.slice none 0 0, .int .i64 1]) ∧ Below w.heap.size w w' := by
  obtain ⟨a', cap, rfl, _⟩ := hv.shape
  have HI := hidD (fun w => right_any l.length cap a' w)
  rw [show decide (l.length = 256) = true by simpa using hl] at HI
  have HH := hidD (hasAll_any l hl _ w hv)
  rw [ho] at HH
  generalize l.length = n at *
  clear hl hv ho
  go_enter Try.func30, Try.ntmps30
  go_wp2_with (first | (go_at_call 50; refine (HI.out _).mono ?_; rintro e w1 ⟨rfl, rfl⟩) | (go_at_call 56; refine HH.out.mono ?_; rintro e w2 ⟨rfl, hb2⟩))
  refine bodyPost_ret (v := .tuple #[.slice none 0 0, .int .i64 1]) (by simp [results, Try.results30, go_sem]) rfl ?_
  exact ⟨rfl, hb2⟩
theorem len_pos (t : Nat → Nat) : ∀ k, 0 < (lenTo t (k + 1)).2.length
  | 0 => by
    have h : 1 ≤ (walkC t 257 (fun _ => true) 0 0).2 := by
      rw [show walkC t 257 (fun _ => true) 0 0 = walkC t 256 (fun z => if z = 0 then false else true) (t 0) 1 from rfl]
      exact walk_le t 256 _ _ 1
    show 0 < (if 0 < (walkC t 257 (fun _ => true) 0 0).2 then [] ++ [((walkC t 257 (fun _ => true) 0 0).2 : Int)] else []).length
    rw [if_pos (by omega)]
    simp
  | k + 1 => by
    have := len_pos t k
    rw [lenTo]
    dsimp only
    split
    · rw [List.length_append]; omega
    · exact this
/-- The cells of a row that grew by appending. -/
theorem own_holds {w : World} {base g cap : Nat} {L : List Int} (h : w.ownsRow base 3 1 (.slice (some ⟨g, 0, none⟩) L.length cap) L.length (L.map encI)) : Go.Sort.Holds (Value.int .i64) w g 0 L.toArray ∧ g < w.heap.size ∧ base ≤ g := by
  rcases h.2 with ⟨hc, _⟩ | ⟨g', cap', cur, he, hb, hg, hc, hm, hs, ht⟩
  · cases hc
  · cases he
    refine ⟨fun j hj => ?_, row_lt hg, hb⟩
    have hjl : j < L.length := by simpa using hj
    refine ⟨?_, frozen_of_row _ _ _ _ _ hg⟩
    rw [Nat.zero_add, cell_of_row _ _ _ _ _ _ hg]
    have h1 : cur.toList[j]? = (L.map encI)[j]? := by
      rw [← ht, List.getElem?_take, if_pos (by rw [Nat.mul_one]; exact hjl)]
    rw [← Array.getElem?_toList, h1, List.getElem?_map, List.getElem?_eq_getElem hjl]
    simp [hjl, encI]
theorem holds_is {w : World} {g cap : Nat} {L : List Int} (h : Go.Sort.Holds (Value.int .i64) w g 0 L.toArray) (hg : g < w.heap.size) : IsAt w (.slice (some ⟨g, 0, none⟩) L.length cap) L := by
  refine .inr ⟨g, 0, cap, rfl, hg, fun j hj => ?_⟩
  rw [(h j (by simpa using hj)).1]
  simp [hj]; rfl
/-- What is asked of sorting, and of turning round. -/
def SortC : Prop := ∀ (L : List Int) (g cap : Nat) (w : World), Go.Sort.Holds (Value.int .i64) w g 0 L.toArray → g < w.heap.size → L.length ≤ 1000 → Calls Try.prog 57 #[.slice (some ⟨g, 0, none⟩) L.length cap] w fun e w' => e = .returned (.tuple #[]) ∧ Go.Sort.Holds (Value.int .i64) w' g 0 (L.mergeSort fun x y => decide (x ≤ y)).toArray ∧ Below g w w' ∧ g < w'.heap.size
def TurnC : Prop := ∀ (L : List Int) (g cap : Nat) (w : World), Go.Sort.Holds (Value.int .i64) w g 0 L.toArray → g < w.heap.size → L.length ≤ 1000 → Calls Try.prog 58 #[.slice (some ⟨g, 0, none⟩) L.length cap] w fun e w' => e = .returned (.tuple #[]) ∧ Go.Sort.Holds (Value.int .i64) w' g 0 L.reverse.toArray ∧ Below g w w' ∧ g < w'.heap.size
set_option maxRecDepth 100000 in
set_option maxHeartbeats 1600000 in
theorem pCyc_gen (hS : SortC) (hT : TurnC) (l : List UInt8) (hl : l.length = 256) (ho : onceB (tbN l) = true) (v : Value) (w : World) (hv : ByAt w v l) : Calls Try.prog 30 #[v] w fun e w' => (∃ vo, e = .returned (.tuple #[vo, .int .i64 0]) ∧ IsAt w' vo (cycS (tbN l))) ∧ Below w.heap.size w w' := by
  obtain ⟨a', cap, rfl, _⟩ := hv.shape
  have HI := hidD (fun w => right_any 256 cap a' w)
  rw [show decide (256 = 256) = true by decide] at HI
  have HH := hidD (hasAll_any l hl _ w hv)
  rw [ho] at HH
  have HT0 := hidD (fun wr (hb : Below w.heap.size w wr) x (hx : x < 256) => tab_cell0 hv hl hb hx)
  have HL := hidD (fun x => tbN_lt l x)
  have HSO := hidD hS
  have HTU := hidD hT
  rw [hl] at *
  clear hv hl ho hS hT
  have HAL : Hid (∀ (w' : World) o, Below w'.heap.size w' (w'.alloc o)) := fun w' o => (Below.refl _ _).alloc (Nat.le_refl _) o
  have HCS := hidD (cyc_sorted (tbN l))
  generalize tbN l = t at *
  generalize hcy : cycS t = CY at *
  clear hcy
  obtain ⟨hz, hsz⟩ := zero_of_info Try.zero65
  go_enter Try.func30, Try.ntmps30
  go_wp2_with (first | (go_at_call 50; refine (HI.out _).mono ?_; rintro e w1 ⟨rfl, rfl⟩; clear HI) | (go_at_call 56; refine HH.out.mono ?_; rintro e w2 ⟨rfl, hb2⟩; have HB0 := hidD hb2; clear hb2))
  clear HH
  have HRZ := hidD (RowB.new w2 256 65 (fun _ => false))
  have HB1 : Hid (Below w2.heap.size w2 (w2.alloc (.cells (rowB 256 (fun _ => false)) 65))) := (Below.refl _ _).alloc (Nat.le_refl _) _
  generalize w2.alloc (.cells (rowB 256 (fun _ => false)) 65) = w3 at *
  have HGE : Hid (w1.heap.size ≤ w2.heap.size) := HB0.out.size
  have HBB : Hid (∀ wr, Below w2.heap.size w2 wr → Below w1.heap.size w1 wr) := fun wr h => Below.next HB0.out h
  generalize hg : w2.heap.size = g at *
  clear hg
  go_loopw [4, 15] (fun o i wr => ∃ k : Nat, k ≤ 256 ∧ i = .int .i64 k ∧ wr.ownsRow (g + 1) 3 1 o (lenTo t k).2.length ((lenTo t k).2.map encI) ∧ RowB wr g 256 65 (fun z => !(lenTo t k).1 z) ∧ Below g w2 wr) (fun _ i _ => 256 - (intOf i).toNat)
  case atStart => exact ⟨0, Nat.zero_le _, rfl, World.ownsRow_nil _ _ _ _, HRZ.out, HB1.out⟩
  case round =>
    obtain ⟨k, hk, rfl, hown, hrow, hbel⟩ := hrel
    have HBL := hidD hbel
    have HRW := hidD hrow
    have HOW := hidD hown
    clear hbel hrow hown
    by_cases hlt : k < 256
    · have hlti : (k : Int) < 256 := by omega
      have HCL := hidD (len_len t k)
      have HC1 : Hid ((lenTo t (k + 1)).1 = (walkC t 257 (lenTo t k).1 k 0).1) := rfl
      have HC2 : Hid ((lenTo t (k + 1)).2 = if 0 < (walkC t 257 (lenTo t k).1 k 0).2 then (lenTo t k).2 ++ [((walkC t 257 (lenTo t k).1 k 0).2 : Int)] else (lenTo t k).2) := rfl
      have HCT := hidD (ct_le (lenTo t k).1 256)
      generalize hL : (lenTo t k).2 = L at *
      generalize hM : (lenTo t k).1 = M0 at *
      generalize hW : walkC t 257 M0 k 0 = W at *
      have HWQ := hidD hW
      clear hL hM hW
      go_wp2_with fail
      go_loopw [7, 8] (fun n y wr' => ∃ (m : Nat → Bool) (yn nn : Nat), y = .int .i64 yn ∧ n = .int .i64 nn ∧ yn < 256 ∧ nn + ct m 256 ≤ 256 ∧ walkC t (257 - nn) m yn nn = W ∧ RowB wr' g 256 65 (fun z => !m z) ∧ But g wr wr') (fun n _ _ => 256 - (intOf n).toNat)
      case atStart => exact ⟨M0, k, 0, rfl, rfl, hlt, by have := HCT.out; omega, HWQ.out, HRW.out, But.refl _ _⟩
      case round =>
        obtain ⟨m, yn, nn, rfl, rfl, hy, hct, hwk, hrow, hbut⟩ := hrel
        have HBU := hidD hbut
        have hbel := HBL.out.trans hbut.bel
        have hown := row_but HOW.out hbut
        have HBL := hidD hbel
        have HRW := hidD hrow
        have HOW := hidD hown
        have HWK := hidD hwk
        have hco := hrow.cell hy
        have hfo := hrow.frozen yn
        have hyi : (yn : Int) < 256 := by omega
        cases hm : m yn with
        | true =>
          rw [hm] at hco
          have hco : wr.cell? ⟨g, yn, none⟩ = some (.bool false) := hco
          have hpos := ct_pos m hm hy
          have hcl := ct_clear m hm hy
          have HCT2 : Hid (nn + 1 + ct (fun z => if z = yn then false else m z) 256 ≤ 256) := by show _ ≤ _; omega
          have HNX : Hid (walkC t (257 - (nn + 1)) (fun z => if z = yn then false else m z) (t yn) (nn + 1) = W) := by
            show _ = _
            rw [← HWK.out, show 257 - nn = (257 - (nn + 1)) + 1 by omega, walkC, if_pos hm]
          have HR2 : Hid (RowB (wr.setCell ⟨g, yn, none⟩ (.bool true)) g 256 65 (fun z => !(if z = yn then false else m z))) :=
            (hrow.set hy true).congr fun j _ => by
              by_cases he : j = yn
              · rw [if_pos he, if_pos he]; rfl
              · rw [if_neg he, if_neg he]
          have HB2 : Hid (Below g w2 (wr.setCell ⟨g, yn, none⟩ (.bool true))) := below_setCell hbel (Nat.le_refl _) _ _
          have HO2 := hidD (hbut.put yn (.bool true))
          obtain ⟨g', o, rfl, hg', hc1⟩ := HT0.out _ (HBB.out _ HB2.out) yn hy
          have HTY := hidD (HL.out yn)
          have HNN : Hid (nn < 256) := by show nn < 256; omega
          have hnn : (nn : Int) < 256 := by omega
          generalize hty : t yn = T at *
          have hTY : T < 256 := HTY.out
          clear hbel hrow hown hwk hm hty hbut
          go_wp2_with fail
          go_roundw
          case rel => exact ⟨_, T, nn + 1, by go_num, by go_num, HTY.out, HCT2.out, HNX.out, HR2.out, HO2.out⟩
          case measure => have := HNN.out; simp [intOf]; omega
        | false =>
          rw [hm] at hco
          have hco : wr.cell? ⟨g, yn, none⟩ = some (.bool true) := hco
          have HWE : Hid (W = (m, nn)) := by
            show _ = _
            rw [← HWK.out, show 257 - nn = (256 - nn) + 1 by omega, walkC, if_neg (by rw [hm]; simp)]
          clear hbel hrow hown hwk hm hbut
          have hcl := HCL.out
          by_cases hn0 : 0 < nn
          · have hn0i : (0 : Int) < nn := by omega
            have HN2 : Hid ((lenTo t (k + 1)).2 = L ++ [(nn : Int)]) := by show _ = _; rw [HC2.out, HWE.out]; exact if_pos hn0
            have HN1 : Hid ((lenTo t (k + 1)).1 = m) := by show _ = _; rw [HC1.out, HWE.out]
            have HLE : Hid (L.length ≤ 256) := by show _ ≤ _; omega
            go_wp2_with (at_builtin; refine wpList_append_is rfl _ _ rfl (g + 1) u4 L.length (L.map encI) rfl (HOW.out.alloc _) (.slice (some ⟨wr.heap.size, 0, none⟩) 1 1) [(nn : Int)] rfl (is_new _ _) (by have := HLE.out; simp; omega) (by have := HRW.out.lt; simp; omega) ?_; intro v8 w8 hown8 hg8; have HO8 := hidD hown8; have HB8 := hidD (row_grown (a := wr) (HOW.out.alloc _) ((HAL.out wr _).mono (Nat.succ_le_of_lt HRW.out.lt)) hg8 (by have := HRW.out.lt; simp; omega)); clear hown8 hg8)
            go_roundw
            case rel =>
              first
              | exact ⟨k + 1, by omega, by go_num, by rw [HN2.out, List.map_append, List.length_append]; exact HO8.out, by rw [HN1.out]; exact HRW.out.below HB8.out (Nat.lt_succ_self _), HBL.out.trans (HB8.out.mono (Nat.le_succ _))⟩
              | (repeat apply Exists.intro
                 refine And.intro (a := _) (b := _) ?_ ?_
                 rotate_left
                 · rfl
                 exact ⟨k + 1, by omega, by go_num, by rw [HN2.out, List.map_append, List.length_append]; exact HO8.out, by rw [HN1.out]; exact HRW.out.below HB8.out (Nat.lt_succ_self _), HBL.out.trans (HB8.out.mono (Nat.le_succ _))⟩)
            case measure => simp [intOf]; omega
          · obtain rfl : nn = 0 := by omega
            have HN2 : Hid ((lenTo t (k + 1)).2 = L) := by show _ = _; rw [HC2.out, HWE.out]; exact if_neg (by simp)
            have HN1 : Hid ((lenTo t (k + 1)).1 = m) := by show _ = _; rw [HC1.out, HWE.out]
            go_wp2_with fail
            go_roundw
            case rel => exact ⟨k + 1, by omega, by go_num, by rw [HN2.out]; exact HOW.out, by rw [HN1.out]; exact HRW.out, HBL.out⟩
            case measure => simp [intOf]; omega
    · obtain rfl : k = 256 := by omega
      have HLP := hidD (len_pos t 255)
      have HLL := hidD (len_len t 256)
      generalize hL : (lenTo t 256).2 = L at *
      clear hL
      obtain ⟨gl, cl, hve, _⟩ := row_shapeC HOW.out HLP.out
      have HV := hidD hve
      have ho := HOW.out
      rw [hve] at ho
      obtain ⟨hH, hgl, hge⟩ := own_holds ho
      have HS := hidD (HSO.out L gl cl wr hH hgl (by have := HLL.out; omega))
      have HGL := hidD hge
      clear ho hve hH hgl hge
      have HML : Hid ((L.mergeSort fun x y => decide (x ≤ y)).length = L.length) := List.length_mergeSort _
      have HRL : Hid ((L.mergeSort fun x y => decide (x ≤ y)).reverse.length = L.length) := by show _ = _; rw [List.length_reverse, HML.out]
      rw [HV.out]
      go_wp2_with (first
        | (go_at_call 57; refine HS.out.mono ?_; rintro e w5 ⟨rfl, hH5, hb5, hg5⟩; have HT := hidD (HTU.out _ gl cl w5 hH5 hg5 (by rw [HML.out]; have := HLL.out; omega)); rw [HML.out] at HT; have HB5 := hidD hb5; clear hH5 hb5 hg5)
        | (go_at_call 58; refine HT.out.mono ?_; rintro e w6 ⟨rfl, hH6, hb6, hg6⟩; have HH6 := hidD hH6; have HB6 := hidD hb6; have HG6 := hidD hg6; clear hH6 hb6 hg6))
      refine bodyPost_ret (v := .tuple #[.slice (some ⟨gl, 0, none⟩) L.length cl, .int .i64 0]) (by simp [results, Try.results30, go_sem]) rfl ?_
      refine ⟨⟨_, rfl, ?_⟩, ?_⟩
      · have := holds_is (cap := cl) HH6.out HG6.out
        rw [HRL.out, HCS.out] at this; exact this
      · exact (HBB.out _ HBL.out).trans ((HB5.out.trans HB6.out).mono (by have := HGE.out; have := HGL.out; omega))
theorem pCyc_any' (hS : SortC) (hT : TurnC) (l : List UInt8) (hl : l.length = 256) (v : Value) (w : World) (hv : ByAt w v l) : Calls Try.prog 30 #[v] w fun e w' => ((onceB (tbN l) = true ∧ ∃ vo, e = .returned (.tuple #[vo, .int .i64 0]) ∧ IsAt w' vo (cycS (tbN l))) ∨ (onceB (tbN l) = false ∧ e = .returned (.tuple #[.slice none 0 0, .int .i64 1]))) ∧ Below w.heap.size w w' := by
  cases h : onceB (tbN l) with
  | true => exact (pCyc_gen hS hT l hl h v w hv).mono fun e w' ⟨h1, h2⟩ => ⟨.inl ⟨rfl, h1⟩, h2⟩
  | false => exact (pCyc_not l hl h v w hv).mono fun e w' ⟨h1, h2⟩ => ⟨.inr ⟨rfl, h1⟩, h2⟩
end Go.Proofs.Ytdbledfpphkppaa
/- What a row that is written in place, and new memory behind it, leave as it was. -/
namespace Go.Proofs.Ytdbledfpphkppaa
open Go.RowKit
set_option linter.unusedVariables false

theorem put_size (w : World) (n g : Nat) (d : Array Int) : (Go.Sort.putRow (Value.int .i64) (Go.Sort.ahead w n) g 0 d).heap.size = w.heap.size := by
  simp [Go.Sort.putRow, Go.Sort.mapBlock, Go.Sort.ahead]
theorem put_below (w : World) (n g : Nat) (d : Array Int) (os : Array Obj) (hg : g < w.heap.size) : Below g w (Go.Sort.grow (Go.Sort.putRow (Value.int .i64) (Go.Sort.ahead w n) g 0 d) os) := by
  refine ⟨rfl, rfl, rfl, ?_, fun i hi => ?_⟩
  · rw [Go.Sort.size_grow, put_size]; omega
  · rw [Go.Sort.heap_grow_old _ _ (by rw [put_size]; omega)]
    show (w.heap.modify g _)[i]? = w.heap[i]?
    rw [Array.getElem?_modify, if_neg (by omega)]
theorem put_holds {w : World} {g : Nat} {L M : List Int} (h : Go.Sort.Holds (Value.int .i64) w g 0 L.toArray) (hg : g < w.heap.size) (hl : M.length = L.length) (n : Nat) (os : Array Obj) :
    Go.Sort.Holds (Value.int .i64) (Go.Sort.grow (Go.Sort.putRow (Value.int .i64) (Go.Sort.ahead w n) g 0 M.toArray) os) g 0 M.toArray ∧ Below g w (Go.Sort.grow (Go.Sort.putRow (Value.int .i64) (Go.Sort.ahead w n) g 0 M.toArray) os) ∧ g < (Go.Sort.grow (Go.Sort.putRow (Value.int .i64) (Go.Sort.ahead w n) g 0 M.toArray) os).heap.size :=
  ⟨Go.Sort.holds_grow _ _ _ _ _ _ (by rw [put_size]; exact hg) (Go.Sort.holds_putRow _ _ _ _ L.toArray _ (Go.Sort.holds_ahead _ _ _ _ _ _ h) (by simpa using hl)), put_below _ _ _ _ _ hg, by rw [Go.Sort.size_grow, put_size]; omega⟩
end Go.Proofs.Ytdbledfpphkppaa
