/- What the program's Linear answers. -/
import Derived.Test.YtdbledfpphkppaaPgl
namespace Go.Proofs.Ytdbledfpphkppaa
open Go.RowKit
set_option linter.unusedVariables false

def bitQ (k i : Nat) : Bool := !i.testBit k || ((i ^^^ 2 ^ k) == i - 2 ^ k)
theorem bitQ_tab : ((List.range 8).all fun k => (List.range 256).all fun i => bitQ k i) = true := by decide +kernel
theorem flip_at {k i : Nat} (hk : k < 8) (hi : i < 256) (h : i.testBit k = true) : i ^^^ 2 ^ k = i - 2 ^ k := by
  have := List.all_eq_true.1 (List.all_eq_true.1 bitQ_tab k (by simpa using hk)) i (by simpa using hi)
  unfold bitQ at this
  rw [h] at this
  simpa using this
theorem shl_one {k : Nat} (hk : k < 8) : (1 : Int) * 2 ^ k = ((2 ^ k : Nat) : Int) := by simp
set_option maxRecDepth 100000 in
set_option maxHeartbeats 4000000 in
theorem pTwice_any (l : List UInt8) (hl : l.length = 256) (B : Nat) (hB : B < 256) (v : Value) (w : World) (hv : ByAt w v l) : Calls Try.prog 60 #[v, .int .u8 (B : Int)] w fun e w' => e = .returned (.agg (rowZ .i64 256 (whS (sgS (tbN l) B) 8))) ∧ Below w.heap.size w w' := by
  obtain ⟨a', cap, rfl, _⟩ := hv.shape
  have HTC := hidD (fun wr (hb : Below w.heap.size w wr) x (hx : x < 256) => tab_cell0 hv hl hb hx)
  have HL := hidD (fun x => tbN_lt l x)
  have HPA : Hid (∀ v : Nat, v < 256 → ∀ w, Calls Try.prog 52 #[.int .u8 (v : Int)] w fun e w' => e = .returned (.int .i64 (parS v : Nat)) ∧ w' = w) := fun v hv w => pParity_any v hv w
  rw [hl] at *
  clear hv hl
  generalize tbN l = t at *
  obtain ⟨hz, hsz⟩ := zero_of_info Try.zero60
  obtain ⟨hw1, hw2, hw3⟩ := two_rowsZ w 256 .i64 60 (fun _ => 0)
  have W1 := hidD hw1
  have W2 := hidD hw2
  have W3 := hidD hw3
  clear hw1 hw2 hw3
  go_enter Try.func60, Try.ntmps60
  go_wp2_with fail
  generalize hW : World.alloc _ (Obj.cells (rowZ .i64 256 (fun _ => 0)) (60 : TypeId)) = W
  have V1 : Hid (RowZ W w.heap.size .i64 256 60 (fun _ => 0)) := by rw [← hW]; exact W1.out
  have V2 : Hid (RowZ W (w.heap.size + 1) .i64 256 60 (fun _ => 0)) := by rw [← hW]; exact W2.out
  have V3 : Hid (Below w.heap.size w W) := by rw [← hW]; exact W3.out
  clear hW W1 W2 W3
  generalize hg : w.heap.size = g at *
  have HG := hidD hg
  clear hg
  go_loopw [13] (fun i wr => ∃ k : Nat, k ≤ 256 ∧ i = .int .i64 k ∧ RowZ wr (g + 1) .i64 256 60 (fun x => if x < k then sgS t B x else 0) ∧ Below (g + 1) W wr) (fun i _ => 256 - (intOf i).toNat)
  case atStart => exact ⟨0, Nat.zero_le _, rfl, V2.out, Below.refl _ _⟩
  case round =>
    obtain ⟨k, hk, rfl, hrow, hbel⟩ := hrel
    have HBL := hidD hbel
    have HRW := hidD hrow
    have hbg : Below g w wr := V3.out.trans (hbel.mono (by omega))
    by_cases hlt : k < 256
    · have hlti : (k : Int) < 256 := by omega
      obtain ⟨g', o, rfl, hg, hc1⟩ := HTC.out wr hbg k hlt
      have hz2 := u8_andN (HL.out k) hB
      have hy : t k &&& B < 256 := and256 hB
      have hcc := hrow.cell hlt
      have hfr := hrow.frozen k
      have HP := hidD (HPA.out (t k &&& B) hy)
      have hpl := par_lt (t k &&& B)
      have HST : Hid (RowZ (wr.setCell ⟨g + 1, k, none⟩ (.int .i64 (1 - 2 * (parS (t k &&& B) : Int)))) (g + 1) .i64 256 60 (fun x => if x < k + 1 then sgS t B x else 0)) := by
        refine (hrow.set hlt _).congr fun i hi => ?_
        by_cases he : i = k
        · subst he; rw [if_pos rfl, if_pos (by omega)]; rfl
        · rw [if_neg he]
          by_cases h2 : i < k
          · rw [if_pos h2, if_pos (by omega)]
          · rw [if_neg h2, if_neg (by omega)]
      have HSB : Hid (∀ v, Below (g + 1) W (wr.setCell ⟨g + 1, k, none⟩ v)) := fun v => below_setCell hbel (Nat.le_refl _) _ v
      generalize parS (t k &&& B) = p at *
      generalize ((t k &&& B : Nat) : Int) = y at *
      generalize (t k : Int) = X at *
      clear hbel hrow hbg
      go_wp2_with (go_at_call 52; refine (HP.out _).mono ?_; rintro e w2 ⟨rfl, rfl⟩; clear HP)
      go_roundw
      case rel => exact ⟨k + 1, by omega, by go_num, HST.out, HSB.out _⟩
      case measure => simp [intOf]; omega
    · obtain rfl : k = 256 := by omega
      have HRW : Hid (RowZ wr (g + 1) .i64 256 60 (whS (sgS t B) 0)) := hrow.congr fun i hi => by rw [if_pos hi]; rfl
      clear hrow hbel hbg
      go_wp2_with fail
      go_loopw [27] (fun h wr => ∃ k : Nat, k ≤ 8 ∧ h = .int .i64 k ∧ RowZ wr (g + 1) .i64 256 60 (whS (sgS t B) k) ∧ Below (g + 1) W wr) (fun h _ => 8 - (intOf h).toNat)
      case atStart => exact ⟨0, Nat.zero_le _, rfl, HRW.out, HBL.out⟩
      case round =>
        obtain ⟨k, hk, rfl, hrow, hbel⟩ := hrel
        have HBL := hidD hbel
        have HRW := hidD hrow
        by_cases hlt : k < 8
        · have hlti : (k : Int) < 8 := by omega
          clear hrow hbel
          go_wp2_with fail
          go_loopw [30] (fun i wr => ∃ m : Nat, m ≤ 256 ∧ i = .int .i64 m ∧ RowZ wr (g + 1) .i64 256 60 (midH (sgS t B) k m) ∧ Below (g + 1) W wr) (fun i _ => 256 - (intOf i).toNat)
          case atStart => exact ⟨0, Nat.zero_le _, rfl, HRW.out.congr fun i _ => (midH_zero _ _ _).symm, HBL.out⟩
          case round =>
            obtain ⟨m, hm, rfl, hrow, hbel⟩ := hrel
            have HBL := hidD hbel
            by_cases hlm : m < 256
            · have hlmi : (m : Int) < 256 := by omega
              have hbitv := bit_i64 (v := m) k (by omega)
              cases hbit : m.testBit k
              · rw [hbit] at hbitv
                have hb0 : bits .and .i64 ((m : Int) / 2 ^ k) 1 = 0 := hbitv
                have HST : Hid (RowZ wr (g + 1) .i64 256 60 (midH (sgS t B) k (m + 1))) := hrow.congr fun i hi => (midH_skip (sgS t B) hlt hbit hi).symm
                clear hrow hbel hbit hbitv
                go_wp2_with fail
                go_roundw
                case rel => exact ⟨m + 1, by omega, by go_num, HST.out, HBL.out⟩
                case measure => simp [intOf]; omega
              · rw [hbit] at hbitv
                have hb1 : bits .and .i64 ((m : Int) / 2 ^ k) 1 = 1 := hbitv
                have hbh := bit_high hlt hlm hbit
                have hp := pow_i hlt
                have hxr : bits .xor .i64 (m : Int) ((2 ^ k : Nat) : Int) = ((m - 2 ^ k : Nat) : Int) := by
                  rw [i64_xor_nat m (2 ^ k) (by omega) (by omega), flip_at hlt hlm hbit]
                have hw64 : wrap64 (2 ^ k) = ((2 ^ k : Nat) : Int) := by
                  rw [show (2 ^ k : Int) = ((2 ^ k : Nat) : Int) by simp]; unfold wrap64; omega
                have hL : m - 2 ^ k < 256 := by omega
                have hLi : ((m - 2 ^ k : Nat) : Int) < 256 := by omega
                have hLm : m - 2 ^ k ≠ m := by omega
                have hca : wr.cell? ⟨g + 1, m - 2 ^ k, none⟩ = some (.int .i64 (whS (sgS t B) k (m - 2 ^ k))) := by rw [← midH_b (sgS t B) hlt hlm hbit]; exact hrow.cell hL
                have hcb : wr.cell? ⟨g + 1, m, none⟩ = some (.int .i64 (whS (sgS t B) k m)) := by rw [← midH_a (sgS t B) hbit]; exact hrow.cell hlm
                have hfa : wr.frozen? ⟨g + 1, m - 2 ^ k, none⟩ = false := hrow.frozen _
                have hrd : RowZ wr.drew (g + 1) .i64 256 60 (midH (sgS t B) k m) := hrow
                have hcb2 : ∀ v, (wr.drew.setCell ⟨g + 1, m - 2 ^ k, none⟩ (.int .i64 v)).cell? ⟨g + 1, m, none⟩ = some (.int .i64 (midH (sgS t B) k m m)) := fun v => by
                  have := (hrd.set hL v).cell hlm
                  rw [if_neg (Ne.symm hLm)] at this; exact this
                have hfb2 : ∀ v, (wr.drew.setCell ⟨g + 1, m - 2 ^ k, none⟩ (.int .i64 v)).frozen? ⟨g + 1, m, none⟩ = false := fun v => (hrd.set hL v).frozen _
                have hba := wh_bound (sg_bound t B) k m
                have hbb := wh_bound (sg_bound t B) k (m - 2 ^ k)
                have hPc : (2 ^ k : Int) = ((2 ^ k : Nat) : Int) := by simp
                rw [hPc] at hba hbb
                have HST : Hid (RowZ ((wr.drew.setCell ⟨g + 1, m - 2 ^ k, none⟩ (.int .i64 (whS (sgS t B) k (m - 2 ^ k) + whS (sgS t B) k m))).setCell ⟨g + 1, m, none⟩ (.int .i64 (whS (sgS t B) k (m - 2 ^ k) - whS (sgS t B) k m))) (g + 1) .i64 256 60 (midH (sgS t B) k (m + 1))) :=
                  ((hrd.set hL _).set hlm _).congr fun i hi => midH_put (sgS t B) hlt hlm hbit hi
                have HSB : Hid (∀ v v', Below (g + 1) W ((wr.drew.setCell ⟨g + 1, m - 2 ^ k, none⟩ v).setCell ⟨g + 1, m, none⟩ v')) := fun v v' => below_setCell (below_setCell (below_drewN hbel 1) (Nat.le_refl _) _ v) (Nat.le_refl _) _ v'
                have hsum : IntKind.i64.wrap (whS (sgS t B) k (m - 2 ^ k) + whS (sgS t B) k m) = whS (sgS t B) k (m - 2 ^ k) + whS (sgS t B) k m := by rw [IntKind.wrap_i64]; omega
                have hdif : IntKind.i64.wrap (whS (sgS t B) k (m - 2 ^ k) - whS (sgS t B) k m) = whS (sgS t B) k (m - 2 ^ k) - whS (sgS t B) k m := by rw [IntKind.wrap_i64]; omega
                have hsum' : wrap64 (whS (sgS t B) k (m - 2 ^ k) + whS (sgS t B) k m) = whS (sgS t B) k (m - 2 ^ k) + whS (sgS t B) k m := by unfold wrap64; omega
                have hdif' : wrap64 (whS (sgS t B) k (m - 2 ^ k) - whS (sgS t B) k m) = whS (sgS t B) k (m - 2 ^ k) - whS (sgS t B) k m := by unfold wrap64; omega
                clear hba hbb hPc
                generalize ((2 ^ k : Nat) : Int) = PP at *
                generalize midH (sgS t B) k m m = old at *
                generalize whS (sgS t B) k m = y at *
                generalize whS (sgS t B) k (m - 2 ^ k) = x at *
                generalize m - 2 ^ k = L at *
                clear hbit hbitv hbh hrow hbel hrd hLm hp
                go_wp2_with fail
                go_region_with (fail)
                all_goals
                  go_wp2_with fail
                  go_roundw
                  case rel =>
                    first
                    | exact ⟨m + 1, by omega, by go_num, HST.out, HSB.out _ _⟩
                    | (repeat apply Exists.intro
                       refine And.intro (a := _) (b := _) ?_ ?_
                       rotate_left
                       · rfl
                       exact ⟨m + 1, by omega, by go_num, HST.out, HSB.out _ _⟩)
                  case measure => simp [intOf]; omega
            · obtain rfl : m = 256 := by omega
              have HRN : Hid (RowZ wr (g + 1) .i64 256 60 (whS (sgS t B) (k + 1))) := hrow.congr fun i hi => midH_all _ hlt hi
              clear hrow hbel
              go_wp2_with fail
              go_roundw
              case rel => exact ⟨k + 1, by omega, by go_num, HRN.out, HBL.out⟩
              case measure => simp [intOf]; omega
        · obtain rfl : k = 8 := by omega
          have HL : Hid (wr.heap[g + 1]? = some (.cells (rowZ .i64 256 (whS (sgS t B) 8)) (60 : TypeId) (0, 0))) := hrow
          have HO : Hid (wr.heap[g]? = some (.cells (rowZ .i64 256 (fun _ => 0)) (60 : TypeId) (0, 0))) := V1.out.below hbel (by omega)
          have HONE : Hid ((rowZ .i64 256 (whS (sgS t B) 8)).all (·.oneCell') = true) := rowZ_one _ _ _
          have h4 : (rowZ .i64 256 (whS (sgS t B) 8)).size = 256 := rowZ_size _ _ _
          have h0 : (rowZ .i64 256 (fun _ => 0)).size = 256 := rowZ_size _ _ _
          have HBG : Hid (Below g w wr) := V3.out.trans (hbel.mono (by omega))
          clear hrow hbel
          generalize hC : rowZ .i64 256 (whS (sgS t B) 8) = C at *
          have HCE := hidD hC
          clear hC
          generalize rowZ .i64 256 (fun _ => 0) = C0 at *
          have hi : (Try.prog.info? 60).map (·.size) = some C.size := by rw [hsz, h4]
          go_wp2_with (first | (refine wpList_load_row rfl 60 _ rfl (g + 1) rfl 60 C (0, 0) _ HL.out Try.underlying60 rfl hi ?_) | (refine wpList_store_row rfl 60 _ _ rfl g C rfl rfl 60 C0 HO.out hi (by rw [h0, h4]) HONE.out ?_))
          refine bodyPost_ret (results_cell_row (P := Try.prog) (p := 4) (ty := 60) (by kernel_rfl) _ _ g 60 C (0, 0) _ rfl (setRow_heap _ _ C0 C 60 (0, 0) HO.out) Try.underlying60 rfl hi) rfl ?_
          refine ⟨by rw [HCE.out], ?_⟩
          have hfin : Below g w (wr.setRow g C) := below_setRow HBG.out (Nat.le_refl _) _
          rw [HG.out]; exact hfin
set_option maxRecDepth 100000 in
theorem pLin_out (l : List UInt8) (hl : l.length ≠ 256) (v : Value) (w : World) (hv : ByAt w v l) : Calls Try.prog 35 #[v] w fun e w' => e = .returned (.tuple #[.int .i64 0, .int .i64 91]) ∧ Below w.heap.size w w' := by
  obtain ⟨a', cap, rfl, _⟩ := hv.shape
  have HI := hidD (fun w => right_any l.length cap a' w)
  rw [show decide (l.length = 256) = false by simpa using hl] at HI
  generalize l.length = n at *
  clear hl hv
  go_enter Try.func35, Try.ntmps35
  go_wp2_with (go_at_call 50; refine (HI.out _).mono ?_; rintro e w1 ⟨rfl, rfl⟩)
  refine bodyPost_ret (v := .tuple #[.int .i64 0, .int .i64 91]) (by simp [results, Try.results35, go_sem]) rfl ?_
  exact ⟨rfl, Below.refl _ _⟩
end Go.Proofs.Ytdbledfpphkppaa
