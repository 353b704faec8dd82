/- What the document's mixed, Mix, Unmix and Column answer. -/
import Derived.Test.YtdbledfpphkppaaRf7
import Derived.Test.YtdbledfpphkppaaQuietL
namespace Go.Proofs.Ytdbledfpphkppaa
open Go.RowKit
set_option linter.unusedVariables false

/- a column -/
def colR (c : Nat → UInt8) : Array Value := rowZ .u8 4 (fun i => ((c i).toNat : Int))
def mixTo (c m : Nat → UInt8) (i : Nat) : Nat → UInt8
  | 0 => 0
  | k + 1 => mixTo c m i k ^^^ bm 27 (c ((i + k) % 4)) (m k)
def mixS (c m : Nat → UInt8) (i : Nat) : UInt8 := mixTo c m i 4
/- the rows so far -/
def mixAt (c m : Nat → UInt8) (j k i : Nat) : UInt8 := if i < j then mixS c m i else if i = j then mixTo c m i k else 0
theorem mixAt_zero (c m : Nat → UInt8) (i : Nat) : mixAt c m 0 0 i = 0 := by unfold mixAt; rw [if_neg (by omega)]; split <;> rfl
theorem mixAt_next (c m : Nat → UInt8) (j i : Nat) : mixAt c m j 4 i = mixAt c m (j + 1) 0 i := by
  unfold mixAt
  by_cases h : i < j
  · rw [if_pos h, if_pos (by omega)]
  · rw [if_neg h]
    by_cases h2 : i = j
    · subst h2; rw [if_pos rfl, if_pos (by omega)]; rfl
    · rw [if_neg h2, if_neg (by omega)]; split <;> rfl
theorem mixAt_step (c m : Nat → UInt8) (j k i : Nat) : (if i = j then mixTo c m j k ^^^ bm 27 (c ((j + k) % 4)) (m k) else mixAt c m j k i) = mixAt c m j (k + 1) i := by
  unfold mixAt
  by_cases h : i = j
  · subst h; rw [if_pos rfl, if_neg (by omega), if_pos rfl]; rfl
  · rw [if_neg h, if_neg h, if_neg h]
theorem mixAt_here (c m : Nat → UInt8) (j k : Nat) : mixAt c m j k j = mixTo c m j k := by unfold mixAt; rw [if_neg (by omega), if_pos rfl]
theorem mixAt_all (c m : Nat → UInt8) {i : Nat} (h : i < 4) : mixAt c m 4 0 i = mixS c m i := by unfold mixAt; rw [if_pos h]
theorem Try.zero22 : (Try.prog.info? 22).map (fun i => (i.zero, i.size)) = some (some (.agg (rowZ .u8 4 (fun _ => 0))), 4) := by kernel_rfl

theorem four_rows (w : World) (a b c d : Nat → Int) (ty : TypeId) : RowZ ((((w.alloc (.cells (rowZ .u8 4 a) ty)).alloc (.cells (rowZ .u8 4 b) ty)).alloc (.cells (rowZ .u8 4 c) ty)).alloc (.cells (rowZ .u8 4 d) ty)) w.heap.size .u8 4 ty a
    ∧ RowZ ((((w.alloc (.cells (rowZ .u8 4 a) ty)).alloc (.cells (rowZ .u8 4 b) ty)).alloc (.cells (rowZ .u8 4 c) ty)).alloc (.cells (rowZ .u8 4 d) ty)) (w.heap.size + 1) .u8 4 ty b
    ∧ RowZ ((((w.alloc (.cells (rowZ .u8 4 a) ty)).alloc (.cells (rowZ .u8 4 b) ty)).alloc (.cells (rowZ .u8 4 c) ty)).alloc (.cells (rowZ .u8 4 d) ty)) (w.heap.size + 2) .u8 4 ty c
    ∧ RowZ ((((w.alloc (.cells (rowZ .u8 4 a) ty)).alloc (.cells (rowZ .u8 4 b) ty)).alloc (.cells (rowZ .u8 4 c) ty)).alloc (.cells (rowZ .u8 4 d) ty)) (w.heap.size + 3) .u8 4 ty d
    ∧ Below w.heap.size w ((((w.alloc (.cells (rowZ .u8 4 a) ty)).alloc (.cells (rowZ .u8 4 b) ty)).alloc (.cells (rowZ .u8 4 c) ty)).alloc (.cells (rowZ .u8 4 d) ty)) := by
  have al : ∀ (w : World) o, Below w.heap.size w (w.alloc o) := fun w o => (Below.refl _ _).alloc (Nat.le_refl _) _
  have sz : ∀ (w : World) o, (w.alloc o).heap.size = w.heap.size + 1 := fun w o => by simp
  have h1 := RowZ.new w .u8 4 ty a
  have h2 := RowZ.new (w.alloc (.cells (rowZ .u8 4 a) ty)) .u8 4 ty b
  have h3 := RowZ.new ((w.alloc (.cells (rowZ .u8 4 a) ty)).alloc (.cells (rowZ .u8 4 b) ty)) .u8 4 ty c
  have h4 := RowZ.new (((w.alloc (.cells (rowZ .u8 4 a) ty)).alloc (.cells (rowZ .u8 4 b) ty)).alloc (.cells (rowZ .u8 4 c) ty)) .u8 4 ty d
  rw [sz] at h2
  rw [sz, sz] at h3
  rw [sz, sz, sz] at h4
  exact ⟨((h1.next (al _ _)).next (al _ _)).next (al _ _), (h2.next (al _ _)).next (al _ _), h3.next (al _ _), h4, ((((Below.refl _ _).alloc (Nat.le_refl _) _).alloc (by rw [sz]; omega) _).alloc (by rw [sz, sz]; omega) _).alloc (by rw [sz, sz, sz]; omega) _⟩
theorem below_setRow {B g : Nat} {a w : World} (h : Below B a w) (hg : B ≤ g) (cs : Array Value) : Below B a (w.setRow g cs) :=
  h.trans ⟨by simp, by simp, by simp, by simp, fun k hk => setRow_other _ _ _ _ (by omega)⟩
theorem wrap_small {n : Nat} (h : n < 9223372036854775808) : IntKind.i64.wrap (n : Int) = (n : Int) := by rw [IntKind.wrap_i64]; omega

set_option maxRecDepth 100000 in
set_option maxHeartbeats 1600000 in
theorem refMixed_any (c m : Nat → UInt8) (w : World) : Calls Try.prog 47 #[.agg (colR c), .agg (colR m)] w fun e w' => e = .returned (.agg (colR (mixS c m))) ∧ Below w.heap.size w w' := by
  have HC : Hid (∀ a b w, Calls Try.prog 49 #[.int .u8 (UInt8.toNat a : Int), .int .u8 (UInt8.toNat b : Int), .int .i64 283] w fun e w' => e = .returned (.int .u8 ((bm 27 a b).toNat : Int)) ∧ w' = w) := fun a b w => refCarry_in 27 a b 283 rfl w
  obtain ⟨hz, hsz⟩ := zero_of_info Try.zero22
  have hs1 : (colR c).size = 4 := rowZ_size _ _ _
  have hs2 : (colR m).size = 4 := rowZ_size _ _ _
  go_enter Try.func47, Try.ntmps47
  go_wp2_with fail
  have hfour := four_rows w (fun i => ((c i).toNat : Int)) (fun i => ((m i).toNat : Int)) (fun _ => 0) (fun _ => 0) 22
  generalize hW : World.alloc (World.alloc _ _) _ = W
  rw [show ((((w.alloc (.cells (rowZ .u8 4 (fun i => ((c i).toNat : Int))) (22 : TypeId))).alloc (.cells (rowZ .u8 4 (fun i => ((m i).toNat : Int))) (22 : TypeId))).alloc (.cells (rowZ .u8 4 (fun _ => 0)) (22 : TypeId))).alloc (.cells (rowZ .u8 4 (fun _ => 0)) (22 : TypeId))) = W from hW] at hfour
  clear hW
  obtain ⟨hra, hrb, hrc, hrd, hbw⟩ := hfour
  have HRA := hidD hra
  have HRB := hidD hrb
  have HRC := hidD hrc
  have HRD := hidD hrd
  have HBW := hidD hbw
  clear hra hrb hrc hrd hbw
  rw [show w.heap.size + 1 + 1 + 1 = w.heap.size + 3 from rfl, show w.heap.size + 1 + 1 = w.heap.size + 2 from rfl]
  have hg3 : w.heap.size < w.heap.size + 3 := by omega
  generalize hg : w.heap.size = g at *
  have HG := hidD hg
  clear hg
  go_loopw [6] (fun i wr => ∃ j : Nat, j ≤ 4 ∧ i = .int .i64 j ∧ RowZ wr (g + 3) .u8 4 22 (fun i => ((mixAt c m j 0 i).toNat : Int)) ∧ Below (g + 3) W wr) (fun i _ => 4 - (intOf i).toNat)
  case atStart => exact ⟨0, Nat.zero_le _, rfl, HRD.out.congr fun i _ => by rw [mixAt_zero]; rfl, Below.refl _ _⟩
  case round =>
    obtain ⟨j, hj, rfl, hrow, hbel⟩ := hrel
    have HBL := hidD hbel
    have HRW := hidD hrow
    clear hbel hrow
    by_cases hlt : j < 4
    · have hlti : (j : Int) < 4 := by omega
      go_wp2_with fail
      go_loopw [7] (fun i wr => ∃ k : Nat, k ≤ 4 ∧ i = .int .i64 k ∧ RowZ wr (g + 3) .u8 4 22 (fun i => ((mixAt c m j k i).toNat : Int)) ∧ Below (g + 3) W wr) (fun i _ => 4 - (intOf i).toNat)
      case atStart => exact ⟨0, Nat.zero_le _, rfl, HRW.out, HBL.out⟩
      case round =>
        obtain ⟨k, hk, rfl, hrow, hbel⟩ := hrel
        have HBL := hidD hbel
        have HRW := hidD hrow
        by_cases hlk : k < 4
        · have hlki : (k : Int) < 4 := by omega
          have hi4 : (j + k) % 4 < 4 := Nat.mod_lt _ (by omega)
          have hmod : ((j : Int) + k).tmod 4 = (((j + k) % 4 : Nat) : Int) := by rw [Int.tmod_eq_emod_of_nonneg (by omega)]; omega
          have hwr : IntKind.i64.wrap ((j : Int) + k) = (j : Int) + k := by rw [IntKind.wrap_i64]; omega
          have hca : ∀ i : BW wr, i.v.cell? ⟨g, (j + k) % 4, none⟩ = some (.int .u8 ((c ((j + k) % 4)).toNat : Int)) := fun i => (i.below.cell (p := ⟨g, (j + k) % 4, none⟩) (HRA.out.below hbel (by omega)).lt).trans ((HRA.out.below hbel (by omega)).cell hi4)
          have hcb : ∀ i : BW wr, i.v.cell? ⟨g + 1, k, none⟩ = some (.int .u8 ((m k).toNat : Int)) := fun i => (i.below.cell (p := ⟨g + 1, k, none⟩) (HRB.out.below hbel (by omega)).lt).trans ((HRB.out.below hbel (by omega)).cell hlk)
          have hcd : ∀ i : BW wr, i.v.cell? ⟨g + 3, j, none⟩ = some (.int .u8 ((mixTo c m j k).toNat : Int)) := fun i => by rw [← mixAt_here]; exact (i.below.cell (p := ⟨g + 3, j, none⟩) hrow.lt).trans (hrow.cell hlt)
          have hfd : ∀ i : BW wr, i.v.frozen? ⟨g + 3, j, none⟩ = false := fun i => (i.below.frozen (p := ⟨g + 3, j, none⟩) hrow.lt).trans (hrow.frozen j)
          have hxr := u8_xor_nat (mixTo c m j k).toNat (bm 27 (c ((j + k) % 4)) (m k)).toNat (u8_lt _) (u8_lt _)
          rw [← UInt8.toNat_xor] at hxr
          have HCK : Hid (∀ w, Calls Try.prog 49 #[.int .u8 ((c ((j + k) % 4)).toNat : Int), .int .u8 ((m k).toNat : Int), .int .i64 283] w fun e w' => e = .returned (.int .u8 ((bm 27 (c ((j + k) % 4)) (m k)).toNat : Int)) ∧ Below w.heap.size w w') := fun w => (HC.out (c ((j + k) % 4)) (m k) w).mono fun e w' h => ⟨h.1, by rw [h.2]; exact Below.refl _ _⟩
          have HST : Hid (∀ i : BW wr, RowZ (i.v.setCell ⟨g + 3, j, none⟩ (.int .u8 ((mixTo c m j k ^^^ bm 27 (c ((j + k) % 4)) (m k)).toNat : Int))) (g + 3) .u8 4 22 (fun i => ((mixAt c m j (k + 1) i).toNat : Int))) := fun i => by
            refine ((hrow.next i.below).set hlt _).congr fun i hi => ?_
            rw [← mixAt_step]; split <;> rfl
          have HSB : Hid (∀ (i : BW wr) v, Below (g + 3) W (i.v.setCell ⟨g + 3, j, none⟩ v)) := fun i v => below_setCell (hbel.trans (i.below.mono (Nat.le_of_lt hrow.lt))) (Nat.le_refl _) _ v
          generalize (mixTo c m j k ^^^ bm 27 (c ((j + k) % 4)) (m k)).toNat = V at *
          generalize (bm 27 (c ((j + k) % 4)) (m k)).toNat = X at *
          generalize (mixTo c m j k).toNat = Y at *
          generalize (c ((j + k) % 4)).toNat = ca at *
          generalize (m k).toNat = cb at *
          generalize (j + k) % 4 = d at *
          clear hbel hrow
          go_wp2_with fail
          refine wp_region_put (by simp) (by kernel_rfl) rfl (by kernel_rfl) (by kernel_rfl) (by kernel_rfl) ?_
          simp only [List.dropLast_cons_cons, List.dropLast_singleton, List.getLast_cons_cons, List.getLast_singleton, List.cons_append, List.nil_append, mute]
          repeat (go_big_quiet_step ((go_at_call 49; exact Calls.below_of (HCK.out _))))
          refine wpQuiet_nil ?_
          intro i
          go_wp2_with fail
          go_roundw
          case rel => exact ⟨k + 1, by omega, by go_num, HST.out _, HSB.out _ _⟩
          case measure => simp [intOf]; omega
        · obtain rfl : k = 4 := by omega
          have HRN : Hid (RowZ wr (g + 3) .u8 4 22 (fun i => ((mixAt c m (j + 1) 0 i).toNat : Int))) := hrow.congr fun i _ => by rw [mixAt_next]
          clear hrow hbel
          go_wp2_with fail
          go_roundw
          case rel => exact ⟨j + 1, by omega, by go_num, HRN.out, HBL.out⟩
          case measure => simp [intOf]; omega
    · obtain rfl : j = 4 := by omega
      have HRN : Hid (RowZ wr (g + 3) .u8 4 22 (fun i => ((mixS c m i).toNat : Int))) := HRW.out.congr fun i hi => by rw [mixAt_all c m hi]
      have HO : Hid (wr.heap[g + 2]? = some (.cells (rowZ .u8 4 (fun _ => 0)) (22 : TypeId) (0, 0))) := HRC.out.below HBL.out (by omega)
      have HL : Hid (wr.heap[g + 3]? = some (.cells (colR (mixS c m)) (22 : TypeId) (0, 0))) := HRN.out
      have HONE : Hid ((colR (mixS c m)).all (·.oneCell') = true) := rowZ_one _ _ _
      have h4 : (colR (mixS c m)).size = 4 := rowZ_size _ _ _
      have h0 : (rowZ .u8 4 (fun _ => 0)).size = 4 := rowZ_size _ _ _
      generalize hC : colR (mixS c m) = C at *
      have HCE := hidD hC
      clear hC
      generalize rowZ .u8 4 (fun _ => 0) = C0 at *
      have hi : (Try.prog.info? 22).map (·.size) = some C.size := by rw [hsz, h4]
      go_wp2_with (first | (refine wpList_load_row rfl 22 _ rfl (g + 3) rfl 22 C (0, 0) _ HL.out Try.underlying22 rfl hi ?_) | (refine wpList_store_row rfl 22 _ _ rfl (g + 2) C rfl rfl 22 C0 HO.out hi (by rw [h0, h4]) HONE.out ?_))
      refine bodyPost_ret (results_cell_row (P := Try.prog) (p := 4) (ty := 22) (by kernel_rfl) _ _ (g + 2) 22 C (0, 0) _ rfl (setRow_heap _ _ C0 C 22 (0, 0) HO.out) Try.underlying22 rfl hi) rfl ?_
      refine ⟨by rw [HCE.out], ?_⟩
      have hfin : Below g w (wr.setRow (g + 2) C) := below_setRow (HBW.out.trans (HBL.out.mono (by omega))) (by omega) _
      rw [HG.out]; exact hfin
end Go.Proofs.Ytdbledfpphkppaa
