/- Texts of one proof, one behind the other. -/
import Derived.Test.YtgefampdfhbmbaaPx5
import Derived.Test.YtgefampdfhbmbaaMe
import Derived.Test.YtgefampdfhbmbaaMl
/- What the program's plusOne and doubled answer. -/
namespace Go.Proofs.Ytgefampdfhbmbaa
open Go.RowKit
set_option linter.unusedVariables false

theorem row_put {w : World} {g j : Nat} {c : Nat → UInt8} (h : RowZ w g .u8 16 59 (fun i => ((c i).toNat : Int))) (hj : j < 16) (v : UInt8) : RowZ (w.setCell ⟨g, j, none⟩ (.int .u8 (v.toNat : Int))) g .u8 16 59 (fun i => ((putB c j v i).toNat : Int)) := (h.set hj _).congr fun i hi => by unfold putB; split <;> rfl
set_option maxRecDepth 100000 in
set_option maxHeartbeats 1600000 in
theorem pPlusOne_any (b : Nat → UInt8) (w : World) : Calls Try.prog 52 #[.agg (bR b)] w fun e w' => e = .returned (.agg (bR (incS b))) ∧ Below w.heap.size w w' := by
  obtain ⟨hz, hsz⟩ := zero_of_info Try.zero59
  have hbs : ∀ c : Nat → UInt8, (bR c).size = 16 := fun c => rowZ_size _ _ _
  have HIB : Hid (∀ c : Nat → UInt8, (Try.prog.info? 59).map (·.size) = some (bR c).size) := fun c => by rw [hsz, hbs]
  have HON : Hid (∀ c : Nat → UInt8, (bR c).all (·.oneCell') = true) := fun c => rowZ_one _ _ _
  have HSB : Hid (∀ c d : Nat → UInt8, (bR c).size = (bR d).size) := fun c d => by rw [hbs, hbs]
  have hz0 : (rowZ .u8 16 (fun _ => 0)) = bR (fun _ => 0) := rfl
  rw [hz0] at hz
  obtain ⟨b1, b2, b3, b4⟩ := two_blocks w (bR b) (bR (fun _ => 0)) 59
  have W1 := hidD b1
  have W2 := hidD b2
  have W3 := hidD b3
  clear b1 b2 b3 b4 hbs hz0
  go_enter Try.func52, Try.ntmps52
  go_wp2_with fail
  generalize hW : World.alloc _ (Obj.cells (bR (fun _ => 0)) (59 : TypeId)) = u0 at *
  have R0 : Hid (RowZ u0 w.heap.size .u8 16 59 (fun i => ((b i).toNat : Int))) := W1.out
  have O0 : Hid (RowZ u0 (w.heap.size + 1) .u8 16 59 (fun i => (((fun _ => 0 : Nat → UInt8) i).toNat : Int))) := W2.out
  have B0 : Hid (Below w.heap.size w u0) := W3.out
  clear hW W1 W2 W3
  go_loopw [5] (fun u wr => ∃ (k : Nat) (c : Nat → UInt8), k ≤ 16 ∧ u = .int .i64 k ∧ RowZ wr w.heap.size .u8 16 59 (fun i => ((c i).toNat : Int)) ∧ incTo (16 - k) c = incS b ∧ RowZ wr (w.heap.size + 1) .u8 16 59 (fun i => (((fun _ => 0 : Nat → UInt8) i).toNat : Int)) ∧ Below w.heap.size w wr) (fun u _ => 16 - (intOf u).toNat)
  case atStart => exact ⟨0, b, Nat.zero_le _, rfl, R0.out, rfl, O0.out, B0.out⟩
  case round =>
    obtain ⟨k, c, hk, rfl, hrow, hinc, hout, hbel⟩ := hrel
    by_cases hlt : k < 16
    · have hlti : (k : Int) < 16 := by omega
      have hsb : (15 : Int) - (k : Int) = ((15 - k : Nat) : Int) := by omega
      have hj16 : ((15 - k : Nat) : Int) < 16 := by omega
      have hj : 15 - k < 16 := by omega
      have hcj := hrow.cell hj
      have hfj := hrow.frozen (15 - k)
      have hadd : ((c (15 - k)).toNat + 1 : Int) % 256 = ((c (15 - k) + 1).toNat : Int) := by
        rw [UInt8.toNat_add]
        show ((c (15 - k)).toNat + 1 : Int) % 256 = (((c (15 - k)).toNat + 1) % 256 : Nat)
        omega
      have HNS := hidD (row_put hrow hj (c (15 - k) + 1))
      have HOS : Hid (∀ v, RowZ (wr.setCell ⟨w.heap.size, 15 - k, none⟩ v) (w.heap.size + 1) .u8 16 59 (fun i => (((fun _ => 0 : Nat → UInt8) i).toNat : Int))) := fun v => hout.other (by omega) _ v
      have HBS : Hid (∀ v, Below w.heap.size w (wr.setCell ⟨w.heap.size, 15 - k, none⟩ v)) := fun v => below_setCell hbel (Nat.le_refl _) _ v
      have hca : (wr.setCell ⟨w.heap.size, 15 - k, none⟩ (.int .u8 ((c (15 - k) + 1).toNat : Int))).cell? ⟨w.heap.size, 15 - k, none⟩ = some (.int .u8 ((c (15 - k) + 1).toNat : Int)) := by
        have := HNS.out.cell hj
        rw [this]; unfold putB; rw [if_pos rfl]
      have hic : incTo (16 - k) c = if c (15 - k) + 1 ≠ 0 then putB c (15 - k) (c (15 - k) + 1) else incTo (15 - k) (putB c (15 - k) (c (15 - k) + 1)) := by
        rw [show 16 - k = (15 - k) + 1 by omega]; rfl
      by_cases hz : c (15 - k) + 1 = 0
      · rw [if_neg (by simpa using hz), hinc] at hic
        have HIC := hidD hic
        have hz0 : ((c (15 - k) + 1).toNat : Int) = 0 := by rw [hz]; rfl
        rw [hz0] at hadd HNS hca
        have H15 : Hid (16 - (k + 1) = 15 - k) := by show _ = _; omega
        clear hinc hrow hout hbel hic hz hz0
        generalize (c (15 - k)).toNat = X at *
        generalize putB c (15 - k) (c (15 - k) + 1) = c' at *
        generalize hJ1 : 15 - k = J1 at *
        clear hJ1
        go_wp2_with fail
        go_roundw
        case rel => exact ⟨k + 1, c', by omega, by go_num, HNS.out, by rw [H15.out]; exact HIC.out.symm, HOS.out _, HBS.out _⟩
        case measure => simp [intOf]; omega
      · rw [if_pos hz, hinc] at hic
        have HIC := hidD hic
        have hz1 : ¬ ((c (15 - k) + 1).toNat : Int) = 0 := fun h => hz (UInt8.toNat.inj (show (c (15 - k) + 1).toNat = 0 from Int.ofNat.inj h))
        have hz0 : (((c (15 - k) + 1).toNat : Int) != 0) = true := by simpa using hz1
        clear hinc hrow hout hbel hic hz
        generalize ((c (15 - k) + 1).toNat : Int) = Z at *
        generalize (c (15 - k)).toNat = X at *
        generalize putB c (15 - k) (c (15 - k) + 1) = c' at *
        generalize hJ1 : 15 - k = J1 at *
        clear hJ1
        go_wp2_with (first
          | (refine wpList_load_row rfl 59 _ rfl w.heap.size rfl 59 (bR (c')) (0, 0) _ HNS.out Try.underlying59 rfl (HIB.out _) ?_)
          | (refine wpList_store_row rfl 59 _ _ rfl (w.heap.size + 1) (bR (c')) rfl rfl 59 (bR (fun _ => 0)) (HOS.out _) (HIB.out _) (HSB.out _ _) (HON.out _) ?_))
        refine bodyPost_ret (results_cell_row (P := Try.prog) (p := 2) (ty := 59) (by kernel_rfl) _ _ (w.heap.size + 1) 59 (bR (c')) (0, 0) _ rfl (setRow_heap _ _ (bR (fun _ => 0)) (bR (c')) 59 (0, 0) (HOS.out _)) Try.underlying59 rfl (HIB.out _)) rfl ?_
        exact ⟨by rw [HIC.out], below_setRow (HBS.out _) (by omega) _⟩
    · obtain rfl : k = 16 := by omega
      have HIC : Hid (c = incS b) := hinc
      have HRW := hidD hrow
      have HOT := hidD hout
      have HBL := hidD hbel
      clear hinc hrow hout hbel
      go_wp2_with (first
        | (refine wpList_load_row rfl 59 _ rfl w.heap.size rfl 59 (bR (c)) (0, 0) _ HRW.out Try.underlying59 rfl (HIB.out _) ?_)
        | (refine wpList_store_row rfl 59 _ _ rfl (w.heap.size + 1) (bR (c)) rfl rfl 59 (bR (fun _ => 0)) HOT.out (HIB.out _) (HSB.out _ _) (HON.out _) ?_))
      refine bodyPost_ret (results_cell_row (P := Try.prog) (p := 2) (ty := 59) (by kernel_rfl) _ _ (w.heap.size + 1) 59 (bR (c)) (0, 0) _ rfl (setRow_heap _ _ (bR (fun _ => 0)) (bR (c)) 59 (0, 0) HOT.out) Try.underlying59 rfl (HIB.out _)) rfl ?_
      exact ⟨by rw [HIC.out], below_setRow HBL.out (by omega) _⟩
theorem db_or (b : Nat → UInt8) {j o : Nat} (ho : o = if j < 15 then (b (j + 1)).toNat / 128 else 0) : bits .or .u8 (((b j).toNat : Int) * 2 % 256) (o : Int) = ((db1 b j).toNat : Int) := by
  have h1 : (((b j).toNat : Int) * 2 % 256) = (((b j).toNat * 2 % 256 : Nat) : Int) := by omega
  have h2 := (b (j + 1)).toNat_lt
  rw [h1, u8_or_nat _ _ (Nat.mod_lt _ (by omega)) (by rw [ho]; split <;> omega), db1_nat, ho]
set_option maxRecDepth 100000 in
set_option maxHeartbeats 1600000 in
theorem pDoubled_any (b : Nat → UInt8) (w : World) : Calls Try.prog 72 #[.agg (bR b)] w fun e w' => e = .returned (.agg (bR (dbB b))) ∧ Below w.heap.size w w' := by
  obtain ⟨hz, hsz⟩ := zero_of_info Try.zero59
  have hbs : ∀ c : Nat → UInt8, (bR c).size = 16 := fun c => rowZ_size _ _ _
  have HIB : Hid (∀ c : Nat → UInt8, (Try.prog.info? 59).map (·.size) = some (bR c).size) := fun c => by rw [hsz, hbs]
  have HON : Hid (∀ c : Nat → UInt8, (bR c).all (·.oneCell') = true) := fun c => rowZ_one _ _ _
  have HSB : Hid (∀ c d : Nat → UInt8, (bR c).size = (bR d).size) := fun c d => by rw [hbs, hbs]
  have hz0 : (rowZ .u8 16 (fun _ => 0)) = bR (fun _ => 0) := rfl
  rw [hz0] at hz
  obtain ⟨b1, b2, b3, b4⟩ := two_blocks w (bR b) (bR (fun _ => 0)) 59
  have W1 := hidD b1
  have W2 := hidD b2
  have W3 := hidD b3
  clear b1 b2 b3 b4 hbs hz0
  go_enter Try.func72, Try.ntmps72
  go_wp2_with fail
  generalize hW : World.alloc _ (Obj.cells (bR (fun _ => 0)) (59 : TypeId)) = u0 at *
  have R0 : Hid (RowZ u0 w.heap.size .u8 16 59 (fun i => ((b i).toNat : Int))) := W1.out
  have O0 : Hid (RowZ u0 (w.heap.size + 1) .u8 16 59 (fun i => (((fun _ => 0 : Nat → UInt8) i).toNat : Int))) := W2.out
  have B0 : Hid (Below w.heap.size w u0) := W3.out
  clear hW W1 W2 W3
  go_loopw [3, 6] (fun z u wr => ∃ (k : Nat), k ≤ 16 ∧ u = .int .i64 k ∧ z = .int .u8 ((if k = 0 then 0 else (b (16 - k)).toNat / 128 : Nat) : Int) ∧ RowZ wr w.heap.size .u8 16 59 (fun i => ((if 16 - k ≤ i then db1 b i else b i : UInt8).toNat : Int)) ∧ RowZ wr (w.heap.size + 1) .u8 16 59 (fun i => (((fun _ => 0 : Nat → UInt8) i).toNat : Int)) ∧ Below w.heap.size w wr) (fun _ u _ => 16 - (intOf u).toNat)
  case atStart => exact ⟨0, Nat.zero_le _, rfl, rfl, R0.out.congr fun i hi => by rw [if_neg (by omega)], O0.out, B0.out⟩
  case round =>
    obtain ⟨k, hk, rfl, rfl, hrow, hout, hbel⟩ := hrel
    by_cases hlt : k < 16
    · have hlti : (k : Int) < 16 := by omega
      have hsb : (15 : Int) - (k : Int) = ((15 - k : Nat) : Int) := by omega
      have hj16 : ((15 - k : Nat) : Int) < 16 := by omega
      have hj : 15 - k < 16 := by omega
      have hor := db_or b (j := 15 - k) (o := if k = 0 then 0 else (b (16 - k)).toNat / 128) (by
        by_cases h0 : k = 0
        · rw [if_pos h0, if_neg (by omega)]
        · rw [if_neg h0, if_pos (by omega), show 15 - k + 1 = 16 - k by omega])
      have hrow0 : wr.cell? ⟨w.heap.size, 15 - k, none⟩ = some (.int .u8 ((b (15 - k)).toNat : Int)) := by
        have := hrow.cell hj
        rwa [if_neg (by omega)] at this
      have hcj : ∀ q : KB wr [w.heap.size], q.v.cell? ⟨w.heap.size, 15 - k, none⟩ = some (.int .u8 ((b (15 - k)).toNat : Int)) := fun q => (q.cell (by simp) _).trans hrow0
      have hfj := hrow.frozen (15 - k)
      have hfd : wr.drew.frozen? ⟨w.heap.size, 15 - k, none⟩ = false := hfj
      have hcd : wr.drew.cell? ⟨w.heap.size, 15 - k, none⟩ = some (.int .u8 ((b (15 - k)).toNat : Int)) := hrow0
      have hsh : ((b (15 - k)).toNat : Int) / 128 = (((b (15 - k)).toNat / 128 : Nat) : Int) := by omega
      have HNX : Hid ((if k + 1 = 0 then 0 else (b (16 - (k + 1))).toNat / 128) = (b (15 - k)).toNat / 128) := by show _ = _; rw [if_neg (by omega), show 16 - (k + 1) = 15 - k by omega]
      have HNS : Hid (RowZ (wr.setCell ⟨w.heap.size, 15 - k, none⟩ (.int .u8 ((db1 b (15 - k)).toNat : Int))) w.heap.size .u8 16 59 (fun i => ((if 16 - (k + 1) ≤ i then db1 b i else b i : UInt8).toNat : Int))) := by
        refine (hrow.set hj _).congr fun i hi => ?_
        by_cases h1 : i = 15 - k
        · rw [if_pos h1, if_pos (by omega), h1]
        · rw [if_neg h1]
          by_cases h2 : 16 - k ≤ i
          · rw [if_pos h2, if_pos (by omega)]
          · rw [if_neg h2, if_neg (by omega)]
      have HOS : Hid (∀ v, RowZ (wr.setCell ⟨w.heap.size, 15 - k, none⟩ v) (w.heap.size + 1) .u8 16 59 (fun i => (((fun _ => 0 : Nat → UInt8) i).toNat : Int))) := fun v => hout.other (by omega) _ v
      have HBS : Hid (∀ v, Below w.heap.size w (wr.setCell ⟨w.heap.size, 15 - k, none⟩ v)) := fun v => below_setCell hbel (Nat.le_refl _) _ v
      have HOR := hidD hor
      clear hrow hout hbel hrow0 hfj hcj
      generalize (db1 b (15 - k)).toNat = Y at *
      generalize (if k = 0 then 0 else (b (16 - k)).toNat / 128) = oo at *
      generalize (b (15 - k)).toNat / 128 = o1 at *
      generalize (b (15 - k)).toNat = X at *
      generalize hJ1 : 15 - k = J1 at *
      clear hJ1
      go_wp2_with fail
      go_region_with (fail)
      all_goals
        go_wp2
        go_roundw
        case rel => exact ⟨k + 1, by omega, by go_num, by rw [HNX.out], (by rw [HOR.out]; exact HNS.out), HOS.out _, (HBS.out _).drew⟩
        case measure => simp [intOf]; omega
    · obtain rfl : k = 16 := by omega
      have HRW : Hid (RowZ wr w.heap.size .u8 16 59 (fun i => ((db1 b i).toNat : Int))) := hrow.congr fun i hi => by rw [if_pos (by omega)]
      have HOT := hidD hout
      have HBL := hidD hbel
      have ho : (if (16 : Nat) = 0 then 0 else (b (16 - 16)).toNat / 128) = (b 0).toNat / 128 := rfl
      rw [ho]
      have h256 := (b 0).toNat_lt
      by_cases h1 : 128 ≤ (b 0).toNat
      · have e1 : (b 0).toNat / 128 = 1 := by omega
        rw [e1]
        have c15 := HRW.out.cell (k := 15) (by omega)
        have f15 := HRW.out.frozen 15
        have hx : bits .xor .u8 ((db1 b 15).toNat : Int) (135 : Int) = (((db1 b 15).toNat ^^^ 135 : Nat) : Int) := u8_xor_nat (db1 b 15).toNat 135 (u8_lt _) (by omega)
        have HX : Hid ((((db1 b 15).toNat ^^^ 135 : Nat) : Int) = ((db1 b 15 ^^^ 135).toNat : Int)) := by show _ = _; rw [UInt8.toNat_xor]; rfl
        have HS : Hid (RowZ (wr.setCell ⟨w.heap.size, 15, none⟩ (.int .u8 (((db1 b 15).toNat ^^^ 135 : Nat) : Int))) w.heap.size .u8 16 59 (fun i => ((dbB b i).toNat : Int))) := (HRW.out.set (k := 15) (by omega) _).congr fun i hi => by
          unfold dbB
          by_cases h2 : i = 15
          · rw [if_pos h2, if_pos ⟨h2, h1⟩, HX.out]
          · rw [if_neg h2, if_neg (fun h => h2 h.1)]
        have HO1 : Hid (∀ v, RowZ (wr.setCell ⟨w.heap.size, 15, none⟩ v) (w.heap.size + 1) .u8 16 59 (fun i => (((fun _ => 0 : Nat → UInt8) i).toNat : Int))) := fun v => hout.other (by omega) _ v
        have HB1 : Hid (∀ v, Below w.heap.size w (wr.setCell ⟨w.heap.size, 15, none⟩ v)) := fun v => below_setCell hbel (Nat.le_refl _) _ v
        clear hrow hout hbel h256 h1 e1 ho
        generalize (db1 b 15).toNat ^^^ 135 = XX at *
        generalize (db1 b 15).toNat = X0 at *
        go_wp2_with (first
          | (refine wpList_load_row rfl 59 _ rfl w.heap.size rfl 59 (bR (dbB b)) (0, 0) _ HS.out Try.underlying59 rfl (HIB.out _) ?_)
          | (refine wpList_store_row rfl 59 _ _ rfl (w.heap.size + 1) (bR (dbB b)) rfl rfl 59 (bR (fun _ => 0)) (HO1.out _) (HIB.out _) (HSB.out _ _) (HON.out _) ?_))
        refine bodyPost_ret (results_cell_row (P := Try.prog) (p := 2) (ty := 59) (by kernel_rfl) _ _ (w.heap.size + 1) 59 (bR (dbB b)) (0, 0) _ rfl (setRow_heap _ _ (bR (fun _ => 0)) (bR (dbB b)) 59 (0, 0) (HO1.out _)) Try.underlying59 rfl (HIB.out _)) rfl ?_
        exact ⟨rfl, below_setRow (HB1.out _) (by omega) _⟩
      · have e1 : (b 0).toNat / 128 = 0 := by omega
        rw [e1]
        have HS : Hid (RowZ wr w.heap.size .u8 16 59 (fun i => ((dbB b i).toNat : Int))) := HRW.out.congr fun i hi => by
          unfold dbB
          rw [if_neg (fun h => h1 h.2)]
        clear hrow hout hbel h256 h1 e1 ho
        go_wp2_with (first
          | (refine wpList_load_row rfl 59 _ rfl w.heap.size rfl 59 (bR (dbB b)) (0, 0) _ HS.out Try.underlying59 rfl (HIB.out _) ?_)
          | (refine wpList_store_row rfl 59 _ _ rfl (w.heap.size + 1) (bR (dbB b)) rfl rfl 59 (bR (fun _ => 0)) HOT.out (HIB.out _) (HSB.out _ _) (HON.out _) ?_))
        refine bodyPost_ret (results_cell_row (P := Try.prog) (p := 2) (ty := 59) (by kernel_rfl) _ _ (w.heap.size + 1) 59 (bR (dbB b)) (0, 0) _ rfl (setRow_heap _ _ (bR (fun _ => 0)) (bR (dbB b)) 59 (0, 0) HOT.out) Try.underlying59 rfl (HIB.out _)) rfl ?_
        exact ⟨rfl, below_setRow HBL.out (by omega) _⟩
end Go.Proofs.Ytgefampdfhbmbaa
/- What the program's closures over a cipher and a block answer. -/
namespace Go.Proofs.Ytgefampdfhbmbaa
open Go.RowKit
set_option linter.unusedVariables false

/-- A cipher whose address lies in block cb, and a block of sixteen bytes in cn. -/
structure CsAt (w : World) (B p n : Nat) (key : Nat → UInt8) (cb cn : Nat) (c : Nat → UInt8) : Prop where
  ac : AcAt w B p n key
  ptr : w.cell? ⟨cb, 0, none⟩ = some (.pointer (some ⟨p, 0, none⟩))
  cbl : cb < w.heap.size
  row : RowZ w cn .u8 16 59 (fun i => ((c i).toNat : Int))
  np : p ≠ cn
  nb : cb ≠ cn
theorem But.below' {g m : Nat} {a b c : World} (h : But g a b) (k : Below m b c) (hm : a.heap.size ≤ m) (hg : g ≤ a.heap.size := by omega) : But g a c := ⟨h.bel.trans (k.mono (Nat.le_trans hg hm)), fun i hi hn => (k.block i (Nat.lt_of_lt_of_le hi hm)).trans (h.rest i hi hn)⟩
theorem CsAt.same {w w' : World} {B p n cb cn m : Nat} {key c : Nat → UInt8} (h : CsAt w B p n key cb cn c) (hp : p < m) (hc : cb < m) (hn : cn < m) (hk : ∀ i, i < m → w'.heap[i]? = w.heap[i]?) (hs : w.heap.size ≤ w'.heap.size) : CsAt w' B p n key cb cn c := by
  obtain ⟨h1, h2, h3, h4, h5, h6⟩ := h
  obtain ⟨a1, a2, a3, a4⟩ := h1
  have c : ∀ o, w'.cell? ⟨p, o, none⟩ = w.cell? ⟨p, o, none⟩ := fun o => World.cell?_of_block (hk p hp)
  exact ⟨⟨a1, Nat.lt_of_lt_of_le a2 hs, (c _).trans a3, fun r hr j hj => (c _).trans (a4 r hr j hj)⟩, (World.cell?_of_block (hk cb hc)).trans h2, Nat.lt_of_lt_of_le h3 hs, (hk cn hn).trans h4, h5, h6⟩
theorem CsAt.next {w w' : World} {B p n cb cn : Nat} {key c : Nat → UInt8} (h : CsAt w B p n key cb cn c) (hb : Below w.heap.size w w') : CsAt w' B p n key cb cn c := h.same h.ac.lt h.cbl h.row.lt (fun i hi => hb.block i hi) hb.size
theorem CsAt.turn {w w' : World} {B p n cb cn : Nat} {key c c' : Nat → UInt8} (h : CsAt w B p n key cb cn c) (hb : But cn w w') (hr : RowZ w' cn .u8 16 59 (fun i => ((c' i).toNat : Int))) : CsAt w' B p n key cb cn c' := by
  obtain ⟨h1, h2, h3, h4, h5, h6⟩ := h
  obtain ⟨a1, a2, a3, a4⟩ := h1
  have c : ∀ o, w'.cell? ⟨p, o, none⟩ = w.cell? ⟨p, o, none⟩ := fun o => hb.cell a2 h5
  exact ⟨⟨a1, Nat.lt_of_lt_of_le a2 hb.size, (c _).trans a3, fun r hr j hj => (c _).trans (a4 r hr j hj)⟩, (hb.cell h3 h6).trans h2, Nat.lt_of_lt_of_le h3 hb.size, hr, h5, h6⟩
set_option maxRecDepth 100000 in
set_option maxHeartbeats 1600000 in
theorem pCtr_any (n B p : Nat) (hn : n ≤ 8) (key : Nat → UInt8) (cb cn : Nat) (c b : Nat → UInt8) (w : World) (h : CsAt w B p n key cb cn c) : Calls Try.prog 50 #[.agg (bR b), .pointer (some ⟨cb, 0, none⟩), .pointer (some ⟨cn, 0, none⟩)] w fun e w' => e = .returned (.agg (bR (xoB b (enS (n + 6) (rkS n key) c)))) ∧ CsAt w' B p n key cb cn (incS c) ∧ But cn w w' := by
  have HC := hidD h
  have HEN := hidD (fun (b : Nat → UInt8) (w : World) h => pEncrypted_any n B p hn key b w h)
  obtain ⟨hz, hsz⟩ := zero_of_info Try.zero59
  have hbs : ∀ c : Nat → UInt8, (bR c).size = 16 := fun c => rowZ_size _ _ _
  have HIB : Hid (∀ c : Nat → UInt8, (Try.prog.info? 59).map (·.size) = some (bR c).size) := fun c => by rw [hsz, hbs]
  have HON : Hid (∀ c : Nat → UInt8, (bR c).all (·.oneCell') = true) := fun c => rowZ_one _ _ _
  have HSB : Hid (∀ c d : Nat → UInt8, (bR c).size = (bR d).size) := fun c d => by rw [hbs, hbs]
  have hz0 : (rowZ .u8 16 (fun _ => 0)) = bR (fun _ => 0) := rfl
  rw [hz0] at hz
  obtain ⟨b1, b2, b3, b4⟩ := two_blocks w (bR b) (bR (fun _ => 0)) 59
  have W1 := hidD b1
  have W2 := hidD b2
  have W3 := hidD b3
  have HCL := hidD h.row.lt
  clear b1 b2 b3 b4 hbs hz0 hsz h
  go_enter Try.func50, Try.ntmps50
  go_wp2_with fail
  generalize hW : World.alloc _ (Obj.cells (bR (fun _ => 0)) (59 : TypeId)) = u0 at *
  have R0 : Hid (RowZ u0 w.heap.size .u8 16 59 (fun i => ((b i).toNat : Int))) := W1.out
  have O0 : Hid (RowZ u0 (w.heap.size + 1) .u8 16 59 (fun i => (((fun _ => 0 : Nat → UInt8) i).toNat : Int))) := W2.out
  have B0 : Hid (Below w.heap.size w u0) := W3.out
  have C0 := hidD (HC.out.next W3.out)
  clear hW W1 W2 W3
  have q1 : ∀ i : BW u0, (Instr.loadAt 59 (.pointer (some ⟨w.heap.size, 0, none⟩))).run Try.prog i.v = .ok (.agg (bR b)) i.v := fun i => (R0.out.next i.below).load59
  have q2 : ∀ i : BW u0, (Instr.loadAt 59 (.pointer (some ⟨cn, 0, none⟩))).run Try.prog i.v = .ok (.agg (bR c)) i.v := fun i => (C0.out.next i.below).row.load59
  have q3 : ∀ i : BW u0, i.v.cell? ⟨cb, 0, none⟩ = some (.pointer (some ⟨p, 0, none⟩)) := fun i => (C0.out.next i.below).ptr
  have HQ1 : Hid (∀ i : BW u0, Calls Try.prog 42 #[.pointer (some ⟨p, 0, none⟩), .agg (bR c)] i.v fun e w' => e = .returned (.agg (bR (enS (n + 6) (rkS n key) c))) ∧ Below i.v.heap.size i.v w') := fun i => HEN.out c i.v (C0.out.next i.below).ac
  have HQ2 : Hid (∀ w, Calls Try.prog 51 #[.agg (bR b), .agg (bR (enS (n + 6) (rkS n key) c))] w fun e w' => e = .returned (.agg (bR (xoB b (enS (n + 6) (rkS n key) c)))) ∧ Below w.heap.size w w') := fun w => pWith_any _ _ w
  have HPL := hidD (fun w => pPlusOne_any c w)
  generalize hec : enS (n + 6) (rkS n key) c = ec at *
  have HEC := hidD hec
  clear hec
  refine wp_region_put (by simp) (by kernel_rfl) rfl (by kernel_rfl) (by kernel_rfl) (by kernel_rfl) ?_
  simp only [List.dropLast_cons_cons, List.dropLast_singleton, List.getLast_cons_cons, List.getLast_singleton, List.cons_append, List.nil_append, mute]
  refine quiet_load rfl 59 _ rfl ⟨w.heap.size, 0, none⟩ rfl _ (fun w' hw' => by obtain ⟨i, rfl⟩ := hw'; exact q1 i) ?_
  simp only [Act.put, List.setIfInBounds_toArray, List.set_cons_succ, List.set_cons_zero]
  repeat (go_big_quiet_step (fail))
  refine quiet_load rfl 59 _ rfl ⟨cn, 0, none⟩ rfl _ (fun w' hw' => by obtain ⟨i, rfl⟩ := hw'; exact q2 i) ?_
  simp only [Act.put, List.setIfInBounds_toArray, List.set_cons_succ, List.set_cons_zero]
  repeat (go_big_quiet_step (first | (go_at_call 42; exact Calls.below_of (HQ1.out _)) | (go_at_call 51; exact Calls.below_of (HQ2.out _))))
  refine wpQuiet_nil ?_
  intro i
  have Ri := hidD (R0.out.next i.below)
  have Oi := hidD (O0.out.next i.below)
  have Bi : Hid (Below w.heap.size w i.v) := Below.next B0.out i.below
  have Ci := hidD (C0.out.next i.below)
  clear q1 q2 q3 HQ1 HQ2 HEN
  generalize hx : xoB b ec = xb at *
  have HXB := hidD hx
  clear hx
  go_wp2_with (first
    | (refine wpList_store_row rfl 59 _ _ rfl w.heap.size (bR xb) rfl rfl 59 (bR b) Ri.out (HIB.out _) (HSB.out _ _) (HON.out _) ?_; have R1 : Hid (RowZ (i.v.setRow w.heap.size (bR xb)) w.heap.size .u8 16 59 (fun i => ((xb i).toNat : Int))) := row_new Ri.out; have O1 : Hid (RowZ (i.v.setRow w.heap.size (bR xb)) (w.heap.size + 1) .u8 16 59 (fun i => (((fun _ => 0 : Nat → UInt8) i).toNat : Int))) := (setRow_other _ _ _ _ (by omega)).trans Oi.out; have B1 : Hid (Below w.heap.size w (i.v.setRow w.heap.size (bR xb))) := below_setRow Bi.out (Nat.le_refl _) _; have C1 := hidD (HC.out.next B1.out); generalize i.v.setRow w.heap.size (bR xb) = u1 at *)
    | (refine wpList_load_row rfl 59 _ rfl cn rfl 59 (bR c) (0, 0) _ C1.out.row Try.underlying59 rfl (HIB.out _) ?_)
    | (go_at_call 52; refine (HPL.out _).mono ?_; rintro e w2 ⟨rfl, hb2⟩; have R2 := hidD (R1.out.next hb2); have O2 := hidD (O1.out.next hb2); have B2 : Hid (Below w.heap.size w w2) := Below.next B1.out hb2; have C2 := hidD (HC.out.next B2.out); clear hb2)
    | (refine wpList_store_row rfl 59 _ _ rfl cn (bR (incS c)) rfl rfl 59 (bR c) C2.out.row (HIB.out _) (HSB.out _ _) (HON.out _) ?_; have R3 : Hid (RowZ (w2.setRow cn (bR (incS c))) w.heap.size .u8 16 59 (fun i => ((xb i).toNat : Int))) := (setRow_other _ _ _ _ (by have := HCL.out; omega)).trans R2.out; have O3 : Hid (RowZ (w2.setRow cn (bR (incS c))) (w.heap.size + 1) .u8 16 59 (fun i => (((fun _ => 0 : Nat → UInt8) i).toNat : Int))) := (setRow_other _ _ _ _ (by have := HCL.out; omega)).trans O2.out; have N3 : Hid (RowZ (w2.setRow cn (bR (incS c))) cn .u8 16 59 (fun i => ((incS c i).toNat : Int))) := row_new C2.out.row; have U3 : Hid (But cn w (w2.setRow cn (bR (incS c)))) := (But.of B2.out (Nat.le_of_lt HCL.out)).row _; generalize w2.setRow cn (bR (incS c)) = u3 at *)
    | (refine wpList_load_row rfl 59 _ rfl w.heap.size rfl 59 (bR xb) (0, 0) _ R3.out Try.underlying59 rfl (HIB.out _) ?_)
    | (refine wpList_store_row rfl 59 _ _ rfl (w.heap.size + 1) (bR xb) rfl rfl 59 (bR (fun _ => 0)) O3.out (HIB.out _) (HSB.out _ _) (HON.out _) ?_))
  refine bodyPost_ret (results_cell_row (P := Try.prog) (p := 4) (ty := 59) (by kernel_rfl) _ _ (w.heap.size + 1) 59 (bR (xb)) (0, 0) _ rfl (setRow_heap _ _ (bR (fun _ => 0)) (bR (xb)) 59 (0, 0) O3.out) Try.underlying59 rfl (HIB.out _)) rfl ?_
  have UF : But cn w (u3.setRow (w.heap.size + 1) (bR xb)) := U3.out.below' (below_setRow (Below.refl _ _) (Nat.le_refl _) _) (by omega) (Nat.le_of_lt HCL.out)
  exact ⟨by rw [HEC.out, HXB.out], HC.out.turn UF ((setRow_other _ _ _ _ (by have := HCL.out; omega)).trans N3.out), UF⟩
set_option maxRecDepth 100000 in
set_option maxHeartbeats 1600000 in
theorem pChn_any (n B p : Nat) (hn : n ≤ 8) (key : Nat → UInt8) (cb cn : Nat) (c b : Nat → UInt8) (w : World) (h : CsAt w B p n key cb cn c) : Calls Try.prog 71 #[.agg (bR b), .pointer (some ⟨cb, 0, none⟩), .pointer (some ⟨cn, 0, none⟩)] w fun e w' => e = .returned (.agg (bR (enS (n + 6) (rkS n key) (xoB b c)))) ∧ CsAt w' B p n key cb cn (enS (n + 6) (rkS n key) (xoB b c)) ∧ But cn w w' := by
  have HC := hidD h
  have HEN := hidD (fun (b : Nat → UInt8) (w : World) h => pEncrypted_any n B p hn key b w h)
  obtain ⟨hz, hsz⟩ := zero_of_info Try.zero59
  have hbs : ∀ c : Nat → UInt8, (bR c).size = 16 := fun c => rowZ_size _ _ _
  have HIB : Hid (∀ c : Nat → UInt8, (Try.prog.info? 59).map (·.size) = some (bR c).size) := fun c => by rw [hsz, hbs]
  have HON : Hid (∀ c : Nat → UInt8, (bR c).all (·.oneCell') = true) := fun c => rowZ_one _ _ _
  have HSB : Hid (∀ c d : Nat → UInt8, (bR c).size = (bR d).size) := fun c d => by rw [hbs, hbs]
  have hz0 : (rowZ .u8 16 (fun _ => 0)) = bR (fun _ => 0) := rfl
  rw [hz0] at hz
  obtain ⟨b1, b2, b3, b4⟩ := two_blocks w (bR b) (bR (fun _ => 0)) 59
  have W1 := hidD b1
  have W2 := hidD b2
  have W3 := hidD b3
  have HCL := hidD h.row.lt
  clear b1 b2 b3 b4 hbs hz0 hsz h
  go_enter Try.func71, Try.ntmps71
  go_wp2_with fail
  generalize hW : World.alloc _ (Obj.cells (bR (fun _ => 0)) (59 : TypeId)) = u0 at *
  have R0 : Hid (RowZ u0 w.heap.size .u8 16 59 (fun i => ((b i).toNat : Int))) := W1.out
  have O0 : Hid (RowZ u0 (w.heap.size + 1) .u8 16 59 (fun i => (((fun _ => 0 : Nat → UInt8) i).toNat : Int))) := W2.out
  have B0 : Hid (Below w.heap.size w u0) := W3.out
  have C0 := hidD (HC.out.next W3.out)
  clear hW W1 W2 W3
  have q1 : ∀ i : BW u0, (Instr.loadAt 59 (.pointer (some ⟨w.heap.size, 0, none⟩))).run Try.prog i.v = .ok (.agg (bR b)) i.v := fun i => (R0.out.next i.below).load59
  have q2 : ∀ i : BW u0, (Instr.loadAt 59 (.pointer (some ⟨cn, 0, none⟩))).run Try.prog i.v = .ok (.agg (bR c)) i.v := fun i => (C0.out.next i.below).row.load59
  have q3 : ∀ i : BW u0, i.v.cell? ⟨cb, 0, none⟩ = some (.pointer (some ⟨p, 0, none⟩)) := fun i => (C0.out.next i.below).ptr
  have HQ2 : Hid (∀ w, Calls Try.prog 51 #[.agg (bR b), .agg (bR c)] w fun e w' => e = .returned (.agg (bR (xoB b c))) ∧ Below w.heap.size w w') := fun w => pWith_any _ _ w
  have HQ1 : Hid (∀ i : BW u0, Calls Try.prog 42 #[.pointer (some ⟨p, 0, none⟩), .agg (bR (xoB b c))] i.v fun e w' => e = .returned (.agg (bR (enS (n + 6) (rkS n key) (xoB b c)))) ∧ Below i.v.heap.size i.v w') := fun i => HEN.out _ i.v (C0.out.next i.below).ac
  generalize hxb : xoB b c = xb at *
  have HXB := hidD hxb
  clear hxb
  generalize hec : enS (n + 6) (rkS n key) xb = ec at *
  have HEC := hidD hec
  clear hec
  refine wp_region_put (by simp) (by kernel_rfl) rfl (by kernel_rfl) (by kernel_rfl) (by kernel_rfl) ?_
  simp only [List.dropLast_cons_cons, List.dropLast_singleton, List.getLast_cons_cons, List.getLast_singleton, List.cons_append, List.nil_append, mute]
  repeat (go_big_quiet_step (fail))
  refine quiet_load rfl 59 _ rfl ⟨w.heap.size, 0, none⟩ rfl _ (fun w' hw' => by obtain ⟨i, rfl⟩ := hw'; exact q1 i) ?_
  simp only [Act.put, List.setIfInBounds_toArray, List.set_cons_succ, List.set_cons_zero]
  refine quiet_load rfl 59 _ rfl ⟨cn, 0, none⟩ rfl _ (fun w' hw' => by obtain ⟨i, rfl⟩ := hw'; exact q2 i) ?_
  simp only [Act.put, List.setIfInBounds_toArray, List.set_cons_succ, List.set_cons_zero]
  repeat (go_big_quiet_step (first | (go_at_call 51; exact Calls.below_of (HQ2.out _)) | (go_at_call 42; exact Calls.below_of (HQ1.out _))))
  refine wpQuiet_nil ?_
  intro i
  have Oi := hidD (O0.out.next i.below)
  have Bi : Hid (Below w.heap.size w i.v) := Below.next B0.out i.below
  have Ci := hidD (C0.out.next i.below)
  clear q1 q2 q3 HQ1 HQ2 HEN
  go_wp2_with (first
    | (refine wpList_store_row rfl 59 _ _ rfl cn (bR ec) rfl rfl 59 (bR c) Ci.out.row (HIB.out _) (HSB.out _ _) (HON.out _) ?_; have O3 : Hid (RowZ (i.v.setRow cn (bR ec)) (w.heap.size + 1) .u8 16 59 (fun i => (((fun _ => 0 : Nat → UInt8) i).toNat : Int))) := (setRow_other _ _ _ _ (by have := HCL.out; omega)).trans Oi.out; have N3 : Hid (RowZ (i.v.setRow cn (bR ec)) cn .u8 16 59 (fun i => ((ec i).toNat : Int))) := row_new Ci.out.row; have U3 : Hid (But cn w (i.v.setRow cn (bR ec))) := (But.of Bi.out (Nat.le_of_lt HCL.out)).row _; generalize i.v.setRow cn (bR ec) = u3 at *)
    | (refine wpList_load_row rfl 59 _ rfl cn rfl 59 (bR ec) (0, 0) _ N3.out Try.underlying59 rfl (HIB.out _) ?_)
    | (refine wpList_store_row rfl 59 _ _ rfl (w.heap.size + 1) (bR ec) rfl rfl 59 (bR (fun _ => 0)) O3.out (HIB.out _) (HSB.out _ _) (HON.out _) ?_))
  refine bodyPost_ret (results_cell_row (P := Try.prog) (p := 4) (ty := 59) (by kernel_rfl) _ _ (w.heap.size + 1) 59 (bR (ec)) (0, 0) _ rfl (setRow_heap _ _ (bR (fun _ => 0)) (bR (ec)) 59 (0, 0) O3.out) Try.underlying59 rfl (HIB.out _)) rfl ?_
  have UF : But cn w (u3.setRow (w.heap.size + 1) (bR ec)) := U3.out.below' (below_setRow (Below.refl _ _) (Nat.le_refl _) _) (by omega) (Nat.le_of_lt HCL.out)
  exact ⟨by rw [HXB.out, HEC.out], by rw [HXB.out, HEC.out]; exact HC.out.turn UF ((setRow_other _ _ _ _ (by have := HCL.out; omega)).trans N3.out), UF⟩
end Go.Proofs.Ytgefampdfhbmbaa
/- What the closure of the program's Unchain answers. -/
namespace Go.Proofs.Ytgefampdfhbmbaa
open Go.RowKit
set_option linter.unusedVariables false

set_option maxRecDepth 100000 in
set_option maxHeartbeats 3200000 in
theorem pUnc_any (n B p : Nat) (hn : n ≤ 8) (key : Nat → UInt8) (cb cn : Nat) (c b : Nat → UInt8) (w : World) (h : CsAt w B p n key cb cn c) : Calls Try.prog 56 #[.agg (bR b), .pointer (some ⟨cb, 0, none⟩), .pointer (some ⟨cn, 0, none⟩)] w fun e w' => e = .returned (.agg (bR (xoB (deS (n + 6) (rkS n key) b) c))) ∧ CsAt w' B p n key cb cn b ∧ But cn w w' := by
  have HC := hidD h
  have HEN := hidD (fun (b : Nat → UInt8) (w : World) h => pDecrypted_any n B p hn key b w h)
  obtain ⟨hz, hsz⟩ := zero_of_info Try.zero59
  have hbs : ∀ c : Nat → UInt8, (bR c).size = 16 := fun c => rowZ_size _ _ _
  have HIB : Hid (∀ c : Nat → UInt8, (Try.prog.info? 59).map (·.size) = some (bR c).size) := fun c => by rw [hsz, hbs]
  have HON : Hid (∀ c : Nat → UInt8, (bR c).all (·.oneCell') = true) := fun c => rowZ_one _ _ _
  have HSB : Hid (∀ c d : Nat → UInt8, (bR c).size = (bR d).size) := fun c d => by rw [hbs, hbs]
  have hz0 : (rowZ .u8 16 (fun _ => 0)) = bR (fun _ => 0) := rfl
  rw [hz0] at hz
  obtain ⟨b1, b2, b3, b4⟩ := two_blocks w (bR b) (bR (fun _ => 0)) 59
  have W1 := hidD b1
  have W2 := hidD b2
  have W3 := hidD b3
  have HCL := hidD h.row.lt
  clear b1 b2 b3 b4 hbs hz0 hsz h
  go_enter Try.func56, Try.ntmps56
  go_wp2_with fail
  generalize hW : World.alloc _ (Obj.cells (bR (fun _ => 0)) (59 : TypeId)) = u0 at *
  have R0 : Hid (RowZ u0 w.heap.size .u8 16 59 (fun i => ((b i).toNat : Int))) := W1.out
  have O0 : Hid (RowZ u0 (w.heap.size + 1) .u8 16 59 (fun i => (((fun _ => 0 : Nat → UInt8) i).toNat : Int))) := W2.out
  have B0 : Hid (Below w.heap.size w u0) := W3.out
  have C0 := hidD (HC.out.next W3.out)
  clear hW W1 W2 W3
  have q1 : ∀ i : KB u0 [w.heap.size, cn, cb], (Instr.loadAt 59 (.pointer (some ⟨w.heap.size, 0, none⟩))).run Try.prog i.v = .ok (.agg (bR b)) i.v := fun i => RowZ.load59 ((i.keep _ (by simp)).trans R0.out)
  have q2 : ∀ i : KB u0 [w.heap.size, cn, cb], (Instr.loadAt 59 (.pointer (some ⟨cn, 0, none⟩))).run Try.prog i.v = .ok (.agg (bR c)) i.v := fun i => RowZ.load59 ((i.keep _ (by simp)).trans C0.out.row)
  have q3 : ∀ i : KB u0 [w.heap.size, cn, cb], i.v.cell? ⟨cb, 0, none⟩ = some (.pointer (some ⟨p, 0, none⟩)) := fun i => (i.cell (by simp) 0).trans C0.out.ptr
  have HQ1 : Hid (∀ w', Below u0.heap.size u0 w' → Calls Try.prog 44 #[.pointer (some ⟨p, 0, none⟩), .agg (bR b)] w' fun e w'' => e = .returned (.agg (bR (deS (n + 6) (rkS n key) b))) ∧ Below w'.heap.size w' w'') := fun w' hb => HEN.out b w' (C0.out.next hb).ac
  have HQ2 : Hid (∀ w, Calls Try.prog 51 #[.agg (bR (deS (n + 6) (rkS n key) b)), .agg (bR c)] w fun e w' => e = .returned (.agg (bR (xoB (deS (n + 6) (rkS n key) b) c))) ∧ Below w.heap.size w w') := fun w => pWith_any _ _ w
  have HKB : Hid (∀ w', Below u0.heap.size u0 w' → ∃ q : KB u0 [w.heap.size, cn, cb], w' = q.v) := fun w' hb => ⟨⟨w', fun x hx => by
    rcases (show x = w.heap.size ∨ x = cn ∨ x = cb by simpa using hx) with h | h | h <;> subst h
    · exact hb.block _ R0.out.lt
    · exact hb.block _ C0.out.row.lt
    · exact hb.block _ C0.out.cbl⟩, rfl⟩
  have HAL : Hid (∀ v : World, Below v.heap.size v (v.alloc (.cells (bR (fun _ => 0)) (59 : TypeId)))) := fun v => (Below.refl _ _).alloc (Nat.le_refl _) _
  have HNW : Hid (∀ v : World, (v.alloc (.cells (bR (fun _ => 0)) (59 : TypeId))).heap[v.heap.size]? = some (.cells (bR (fun _ => 0)) (59 : TypeId) (0, 0))) := fun v => heap_alloc_last _ _
  have HSA : Hid (∀ v : World, v.heap.size < (v.alloc (.cells (bR (fun _ => 0)) (59 : TypeId))).heap.size) := fun v => by simp
  have HDR : Hid (Below u0.heap.size u0 u0.drew) := (Below.refl _ _).drew
  have HFIN : Hid (∃ R : World → Nat → Prop, ∀ w4 gm, R w4 gm ↔ (w4.heap[gm]? = some (.cells (bR (fun _ => 0)) (59 : TypeId) (0, 0)) ∧ Below u0.heap.size u0 w4 ∧ u0.heap.size ≤ gm)) := ⟨fun w4 gm => _, fun _ _ => Iff.rfl⟩
  obtain ⟨R, hR⟩ := HFIN.out
  have HR := hidD hR
  clear hR HFIN
  generalize hec : deS (n + 6) (rkS n key) b = ec at *
  have HEC := hidD hec
  clear hec
  generalize hx : xoB ec c = xb at *
  have HXB := hidD hx
  clear hx
  refine wp_region_free [true, true, false, true, false, false] 4 [w.heap.size, cn, cb] (by simp) (by kernel_rfl) rfl rfl (by kernel_rfl) (by kernel_rfl) (by kernel_rfl) (by kernel_rfl) (by kernel_rfl) (by kernel_rfl) (fun _ _ _ _ _ h => h) ?_
  simp only [List.dropLast_cons_cons, List.dropLast_singleton, List.getLast_cons_cons, List.getLast_singleton, List.cons_append, List.nil_append, mute, qPick]
  repeat (go_big_quiet_step (fail))
  refine quiet_load rfl 59 _ rfl ⟨w.heap.size, 0, none⟩ rfl _ (fun w' hw' => by obtain ⟨i, rfl⟩ := hw'; exact q1 i) ?_
  simp only [Act.put, List.setIfInBounds_toArray, List.set_cons_succ, List.set_cons_zero]
  refine quiet_load rfl 59 _ rfl ⟨cn, 0, none⟩ rfl _ (fun w' hw' => by obtain ⟨i, rfl⟩ := hw'; exact q2 i) ?_
  simp only [Act.put, List.setIfInBounds_toArray, List.set_cons_succ, List.set_cons_zero]
  refine wpQuiet_nil ?_
  clear q1 q2 q3
  refine any_step [2, 5] rfl (by kernel_rfl) (by simp) (all_two ⟨_, rfl, ?one⟩ ⟨_, rfl, ?two⟩)
  case one =>
    go_wp2_with (go_at_call 44; refine (HQ1.out _ HDR.out).mono ?_; rintro e w1 ⟨rfl, hb1⟩; have HB1 := hidD hb1; clear hb1)
    have D1 : Hid (Below u0.heap.size u0 w1) := HDR.out.trans HB1.out
    refine ⟨HKB.out _ D1.out, ?_⟩
    refine any_step [4, 5] rfl (by kernel_rfl) (by simp) (all_two ⟨_, rfl, ?oneA⟩ ⟨_, rfl, ?oneB⟩)
    case oneA =>
      go_wp2_with (go_at_call 51; refine (HQ2.out _).mono ?_; rintro e w2 ⟨rfl, hb2⟩; have HB2 := hidD hb2; clear hb2)
      have D2 : Hid (Below u0.heap.size u0 w2) := Below.next D1.out HB2.out
      refine ⟨HKB.out _ D2.out, ?_⟩
      refine any_step [5] rfl (by kernel_rfl) (by simp) (all_one ⟨_, rfl, ?_⟩)
      go_wp2_with fail
      have D3 : Hid (Below u0.heap.size u0 (w2.alloc (.cells (bR (fun _ => 0)) (59 : TypeId)))) := Below.next D2.out (HAL.out w2)
      have hR4 := (HR.out _ _).2 ⟨HNW.out w2, D3.out, D2.out.size⟩
      refine ⟨HKB.out _ D3.out, ?_⟩
      refine any_last rfl rfl rfl (by kernel_rfl) (HKB.out _ D3.out) ?_
      clear D1 D2 D3 HB1 HB2
      revert hR4
      generalize w2.alloc (.cells (bR (fun _ => 0)) (59 : TypeId)) = wf
      generalize w2.heap.size = gm
      intro hR4
      obtain ⟨hnw, hbw, hgm⟩ := (HR.out _ _).1 hR4
      have BF : Hid (Below w.heap.size w wf) := Below.next B0.out hbw
      have RF := hidD (R0.out.next hbw)
      have OF := hidD (O0.out.next hbw)
      have NF : Hid (RowZ wf gm .u8 16 59 (fun i => (((fun _ => 0 : Nat → UInt8) i).toNat : Int))) := hnw
      have CF := hidD (HC.out.next BF.out)
      have HGM : Hid (w.heap.size + 1 < gm) := Nat.lt_of_lt_of_le O0.out.lt hgm
      clear hnw hbw hgm hR4 HR HAL HNW HSA HDR HKB R0 O0 B0 C0 HQ1 HQ2 HEN
      go_wp2_with (first
        | (refine wpList_store_row rfl 59 _ _ rfl gm (bR xb) rfl rfl 59 (bR (fun _ => 0)) NF.out (HIB.out _) (HSB.out _ _) (HON.out _) ?_; have R1 : Hid (RowZ (wf.setRow gm (bR xb)) w.heap.size .u8 16 59 (fun i => ((b i).toNat : Int))) := (setRow_other _ _ _ _ (by have := HGM.out; omega)).trans RF.out; have O1 : Hid (RowZ (wf.setRow gm (bR xb)) (w.heap.size + 1) .u8 16 59 (fun i => (((fun _ => 0 : Nat → UInt8) i).toNat : Int))) := (setRow_other _ _ _ _ (by have := HGM.out; omega)).trans OF.out; have N1 : Hid (RowZ (wf.setRow gm (bR xb)) gm .u8 16 59 (fun i => ((xb i).toNat : Int))) := row_new NF.out; have B1 : Hid (Below w.heap.size w (wf.setRow gm (bR xb))) := below_setRow BF.out (by have := HGM.out; omega) _; have C1 := hidD (HC.out.next B1.out); clear RF OF NF BF CF; generalize wf.setRow gm (bR xb) = u1 at *)
        | (refine wpList_load_row rfl 59 _ rfl w.heap.size rfl 59 (bR b) (0, 0) _ R1.out Try.underlying59 rfl (HIB.out _) ?_)
        | (refine wpList_store_row rfl 59 _ _ rfl cn (bR b) rfl rfl 59 (bR c) C1.out.row (HIB.out _) (HSB.out _ _) (HON.out _) ?_; have O3 : Hid (RowZ (u1.setRow cn (bR b)) (w.heap.size + 1) .u8 16 59 (fun i => (((fun _ => 0 : Nat → UInt8) i).toNat : Int))) := (setRow_other _ _ _ _ (by have := HCL.out; omega)).trans O1.out; have M3 : Hid (RowZ (u1.setRow cn (bR b)) gm .u8 16 59 (fun i => ((xb i).toNat : Int))) := (setRow_other _ _ _ _ (by have := HCL.out; have := HGM.out; omega)).trans N1.out; have N3 : Hid (RowZ (u1.setRow cn (bR b)) cn .u8 16 59 (fun i => ((b i).toNat : Int))) := row_new C1.out.row; have U3 : Hid (But cn w (u1.setRow cn (bR b))) := (But.of B1.out (Nat.le_of_lt HCL.out)).row _; generalize u1.setRow cn (bR b) = u3 at *)
        | (refine wpList_load_row rfl 59 _ rfl gm rfl 59 (bR xb) (0, 0) _ M3.out Try.underlying59 rfl (HIB.out _) ?_)
        | (refine wpList_store_row rfl 59 _ _ rfl (w.heap.size + 1) (bR xb) rfl rfl 59 (bR (fun _ => 0)) O3.out (HIB.out _) (HSB.out _ _) (HON.out _) ?_))
      refine bodyPost_ret (results_cell_row (P := Try.prog) (p := 4) (ty := 59) (by kernel_rfl) _ _ (w.heap.size + 1) 59 (bR (xb)) (0, 0) _ rfl (setRow_heap _ _ (bR (fun _ => 0)) (bR (xb)) 59 (0, 0) O3.out) Try.underlying59 rfl (HIB.out _)) rfl ?_
      have UF : But cn w (u3.setRow (w.heap.size + 1) (bR xb)) := U3.out.below' (below_setRow (Below.refl _ _) (Nat.le_refl _) _) (by omega) (Nat.le_of_lt HCL.out)
      exact ⟨by rw [HEC.out, HXB.out], HC.out.turn UF ((setRow_other _ _ _ _ (by have := HCL.out; omega)).trans N3.out), UF⟩
    case oneB =>
      go_wp2_with fail
      have D2 : Hid (Below u0.heap.size u0 (w1.alloc (.cells (bR (fun _ => 0)) (59 : TypeId)))) := Below.next D1.out (HAL.out w1)
      refine ⟨HKB.out _ D2.out, ?_⟩
      refine any_step [4] rfl (by kernel_rfl) (by simp) (all_one ⟨_, rfl, ?_⟩)
      go_wp2_with (go_at_call 51; refine (HQ2.out _).mono ?_; rintro e wf ⟨rfl, hbf⟩; have HBf := hidD hbf; clear hbf)
      have D3 : Hid (Below u0.heap.size u0 wf) := Below.next D2.out HBf.out
      have hR4 : R wf w1.heap.size := (HR.out _ _).2 ⟨(HBf.out.block _ (HSA.out w1)).trans (HNW.out w1), D3.out, D1.out.size⟩
      refine ⟨HKB.out _ D3.out, ?_⟩
      refine any_last rfl rfl rfl (by kernel_rfl) (HKB.out _ D3.out) ?_
      clear D1 D2 D3 HB1 HBf
      revert hR4
      generalize w1.heap.size = gm
      intro hR4
      obtain ⟨hnw, hbw, hgm⟩ := (HR.out _ _).1 hR4
      have BF : Hid (Below w.heap.size w wf) := Below.next B0.out hbw
      have RF := hidD (R0.out.next hbw)
      have OF := hidD (O0.out.next hbw)
      have NF : Hid (RowZ wf gm .u8 16 59 (fun i => (((fun _ => 0 : Nat → UInt8) i).toNat : Int))) := hnw
      have CF := hidD (HC.out.next BF.out)
      have HGM : Hid (w.heap.size + 1 < gm) := Nat.lt_of_lt_of_le O0.out.lt hgm
      clear hnw hbw hgm hR4 HR HAL HNW HSA HDR HKB R0 O0 B0 C0 HQ1 HQ2 HEN
      go_wp2_with (first
        | (refine wpList_store_row rfl 59 _ _ rfl gm (bR xb) rfl rfl 59 (bR (fun _ => 0)) NF.out (HIB.out _) (HSB.out _ _) (HON.out _) ?_; have R1 : Hid (RowZ (wf.setRow gm (bR xb)) w.heap.size .u8 16 59 (fun i => ((b i).toNat : Int))) := (setRow_other _ _ _ _ (by have := HGM.out; omega)).trans RF.out; have O1 : Hid (RowZ (wf.setRow gm (bR xb)) (w.heap.size + 1) .u8 16 59 (fun i => (((fun _ => 0 : Nat → UInt8) i).toNat : Int))) := (setRow_other _ _ _ _ (by have := HGM.out; omega)).trans OF.out; have N1 : Hid (RowZ (wf.setRow gm (bR xb)) gm .u8 16 59 (fun i => ((xb i).toNat : Int))) := row_new NF.out; have B1 : Hid (Below w.heap.size w (wf.setRow gm (bR xb))) := below_setRow BF.out (by have := HGM.out; omega) _; have C1 := hidD (HC.out.next B1.out); clear RF OF NF BF CF; generalize wf.setRow gm (bR xb) = u1 at *)
        | (refine wpList_load_row rfl 59 _ rfl w.heap.size rfl 59 (bR b) (0, 0) _ R1.out Try.underlying59 rfl (HIB.out _) ?_)
        | (refine wpList_store_row rfl 59 _ _ rfl cn (bR b) rfl rfl 59 (bR c) C1.out.row (HIB.out _) (HSB.out _ _) (HON.out _) ?_; have O3 : Hid (RowZ (u1.setRow cn (bR b)) (w.heap.size + 1) .u8 16 59 (fun i => (((fun _ => 0 : Nat → UInt8) i).toNat : Int))) := (setRow_other _ _ _ _ (by have := HCL.out; omega)).trans O1.out; have M3 : Hid (RowZ (u1.setRow cn (bR b)) gm .u8 16 59 (fun i => ((xb i).toNat : Int))) := (setRow_other _ _ _ _ (by have := HCL.out; have := HGM.out; omega)).trans N1.out; have N3 : Hid (RowZ (u1.setRow cn (bR b)) cn .u8 16 59 (fun i => ((b i).toNat : Int))) := row_new C1.out.row; have U3 : Hid (But cn w (u1.setRow cn (bR b))) := (But.of B1.out (Nat.le_of_lt HCL.out)).row _; generalize u1.setRow cn (bR b) = u3 at *)
        | (refine wpList_load_row rfl 59 _ rfl gm rfl 59 (bR xb) (0, 0) _ M3.out Try.underlying59 rfl (HIB.out _) ?_)
        | (refine wpList_store_row rfl 59 _ _ rfl (w.heap.size + 1) (bR xb) rfl rfl 59 (bR (fun _ => 0)) O3.out (HIB.out _) (HSB.out _ _) (HON.out _) ?_))
      refine bodyPost_ret (results_cell_row (P := Try.prog) (p := 4) (ty := 59) (by kernel_rfl) _ _ (w.heap.size + 1) 59 (bR (xb)) (0, 0) _ rfl (setRow_heap _ _ (bR (fun _ => 0)) (bR (xb)) 59 (0, 0) O3.out) Try.underlying59 rfl (HIB.out _)) rfl ?_
      have UF : But cn w (u3.setRow (w.heap.size + 1) (bR xb)) := U3.out.below' (below_setRow (Below.refl _ _) (Nat.le_refl _) _) (by omega) (Nat.le_of_lt HCL.out)
      exact ⟨by rw [HEC.out, HXB.out], HC.out.turn UF ((setRow_other _ _ _ _ (by have := HCL.out; omega)).trans N3.out), UF⟩
  case two =>
      go_wp2_with fail
      have D1 : Hid (Below u0.heap.size u0 (u0.drew.alloc (.cells (bR (fun _ => 0)) (59 : TypeId)))) := HDR.out.trans (HAL.out u0.drew)
      refine ⟨HKB.out _ D1.out, ?_⟩
      refine any_step [2] rfl (by kernel_rfl) (by simp) (all_one ⟨_, rfl, ?_⟩)
      go_wp2_with (go_at_call 44; refine (HQ1.out _ D1.out).mono ?_; rintro e w1 ⟨rfl, hb1⟩; have HB1 := hidD hb1; clear hb1)
      have D2 : Hid (Below u0.heap.size u0 w1) := Below.next D1.out HB1.out
      refine ⟨HKB.out _ D2.out, ?_⟩
      refine any_step [4] rfl (by kernel_rfl) (by simp) (all_one ⟨_, rfl, ?_⟩)
      go_wp2_with (go_at_call 51; refine (HQ2.out _).mono ?_; rintro e wf ⟨rfl, hbf⟩; have HBf := hidD hbf; clear hbf)
      have D3 : Hid (Below u0.heap.size u0 wf) := Below.next D2.out HBf.out
      have hR4 : R wf u0.heap.size := (HR.out _ _).2 ⟨(HBf.out.block _ (Nat.lt_of_lt_of_le (HSA.out u0.drew) HB1.out.size)).trans ((HB1.out.block _ (HSA.out u0.drew)).trans (HNW.out u0.drew)), D3.out, Nat.le_refl _⟩
      refine ⟨HKB.out _ D3.out, ?_⟩
      refine any_last rfl rfl rfl (by kernel_rfl) (HKB.out _ D3.out) ?_
      clear D1 D2 D3 HB1 HBf
      revert hR4
      generalize u0.heap.size = gm
      intro hR4
      obtain ⟨hnw, hbw, hgm⟩ := (HR.out _ _).1 hR4
      have BF : Hid (Below w.heap.size w wf) := Below.next B0.out hbw
      have RF := hidD (R0.out.next hbw)
      have OF := hidD (O0.out.next hbw)
      have NF : Hid (RowZ wf gm .u8 16 59 (fun i => (((fun _ => 0 : Nat → UInt8) i).toNat : Int))) := hnw
      have CF := hidD (HC.out.next BF.out)
      have HGM : Hid (w.heap.size + 1 < gm) := Nat.lt_of_lt_of_le O0.out.lt hgm
      clear hnw hbw hgm hR4 HR HAL HNW HSA HDR HKB R0 O0 B0 C0 HQ1 HQ2 HEN
      go_wp2_with (first
        | (refine wpList_store_row rfl 59 _ _ rfl gm (bR xb) rfl rfl 59 (bR (fun _ => 0)) NF.out (HIB.out _) (HSB.out _ _) (HON.out _) ?_; have R1 : Hid (RowZ (wf.setRow gm (bR xb)) w.heap.size .u8 16 59 (fun i => ((b i).toNat : Int))) := (setRow_other _ _ _ _ (by have := HGM.out; omega)).trans RF.out; have O1 : Hid (RowZ (wf.setRow gm (bR xb)) (w.heap.size + 1) .u8 16 59 (fun i => (((fun _ => 0 : Nat → UInt8) i).toNat : Int))) := (setRow_other _ _ _ _ (by have := HGM.out; omega)).trans OF.out; have N1 : Hid (RowZ (wf.setRow gm (bR xb)) gm .u8 16 59 (fun i => ((xb i).toNat : Int))) := row_new NF.out; have B1 : Hid (Below w.heap.size w (wf.setRow gm (bR xb))) := below_setRow BF.out (by have := HGM.out; omega) _; have C1 := hidD (HC.out.next B1.out); clear RF OF NF BF CF; generalize wf.setRow gm (bR xb) = u1 at *)
        | (refine wpList_load_row rfl 59 _ rfl w.heap.size rfl 59 (bR b) (0, 0) _ R1.out Try.underlying59 rfl (HIB.out _) ?_)
        | (refine wpList_store_row rfl 59 _ _ rfl cn (bR b) rfl rfl 59 (bR c) C1.out.row (HIB.out _) (HSB.out _ _) (HON.out _) ?_; have O3 : Hid (RowZ (u1.setRow cn (bR b)) (w.heap.size + 1) .u8 16 59 (fun i => (((fun _ => 0 : Nat → UInt8) i).toNat : Int))) := (setRow_other _ _ _ _ (by have := HCL.out; omega)).trans O1.out; have M3 : Hid (RowZ (u1.setRow cn (bR b)) gm .u8 16 59 (fun i => ((xb i).toNat : Int))) := (setRow_other _ _ _ _ (by have := HCL.out; have := HGM.out; omega)).trans N1.out; have N3 : Hid (RowZ (u1.setRow cn (bR b)) cn .u8 16 59 (fun i => ((b i).toNat : Int))) := row_new C1.out.row; have U3 : Hid (But cn w (u1.setRow cn (bR b))) := (But.of B1.out (Nat.le_of_lt HCL.out)).row _; generalize u1.setRow cn (bR b) = u3 at *)
        | (refine wpList_load_row rfl 59 _ rfl gm rfl 59 (bR xb) (0, 0) _ M3.out Try.underlying59 rfl (HIB.out _) ?_)
        | (refine wpList_store_row rfl 59 _ _ rfl (w.heap.size + 1) (bR xb) rfl rfl 59 (bR (fun _ => 0)) O3.out (HIB.out _) (HSB.out _ _) (HON.out _) ?_))
      refine bodyPost_ret (results_cell_row (P := Try.prog) (p := 4) (ty := 59) (by kernel_rfl) _ _ (w.heap.size + 1) 59 (bR (xb)) (0, 0) _ rfl (setRow_heap _ _ (bR (fun _ => 0)) (bR (xb)) 59 (0, 0) O3.out) Try.underlying59 rfl (HIB.out _)) rfl ?_
      have UF : But cn w (u3.setRow (w.heap.size + 1) (bR xb)) := U3.out.below' (below_setRow (Below.refl _ _) (Nat.le_refl _) _) (by omega) (Nat.le_of_lt HCL.out)
      exact ⟨by rw [HEC.out, HXB.out], HC.out.turn UF ((setRow_other _ _ _ _ (by have := HCL.out; omega)).trans N3.out), UF⟩
end Go.Proofs.Ytgefampdfhbmbaa
