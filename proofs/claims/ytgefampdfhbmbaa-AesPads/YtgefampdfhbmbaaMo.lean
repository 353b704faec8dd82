/- Texts of one proof, one behind the other. -/
import Derived.Test.YtgefampdfhbmbaaMn
/- What the program's walk over blocks answers, of any closure that answers so and so. -/
namespace Go.Proofs.Ytgefampdfhbmbaa
open Go.RowKit
set_option linter.unusedVariables false

theorem by_drop {w : World} {g o n cap : Nat} {d : List UInt8} (hg : g < w.heap.size) (hc : ∀ j, j < d.length → w.cell? ⟨g, o + j, none⟩ = some (.int .u8 ((d.getD j 0).toNat : Int))) (hn : n ≤ d.length) : ByAt w (.slice (some ⟨g, o + n, none⟩) (d.length - n) cap) (d.drop n) := by
  refine .inr ⟨g, o + n, cap, by rw [List.length_drop], hg, fun j hj => ?_⟩
  rw [List.length_drop] at hj
  rw [Nat.add_assoc, hc (n + j) (by omega), List.getD_eq_getElem?_getD, List.getD_eq_getElem?_getD, List.getElem?_drop]
  rfl
set_option maxRecDepth 100000 in
set_option maxHeartbeats 3200000 in
theorem pWalk50_any (d : List UInt8) (hd : d.length ≤ 140737488355300) (cb cn : Nat) (St : World → Nat → Prop) (ob : Nat → Nat → UInt8) (v : Value) (w : World) (hv : SlAt w v d) (hcn : cn < w.heap.size) (hoff : 0 < d.length → Off v cn)
    (hst : ∀ k (a b : World), St a k → w.heap.size ≤ a.heap.size → (∀ i, i < w.heap.size → b.heap[i]? = a.heap[i]?) → a.heap.size ≤ b.heap.size → St b k) (h0 : St w 0)
    (hF : ∀ k, 16 * k < d.length → ∀ a : World, St a k → Calls Try.prog 50 #[.agg (bR (blk ((d.drop (16 * k)).take 16))), .pointer (some ⟨cb, 0, none⟩), .pointer (some ⟨cn, 0, none⟩)] a fun e b => e = .returned (.agg (bR (ob k))) ∧ St b (k + 1) ∧ But cn a b) :
    Calls Try.prog 49 #[v, .func (.func 50) #[] #[.pointer (some ⟨cb, 0, none⟩), .pointer (some ⟨cn, 0, none⟩)]] w fun e w' => ∃ vo, e = .returned vo ∧ SlAt w' vo ((List.range d.length).map fun i => ob (i / 16) (i % 16)) ∧ St w' ((d.length + 15) / 16) ∧ But cn w w' := by
  obtain ⟨⟨a, cap, rfl, hcap, hcm⟩, hby⟩ := hv
  have HSRC : Hid (0 < d.length → ∃ dg dq, a = some ⟨dg, dq, none⟩ ∧ dg ≠ cn ∧ dg < w.heap.size ∧ ∀ j, j < d.length → w.cell? ⟨dg, dq + j, none⟩ = some (.int .u8 ((d.getD j 0).toNat : Int))) := fun h => by
    obtain ⟨g, o, rfl, h1, h2⟩ := hby.src h
    exact ⟨g, o, rfl, hoff h _ _ _ _ rfl, h1, h2⟩
  have HST := hidD hst
  have HF := hidD hF
  have HS0 := hidD h0
  have HCN := hidD hcn
  have hi5 := Try.size5
  obtain ⟨hz, hsz⟩ := zero_of_info Try.zero59
  have hz0 : (rowZ .u8 16 (fun _ => 0)) = bR (fun _ => 0) := rfl
  rw [hz0] at hz
  have HIB : Hid (∀ c : Nat → UInt8, (Try.prog.info? 59).map (·.size) = some (bR c).size) := fun c => by rw [hsz, show (bR c).size = 16 from rowZ_size _ _ _]
  have HON : Hid (∀ c : Nat → UInt8, (bR c).all (·.oneCell') = true) := fun c => rowZ_one _ _ _
  have HSB : Hid (∀ c d : Nat → UInt8, (bR c).size = (bR d).size) := fun c d => by rw [show (bR c).size = 16 from rowZ_size _ _ _, show (bR d).size = 16 from rowZ_size _ _ _]
  have HCAP := hidD hcap
  have HD := hidD hd
  clear hst hF h0 hby hoff hcap hsz hz0
  generalize hL : d.length = L at *
  have HL := hidD hL
  clear hL
  go_enter Try.func49, Try.ntmps49
  go_wp2_with (at_make; refine wpList_makeB w rfl _ _ rfl .i64 .i64 (L : Int) (L : Int) L rfl rfl rfl rfl (by have := HD.out; omega) ?_; intro w2 hr2 hb2; have HR2 := hidD hr2.out; have HB2 := hidD hb2; clear hr2 hb2)
  have HS2 : Hid (St w2 0) := HST.out 0 w w2 HS0.out (Nat.le_refl _) (fun i hi => HB2.out.block i hi) HB2.out.size
  go_loopw [6] (fun u wr => ∃ k : Nat, 16 * k < L + 16 ∧ u = .int .i64 ((16 * k : Nat) : Int) ∧ RowZ wr w.heap.size .u8 L 5 (fun i => ((if i < 16 * k then ob (i / 16) (i % 16) else 0 : UInt8).toNat : Int)) ∧ St wr k ∧ But cn w wr) (fun u _ => L + 16 - (intOf u).toNat)
  case atStart => exact ⟨0, by omega, rfl, HR2.out, HS2.out, But.of HB2.out (Nat.le_of_lt HCN.out)⟩
  case round =>
    obtain ⟨k, hk, rfl, hrow, hst, hbut⟩ := hrel
    have HRW := hidD hrow
    have HSK := hidD hst
    have HBU := hidD hbut
    have HK := hidD hk
    clear hrow hst hbut
    by_cases hlt : 16 * k < L
    · have hlti : ((16 * k : Nat) : Int) < (L : Int) := by omega
      obtain ⟨dg, dq, rfl, hdn, hdl, hdc⟩ := HSRC.out (by omega)
      have hs1 := fun w' => run_slice22 dg dq (16 * k) L cap hlt (by have := HCAP.out; omega) w'
      have hs2 := fun w' => run_sliceAt22 dg dq (16 * k) L cap hlt (by have := HCAP.out; omega) w'
      have hs3 := fun w' => run_slice22 w.heap.size 0 (16 * k) L L hlt hlt w'
      have hs4 := fun w' => run_sliceAt22 w.heap.size 0 (16 * k) L L hlt hlt w'
      rw [Nat.zero_add] at hs3 hs4
      have HBY : Hid (ByAt wr (.slice (some ⟨dg, dq + 16 * k, none⟩) (L - 16 * k) (cap - 16 * k)) (d.drop (16 * k))) := by
        have h := by_drop (w := wr) (g := dg) (o := dq) (n := 16 * k) (cap := cap - 16 * k) (d := d) (Nat.lt_of_lt_of_le hdl HBU.out.size) (fun j hj => (HBU.out.cell hdl hdn).trans (hdc j (by have := HL.out; omega))) (by have := HL.out; omega)
        rw [HL.out] at h
        exact h
      have HBO := hidD (fun (v : Value) (w : World) hv => pBlockOf_any (d.drop (16 * k)) v w hv)
      have HFK := hidD (HF.out k hlt)
      have HLT : Hid (16 * k < L) := hlt
      have HWS : Hid (w.heap.size ≤ wr.heap.size) := HBU.out.size
      have H16 : Hid (16 * (k + 1) = 16 * k + 16) := by show _ = _; omega
      have HOB : Hid (∀ j, j < 16 → ob k j = ob ((16 * k + j) / 16) ((16 * k + j) % 16)) := fun j hj => by rw [show (16 * k + j) / 16 = k by omega, show (16 * k + j) % 16 = j by omega]
      have HOC : Hid (∀ i, i < L → (if 16 * k ≤ i ∧ i < 16 * k + min 16 (L - 16 * k) then ((ob k (i - 16 * k)).toNat : Int) else ((if i < 16 * k then ob (i / 16) (i % 16) else 0 : UInt8).toNat : Int)) = ((if i < 16 * (k + 1) then ob (i / 16) (i % 16) else 0 : UInt8).toNat : Int)) := fun i hi => by
        by_cases h1 : 16 * k ≤ i ∧ i < 16 * k + min 16 (L - 16 * k)
        · rw [if_pos h1, if_pos (by omega), show i / 16 = k by omega, show i % 16 = i - 16 * k by omega]
        · rw [if_neg h1]
          by_cases h2 : i < 16 * k
          · rw [if_pos h2, if_pos (by omega)]
          · rw [if_neg h2, if_neg (by omega)]
      clear hdn hdl hdc
      generalize h16k : 16 * k = A at *
      have HA := hidD h16k
      have hAb : A ≤ 140737488355300 := by have := HD.out; omega
      clear h16k
      go_wp2_with (first
        | (go_at_call 43; refine (HBO.out _ _ HBY.out).mono ?_; rintro e w3 ⟨rfl, hb3⟩; have HB3 := hidD hb3; clear hb3)
        | (go_at_call 50; refine (HFK.out _ (HST.out k wr w3 HSK.out HWS.out (fun i hi => HB3.out.block i (Nat.lt_of_lt_of_le hi HWS.out)) HB3.out.size)).mono ?_; rintro e w4 ⟨rfl, hs4', hb4⟩; have HS4 := hidD hs4'; have HB4 := hidD hb4; have HN4 : Hid (RowZ (w4.alloc (.cells (bR (fun _ => 0)) (59 : TypeId))) w4.heap.size .u8 16 59 (fun i => (((fun _ => 0 : Nat → UInt8) i).toNat : Int))) := RowZ.new w4 .u8 16 59 _; clear hs4' hb4)
        | (refine wpList_store_row rfl 59 _ _ rfl w4.heap.size (bR (ob k)) rfl rfl 59 (bR (fun _ => 0)) HN4.out (HIB.out _) (HSB.out _ _) (HON.out _) ?_))
      have HWA : Hid (Below w4.heap.size w4 (w4.alloc (.cells (bR (fun _ => 0)) (59 : TypeId)))) := (Below.refl _ _).alloc (Nat.le_refl _) _
      have HR5 : Hid (RowZ ((w4.alloc (.cells (bR (fun _ => 0)) (59 : TypeId))).setRow w4.heap.size (bR (ob k))) w4.heap.size .u8 16 59 (fun i => ((ob k i).toNat : Int))) := row_new HN4.out
      have HU5 : Hid (Below w4.heap.size w4 ((w4.alloc (.cells (bR (fun _ => 0)) (59 : TypeId))).setRow w4.heap.size (bR (ob k)))) := below_setRow HWA.out (Nat.le_refl _) _
      clear HWA HN4
      generalize (w4.alloc (.cells (bR (fun _ => 0)) (59 : TypeId))).setRow w4.heap.size (bR (ob k)) = w5 at *
      have HCW : Hid (cn < wr.heap.size) := Nat.lt_of_lt_of_le HCN.out HWS.out
      have HW4 : Hid (wr.heap.size ≤ w4.heap.size) := Nat.le_trans HB3.out.size HB4.out.size
      have HR6 : Hid (RowZ w5 w.heap.size .u8 L 5 (fun i => ((if i < A then ob (i / 16) (i % 16) else 0 : UInt8).toNat : Int))) := (((HRW.out.next HB3.out).but HB4.out (by have := HCN.out; omega)).next HU5.out)
      have HS6 : Hid (St w5 (k + 1)) := HST.out _ w4 w5 HS4.out (Nat.le_trans HWS.out HW4.out) (fun i hi => HU5.out.block i (Nat.lt_of_lt_of_le hi (Nat.le_trans HWS.out HW4.out))) HU5.out.size
      have HB6 : Hid (But cn w w5) := ((HBU.out.below HB3.out (Nat.le_of_lt HCN.out)).trans HB4.out).below HU5.out (Nat.le_of_lt HCN.out)
      have HG4 : Hid (w.heap.size < w4.heap.size) := Nat.lt_of_lt_of_le HRW.out.lt HW4.out
      clear HB3 HB4 HS4 HU5 HRW HBU HSK HW4
      refine wp_region_loud0 [true, true, true, true, false] [] (by kernel_rfl) (by kernel_rfl) (by kernel_rfl) (by kernel_rfl) (by kernel_rfl) (fun _ _ _ _ _ h => h) ?_
      simp only [qPick, lPick, Act.put]
      repeat (go_big_quiet_step (fail))
      refine wpQuiet_nil ?_
      simp only [LoudW]
      have HDR : Hid (Below w5.heap.size w5 w5.drew) := (Below.refl _ _).drew
      go_wp2_with (refine wpList_copy_Z rfl _ _ 22 22 rfl 5 Try.underlying22 hi5 (some ⟨w.heap.size, A, none⟩) (some ⟨w4.heap.size, 0, none⟩) (L - A) (L - A) 16 16 rfl rfl .u8 w.heap.size A L (min 16 (L - A)) (fun i => ((if i < A then ob (i / 16) (i % 16) else 0 : UInt8).toNat : Int)) (fun i => ((ob k i).toNat : Int)) 5 (HR6.out.next HDR.out) rfl (fun _ => ⟨rfl, w4.heap.size, 0, rfl, fun j hj => by rw [Nat.zero_add]; exact (HR5.out.next HDR.out).cell (by omega)⟩) (by have := HLT.out; omega) ?_; intro w6 hr6 hb6; have HR7 := hidD hr6.out; have HB7 := hidD hb6; clear hr6 hb6)
      refine ⟨⟨⟨w6, fun _ h => by cases h⟩, rfl⟩, ?_⟩
      have HR8 : Hid (RowZ w6 w.heap.size .u8 L 5 (fun i => ((if i < 16 * (k + 1) then ob (i / 16) (i % 16) else 0 : UInt8).toNat : Int))) := HR7.out.congr HOC.out
      have HS8 : Hid (St w6 (k + 1)) := HST.out _ w5 w6 HS6.out (Nat.le_of_lt HR6.out.lt) (fun i hi => (HB7.out.rest i (Nat.lt_of_lt_of_le (Nat.lt_trans hi HR6.out.lt) HDR.out.size) (by omega)).trans (HDR.out.block i (Nat.lt_trans hi HR6.out.lt))) (Nat.le_trans HDR.out.size HB7.out.size)
      have HB8 : Hid (But cn w w6) := by
        have h1 : But cn w w5.drew := HB6.out.below HDR.out (Nat.le_of_lt HCN.out)
        exact ⟨h1.bel.trans (HB7.out.bel.mono (Nat.le_of_lt HCN.out)), fun b hb hn => (HB7.out.rest b (Nat.lt_of_lt_of_le hb h1.size) (by omega)).trans (h1.rest b hb hn)⟩
      clear HR7 HB7 HR6 HS6 HB6 HDR
      go_wp2_with fail
      go_roundw
      case rel => exact ⟨k + 1, by have := H16.out; omega, by have := H16.out; first | (go_num; done) | (go_num; omega), HR8.out, HS8.out, HB8.out⟩
      case measure => simp [intOf]; have := HK.out; omega
    · have HE : Hid ((L + 15) / 16 = k) := by show _ = _; omega
      have hlti : ¬ ((16 * k : Nat) : Int) < (L : Int) := by omega
      have HRF : Hid (RowZ wr w.heap.size .u8 L 5 (fun i => ((ob (i / 16) (i % 16)).toNat : Int))) := HRW.out.congr fun i hi => by rw [if_pos (by omega)]
      clear hk
      generalize 16 * k = A at *
      go_wp2_with fail
      refine bodyPost_ret (v := .slice (some ⟨w.heap.size, 0, none⟩) L L) (by simp [results, Try.results49, go_sem]) rfl ?_
      exact ⟨_, rfl, rowZ_sl (f := fun i => ob (i / 16) (i % 16)) HRF.out (by have := HD.out; omega), by rw [HE.out]; exact HSK.out, HBU.out⟩
end Go.Proofs.Ytgefampdfhbmbaa
/- What the program's walk over blocks answers, of any closure that answers so and so. -/
namespace Go.Proofs.Ytgefampdfhbmbaa
open Go.RowKit
set_option linter.unusedVariables false

set_option maxRecDepth 100000 in
set_option maxHeartbeats 3200000 in
theorem pWalk71_any (d : List UInt8) (hd : d.length ≤ 140737488355300) (cb cn : Nat) (St : World → Nat → Prop) (ob : Nat → Nat → UInt8) (v : Value) (w : World) (hv : SlAt w v d) (hcn : cn < w.heap.size) (hoff : 0 < d.length → Off v cn)
    (hst : ∀ k (a b : World), St a k → w.heap.size ≤ a.heap.size → (∀ i, i < w.heap.size → b.heap[i]? = a.heap[i]?) → a.heap.size ≤ b.heap.size → St b k) (h0 : St w 0)
    (hF : ∀ k, 16 * k < d.length → ∀ a : World, St a k → Calls Try.prog 71 #[.agg (bR (blk ((d.drop (16 * k)).take 16))), .pointer (some ⟨cb, 0, none⟩), .pointer (some ⟨cn, 0, none⟩)] a fun e b => e = .returned (.agg (bR (ob k))) ∧ St b (k + 1) ∧ But cn a b) :
    Calls Try.prog 49 #[v, .func (.func 71) #[] #[.pointer (some ⟨cb, 0, none⟩), .pointer (some ⟨cn, 0, none⟩)]] w fun e w' => ∃ vo, e = .returned vo ∧ SlAt w' vo ((List.range d.length).map fun i => ob (i / 16) (i % 16)) ∧ St w' ((d.length + 15) / 16) ∧ But cn w w' := by
  obtain ⟨⟨a, cap, rfl, hcap, hcm⟩, hby⟩ := hv
  have HSRC : Hid (0 < d.length → ∃ dg dq, a = some ⟨dg, dq, none⟩ ∧ dg ≠ cn ∧ dg < w.heap.size ∧ ∀ j, j < d.length → w.cell? ⟨dg, dq + j, none⟩ = some (.int .u8 ((d.getD j 0).toNat : Int))) := fun h => by
    obtain ⟨g, o, rfl, h1, h2⟩ := hby.src h
    exact ⟨g, o, rfl, hoff h _ _ _ _ rfl, h1, h2⟩
  have HST := hidD hst
  have HF := hidD hF
  have HS0 := hidD h0
  have HCN := hidD hcn
  have hi5 := Try.size5
  obtain ⟨hz, hsz⟩ := zero_of_info Try.zero59
  have hz0 : (rowZ .u8 16 (fun _ => 0)) = bR (fun _ => 0) := rfl
  rw [hz0] at hz
  have HIB : Hid (∀ c : Nat → UInt8, (Try.prog.info? 59).map (·.size) = some (bR c).size) := fun c => by rw [hsz, show (bR c).size = 16 from rowZ_size _ _ _]
  have HON : Hid (∀ c : Nat → UInt8, (bR c).all (·.oneCell') = true) := fun c => rowZ_one _ _ _
  have HSB : Hid (∀ c d : Nat → UInt8, (bR c).size = (bR d).size) := fun c d => by rw [show (bR c).size = 16 from rowZ_size _ _ _, show (bR d).size = 16 from rowZ_size _ _ _]
  have HCAP := hidD hcap
  have HD := hidD hd
  clear hst hF h0 hby hoff hcap hsz hz0
  generalize hL : d.length = L at *
  have HL := hidD hL
  clear hL
  go_enter Try.func49, Try.ntmps49
  go_wp2_with (at_make; refine wpList_makeB w rfl _ _ rfl .i64 .i64 (L : Int) (L : Int) L rfl rfl rfl rfl (by have := HD.out; omega) ?_; intro w2 hr2 hb2; have HR2 := hidD hr2.out; have HB2 := hidD hb2; clear hr2 hb2)
  have HS2 : Hid (St w2 0) := HST.out 0 w w2 HS0.out (Nat.le_refl _) (fun i hi => HB2.out.block i hi) HB2.out.size
  go_loopw [6] (fun u wr => ∃ k : Nat, 16 * k < L + 16 ∧ u = .int .i64 ((16 * k : Nat) : Int) ∧ RowZ wr w.heap.size .u8 L 5 (fun i => ((if i < 16 * k then ob (i / 16) (i % 16) else 0 : UInt8).toNat : Int)) ∧ St wr k ∧ But cn w wr) (fun u _ => L + 16 - (intOf u).toNat)
  case atStart => exact ⟨0, by omega, rfl, HR2.out, HS2.out, But.of HB2.out (Nat.le_of_lt HCN.out)⟩
  case round =>
    obtain ⟨k, hk, rfl, hrow, hst, hbut⟩ := hrel
    have HRW := hidD hrow
    have HSK := hidD hst
    have HBU := hidD hbut
    have HK := hidD hk
    clear hrow hst hbut
    by_cases hlt : 16 * k < L
    · have hlti : ((16 * k : Nat) : Int) < (L : Int) := by omega
      obtain ⟨dg, dq, rfl, hdn, hdl, hdc⟩ := HSRC.out (by omega)
      have hs1 := fun w' => run_slice22 dg dq (16 * k) L cap hlt (by have := HCAP.out; omega) w'
      have hs2 := fun w' => run_sliceAt22 dg dq (16 * k) L cap hlt (by have := HCAP.out; omega) w'
      have hs3 := fun w' => run_slice22 w.heap.size 0 (16 * k) L L hlt hlt w'
      have hs4 := fun w' => run_sliceAt22 w.heap.size 0 (16 * k) L L hlt hlt w'
      rw [Nat.zero_add] at hs3 hs4
      have HBY : Hid (ByAt wr (.slice (some ⟨dg, dq + 16 * k, none⟩) (L - 16 * k) (cap - 16 * k)) (d.drop (16 * k))) := by
        have h := by_drop (w := wr) (g := dg) (o := dq) (n := 16 * k) (cap := cap - 16 * k) (d := d) (Nat.lt_of_lt_of_le hdl HBU.out.size) (fun j hj => (HBU.out.cell hdl hdn).trans (hdc j (by have := HL.out; omega))) (by have := HL.out; omega)
        rw [HL.out] at h
        exact h
      have HBO := hidD (fun (v : Value) (w : World) hv => pBlockOf_any (d.drop (16 * k)) v w hv)
      have HFK := hidD (HF.out k hlt)
      have HLT : Hid (16 * k < L) := hlt
      have HWS : Hid (w.heap.size ≤ wr.heap.size) := HBU.out.size
      have H16 : Hid (16 * (k + 1) = 16 * k + 16) := by show _ = _; omega
      have HOB : Hid (∀ j, j < 16 → ob k j = ob ((16 * k + j) / 16) ((16 * k + j) % 16)) := fun j hj => by rw [show (16 * k + j) / 16 = k by omega, show (16 * k + j) % 16 = j by omega]
      have HOC : Hid (∀ i, i < L → (if 16 * k ≤ i ∧ i < 16 * k + min 16 (L - 16 * k) then ((ob k (i - 16 * k)).toNat : Int) else ((if i < 16 * k then ob (i / 16) (i % 16) else 0 : UInt8).toNat : Int)) = ((if i < 16 * (k + 1) then ob (i / 16) (i % 16) else 0 : UInt8).toNat : Int)) := fun i hi => by
        by_cases h1 : 16 * k ≤ i ∧ i < 16 * k + min 16 (L - 16 * k)
        · rw [if_pos h1, if_pos (by omega), show i / 16 = k by omega, show i % 16 = i - 16 * k by omega]
        · rw [if_neg h1]
          by_cases h2 : i < 16 * k
          · rw [if_pos h2, if_pos (by omega)]
          · rw [if_neg h2, if_neg (by omega)]
      clear hdn hdl hdc
      generalize h16k : 16 * k = A at *
      have HA := hidD h16k
      have hAb : A ≤ 140737488355300 := by have := HD.out; omega
      clear h16k
      go_wp2_with (first
        | (go_at_call 43; refine (HBO.out _ _ HBY.out).mono ?_; rintro e w3 ⟨rfl, hb3⟩; have HB3 := hidD hb3; clear hb3)
        | (go_at_call 71; refine (HFK.out _ (HST.out k wr w3 HSK.out HWS.out (fun i hi => HB3.out.block i (Nat.lt_of_lt_of_le hi HWS.out)) HB3.out.size)).mono ?_; rintro e w4 ⟨rfl, hs4', hb4⟩; have HS4 := hidD hs4'; have HB4 := hidD hb4; have HN4 : Hid (RowZ (w4.alloc (.cells (bR (fun _ => 0)) (59 : TypeId))) w4.heap.size .u8 16 59 (fun i => (((fun _ => 0 : Nat → UInt8) i).toNat : Int))) := RowZ.new w4 .u8 16 59 _; clear hs4' hb4)
        | (refine wpList_store_row rfl 59 _ _ rfl w4.heap.size (bR (ob k)) rfl rfl 59 (bR (fun _ => 0)) HN4.out (HIB.out _) (HSB.out _ _) (HON.out _) ?_))
      have HWA : Hid (Below w4.heap.size w4 (w4.alloc (.cells (bR (fun _ => 0)) (59 : TypeId)))) := (Below.refl _ _).alloc (Nat.le_refl _) _
      have HR5 : Hid (RowZ ((w4.alloc (.cells (bR (fun _ => 0)) (59 : TypeId))).setRow w4.heap.size (bR (ob k))) w4.heap.size .u8 16 59 (fun i => ((ob k i).toNat : Int))) := row_new HN4.out
      have HU5 : Hid (Below w4.heap.size w4 ((w4.alloc (.cells (bR (fun _ => 0)) (59 : TypeId))).setRow w4.heap.size (bR (ob k)))) := below_setRow HWA.out (Nat.le_refl _) _
      clear HWA HN4
      generalize (w4.alloc (.cells (bR (fun _ => 0)) (59 : TypeId))).setRow w4.heap.size (bR (ob k)) = w5 at *
      have HCW : Hid (cn < wr.heap.size) := Nat.lt_of_lt_of_le HCN.out HWS.out
      have HW4 : Hid (wr.heap.size ≤ w4.heap.size) := Nat.le_trans HB3.out.size HB4.out.size
      have HR6 : Hid (RowZ w5 w.heap.size .u8 L 5 (fun i => ((if i < A then ob (i / 16) (i % 16) else 0 : UInt8).toNat : Int))) := (((HRW.out.next HB3.out).but HB4.out (by have := HCN.out; omega)).next HU5.out)
      have HS6 : Hid (St w5 (k + 1)) := HST.out _ w4 w5 HS4.out (Nat.le_trans HWS.out HW4.out) (fun i hi => HU5.out.block i (Nat.lt_of_lt_of_le hi (Nat.le_trans HWS.out HW4.out))) HU5.out.size
      have HB6 : Hid (But cn w w5) := ((HBU.out.below HB3.out (Nat.le_of_lt HCN.out)).trans HB4.out).below HU5.out (Nat.le_of_lt HCN.out)
      have HG4 : Hid (w.heap.size < w4.heap.size) := Nat.lt_of_lt_of_le HRW.out.lt HW4.out
      clear HB3 HB4 HS4 HU5 HRW HBU HSK HW4
      refine wp_region_loud0 [true, true, true, true, false] [] (by kernel_rfl) (by kernel_rfl) (by kernel_rfl) (by kernel_rfl) (by kernel_rfl) (fun _ _ _ _ _ h => h) ?_
      simp only [qPick, lPick, Act.put]
      repeat (go_big_quiet_step (fail))
      refine wpQuiet_nil ?_
      simp only [LoudW]
      have HDR : Hid (Below w5.heap.size w5 w5.drew) := (Below.refl _ _).drew
      go_wp2_with (refine wpList_copy_Z rfl _ _ 22 22 rfl 5 Try.underlying22 hi5 (some ⟨w.heap.size, A, none⟩) (some ⟨w4.heap.size, 0, none⟩) (L - A) (L - A) 16 16 rfl rfl .u8 w.heap.size A L (min 16 (L - A)) (fun i => ((if i < A then ob (i / 16) (i % 16) else 0 : UInt8).toNat : Int)) (fun i => ((ob k i).toNat : Int)) 5 (HR6.out.next HDR.out) rfl (fun _ => ⟨rfl, w4.heap.size, 0, rfl, fun j hj => by rw [Nat.zero_add]; exact (HR5.out.next HDR.out).cell (by omega)⟩) (by have := HLT.out; omega) ?_; intro w6 hr6 hb6; have HR7 := hidD hr6.out; have HB7 := hidD hb6; clear hr6 hb6)
      refine ⟨⟨⟨w6, fun _ h => by cases h⟩, rfl⟩, ?_⟩
      have HR8 : Hid (RowZ w6 w.heap.size .u8 L 5 (fun i => ((if i < 16 * (k + 1) then ob (i / 16) (i % 16) else 0 : UInt8).toNat : Int))) := HR7.out.congr HOC.out
      have HS8 : Hid (St w6 (k + 1)) := HST.out _ w5 w6 HS6.out (Nat.le_of_lt HR6.out.lt) (fun i hi => (HB7.out.rest i (Nat.lt_of_lt_of_le (Nat.lt_trans hi HR6.out.lt) HDR.out.size) (by omega)).trans (HDR.out.block i (Nat.lt_trans hi HR6.out.lt))) (Nat.le_trans HDR.out.size HB7.out.size)
      have HB8 : Hid (But cn w w6) := by
        have h1 : But cn w w5.drew := HB6.out.below HDR.out (Nat.le_of_lt HCN.out)
        exact ⟨h1.bel.trans (HB7.out.bel.mono (Nat.le_of_lt HCN.out)), fun b hb hn => (HB7.out.rest b (Nat.lt_of_lt_of_le hb h1.size) (by omega)).trans (h1.rest b hb hn)⟩
      clear HR7 HB7 HR6 HS6 HB6 HDR
      go_wp2_with fail
      go_roundw
      case rel => exact ⟨k + 1, by have := H16.out; omega, by have := H16.out; first | (go_num; done) | (go_num; omega), HR8.out, HS8.out, HB8.out⟩
      case measure => simp [intOf]; have := HK.out; omega
    · have HE : Hid ((L + 15) / 16 = k) := by show _ = _; omega
      have hlti : ¬ ((16 * k : Nat) : Int) < (L : Int) := by omega
      have HRF : Hid (RowZ wr w.heap.size .u8 L 5 (fun i => ((ob (i / 16) (i % 16)).toNat : Int))) := HRW.out.congr fun i hi => by rw [if_pos (by omega)]
      clear hk
      generalize 16 * k = A at *
      go_wp2_with fail
      refine bodyPost_ret (v := .slice (some ⟨w.heap.size, 0, none⟩) L L) (by simp [results, Try.results49, go_sem]) rfl ?_
      exact ⟨_, rfl, rowZ_sl (f := fun i => ob (i / 16) (i % 16)) HRF.out (by have := HD.out; omega), by rw [HE.out]; exact HSK.out, HBU.out⟩
end Go.Proofs.Ytgefampdfhbmbaa
/- What the program's walk over blocks answers, of any closure that answers so and so. -/
namespace Go.Proofs.Ytgefampdfhbmbaa
open Go.RowKit
set_option linter.unusedVariables false

set_option maxRecDepth 100000 in
set_option maxHeartbeats 3200000 in
theorem pWalk56_any (d : List UInt8) (hd : d.length ≤ 140737488355300) (cb cn : Nat) (St : World → Nat → Prop) (ob : Nat → Nat → UInt8) (v : Value) (w : World) (hv : SlAt w v d) (hcn : cn < w.heap.size) (hoff : 0 < d.length → Off v cn)
    (hst : ∀ k (a b : World), St a k → w.heap.size ≤ a.heap.size → (∀ i, i < w.heap.size → b.heap[i]? = a.heap[i]?) → a.heap.size ≤ b.heap.size → St b k) (h0 : St w 0)
    (hF : ∀ k, 16 * k < d.length → ∀ a : World, St a k → Calls Try.prog 56 #[.agg (bR (blk ((d.drop (16 * k)).take 16))), .pointer (some ⟨cb, 0, none⟩), .pointer (some ⟨cn, 0, none⟩)] a fun e b => e = .returned (.agg (bR (ob k))) ∧ St b (k + 1) ∧ But cn a b) :
    Calls Try.prog 49 #[v, .func (.func 56) #[] #[.pointer (some ⟨cb, 0, none⟩), .pointer (some ⟨cn, 0, none⟩)]] w fun e w' => ∃ vo, e = .returned vo ∧ SlAt w' vo ((List.range d.length).map fun i => ob (i / 16) (i % 16)) ∧ St w' ((d.length + 15) / 16) ∧ But cn w w' := by
  obtain ⟨⟨a, cap, rfl, hcap, hcm⟩, hby⟩ := hv
  have HSRC : Hid (0 < d.length → ∃ dg dq, a = some ⟨dg, dq, none⟩ ∧ dg ≠ cn ∧ dg < w.heap.size ∧ ∀ j, j < d.length → w.cell? ⟨dg, dq + j, none⟩ = some (.int .u8 ((d.getD j 0).toNat : Int))) := fun h => by
    obtain ⟨g, o, rfl, h1, h2⟩ := hby.src h
    exact ⟨g, o, rfl, hoff h _ _ _ _ rfl, h1, h2⟩
  have HST := hidD hst
  have HF := hidD hF
  have HS0 := hidD h0
  have HCN := hidD hcn
  have hi5 := Try.size5
  obtain ⟨hz, hsz⟩ := zero_of_info Try.zero59
  have hz0 : (rowZ .u8 16 (fun _ => 0)) = bR (fun _ => 0) := rfl
  rw [hz0] at hz
  have HIB : Hid (∀ c : Nat → UInt8, (Try.prog.info? 59).map (·.size) = some (bR c).size) := fun c => by rw [hsz, show (bR c).size = 16 from rowZ_size _ _ _]
  have HON : Hid (∀ c : Nat → UInt8, (bR c).all (·.oneCell') = true) := fun c => rowZ_one _ _ _
  have HSB : Hid (∀ c d : Nat → UInt8, (bR c).size = (bR d).size) := fun c d => by rw [show (bR c).size = 16 from rowZ_size _ _ _, show (bR d).size = 16 from rowZ_size _ _ _]
  have HCAP := hidD hcap
  have HD := hidD hd
  clear hst hF h0 hby hoff hcap hsz hz0
  generalize hL : d.length = L at *
  have HL := hidD hL
  clear hL
  go_enter Try.func49, Try.ntmps49
  go_wp2_with (at_make; refine wpList_makeB w rfl _ _ rfl .i64 .i64 (L : Int) (L : Int) L rfl rfl rfl rfl (by have := HD.out; omega) ?_; intro w2 hr2 hb2; have HR2 := hidD hr2.out; have HB2 := hidD hb2; clear hr2 hb2)
  have HS2 : Hid (St w2 0) := HST.out 0 w w2 HS0.out (Nat.le_refl _) (fun i hi => HB2.out.block i hi) HB2.out.size
  go_loopw [6] (fun u wr => ∃ k : Nat, 16 * k < L + 16 ∧ u = .int .i64 ((16 * k : Nat) : Int) ∧ RowZ wr w.heap.size .u8 L 5 (fun i => ((if i < 16 * k then ob (i / 16) (i % 16) else 0 : UInt8).toNat : Int)) ∧ St wr k ∧ But cn w wr) (fun u _ => L + 16 - (intOf u).toNat)
  case atStart => exact ⟨0, by omega, rfl, HR2.out, HS2.out, But.of HB2.out (Nat.le_of_lt HCN.out)⟩
  case round =>
    obtain ⟨k, hk, rfl, hrow, hst, hbut⟩ := hrel
    have HRW := hidD hrow
    have HSK := hidD hst
    have HBU := hidD hbut
    have HK := hidD hk
    clear hrow hst hbut
    by_cases hlt : 16 * k < L
    · have hlti : ((16 * k : Nat) : Int) < (L : Int) := by omega
      obtain ⟨dg, dq, rfl, hdn, hdl, hdc⟩ := HSRC.out (by omega)
      have hs1 := fun w' => run_slice22 dg dq (16 * k) L cap hlt (by have := HCAP.out; omega) w'
      have hs2 := fun w' => run_sliceAt22 dg dq (16 * k) L cap hlt (by have := HCAP.out; omega) w'
      have hs3 := fun w' => run_slice22 w.heap.size 0 (16 * k) L L hlt hlt w'
      have hs4 := fun w' => run_sliceAt22 w.heap.size 0 (16 * k) L L hlt hlt w'
      rw [Nat.zero_add] at hs3 hs4
      have HBY : Hid (ByAt wr (.slice (some ⟨dg, dq + 16 * k, none⟩) (L - 16 * k) (cap - 16 * k)) (d.drop (16 * k))) := by
        have h := by_drop (w := wr) (g := dg) (o := dq) (n := 16 * k) (cap := cap - 16 * k) (d := d) (Nat.lt_of_lt_of_le hdl HBU.out.size) (fun j hj => (HBU.out.cell hdl hdn).trans (hdc j (by have := HL.out; omega))) (by have := HL.out; omega)
        rw [HL.out] at h
        exact h
      have HBO := hidD (fun (v : Value) (w : World) hv => pBlockOf_any (d.drop (16 * k)) v w hv)
      have HFK := hidD (HF.out k hlt)
      have HLT : Hid (16 * k < L) := hlt
      have HWS : Hid (w.heap.size ≤ wr.heap.size) := HBU.out.size
      have H16 : Hid (16 * (k + 1) = 16 * k + 16) := by show _ = _; omega
      have HOB : Hid (∀ j, j < 16 → ob k j = ob ((16 * k + j) / 16) ((16 * k + j) % 16)) := fun j hj => by rw [show (16 * k + j) / 16 = k by omega, show (16 * k + j) % 16 = j by omega]
      have HOC : Hid (∀ i, i < L → (if 16 * k ≤ i ∧ i < 16 * k + min 16 (L - 16 * k) then ((ob k (i - 16 * k)).toNat : Int) else ((if i < 16 * k then ob (i / 16) (i % 16) else 0 : UInt8).toNat : Int)) = ((if i < 16 * (k + 1) then ob (i / 16) (i % 16) else 0 : UInt8).toNat : Int)) := fun i hi => by
        by_cases h1 : 16 * k ≤ i ∧ i < 16 * k + min 16 (L - 16 * k)
        · rw [if_pos h1, if_pos (by omega), show i / 16 = k by omega, show i % 16 = i - 16 * k by omega]
        · rw [if_neg h1]
          by_cases h2 : i < 16 * k
          · rw [if_pos h2, if_pos (by omega)]
          · rw [if_neg h2, if_neg (by omega)]
      clear hdn hdl hdc
      generalize h16k : 16 * k = A at *
      have HA := hidD h16k
      have hAb : A ≤ 140737488355300 := by have := HD.out; omega
      clear h16k
      go_wp2_with (first
        | (go_at_call 43; refine (HBO.out _ _ HBY.out).mono ?_; rintro e w3 ⟨rfl, hb3⟩; have HB3 := hidD hb3; clear hb3)
        | (go_at_call 56; refine (HFK.out _ (HST.out k wr w3 HSK.out HWS.out (fun i hi => HB3.out.block i (Nat.lt_of_lt_of_le hi HWS.out)) HB3.out.size)).mono ?_; rintro e w4 ⟨rfl, hs4', hb4⟩; have HS4 := hidD hs4'; have HB4 := hidD hb4; have HN4 : Hid (RowZ (w4.alloc (.cells (bR (fun _ => 0)) (59 : TypeId))) w4.heap.size .u8 16 59 (fun i => (((fun _ => 0 : Nat → UInt8) i).toNat : Int))) := RowZ.new w4 .u8 16 59 _; clear hs4' hb4)
        | (refine wpList_store_row rfl 59 _ _ rfl w4.heap.size (bR (ob k)) rfl rfl 59 (bR (fun _ => 0)) HN4.out (HIB.out _) (HSB.out _ _) (HON.out _) ?_))
      have HWA : Hid (Below w4.heap.size w4 (w4.alloc (.cells (bR (fun _ => 0)) (59 : TypeId)))) := (Below.refl _ _).alloc (Nat.le_refl _) _
      have HR5 : Hid (RowZ ((w4.alloc (.cells (bR (fun _ => 0)) (59 : TypeId))).setRow w4.heap.size (bR (ob k))) w4.heap.size .u8 16 59 (fun i => ((ob k i).toNat : Int))) := row_new HN4.out
      have HU5 : Hid (Below w4.heap.size w4 ((w4.alloc (.cells (bR (fun _ => 0)) (59 : TypeId))).setRow w4.heap.size (bR (ob k)))) := below_setRow HWA.out (Nat.le_refl _) _
      clear HWA HN4
      generalize (w4.alloc (.cells (bR (fun _ => 0)) (59 : TypeId))).setRow w4.heap.size (bR (ob k)) = w5 at *
      have HCW : Hid (cn < wr.heap.size) := Nat.lt_of_lt_of_le HCN.out HWS.out
      have HW4 : Hid (wr.heap.size ≤ w4.heap.size) := Nat.le_trans HB3.out.size HB4.out.size
      have HR6 : Hid (RowZ w5 w.heap.size .u8 L 5 (fun i => ((if i < A then ob (i / 16) (i % 16) else 0 : UInt8).toNat : Int))) := (((HRW.out.next HB3.out).but HB4.out (by have := HCN.out; omega)).next HU5.out)
      have HS6 : Hid (St w5 (k + 1)) := HST.out _ w4 w5 HS4.out (Nat.le_trans HWS.out HW4.out) (fun i hi => HU5.out.block i (Nat.lt_of_lt_of_le hi (Nat.le_trans HWS.out HW4.out))) HU5.out.size
      have HB6 : Hid (But cn w w5) := ((HBU.out.below HB3.out (Nat.le_of_lt HCN.out)).trans HB4.out).below HU5.out (Nat.le_of_lt HCN.out)
      have HG4 : Hid (w.heap.size < w4.heap.size) := Nat.lt_of_lt_of_le HRW.out.lt HW4.out
      clear HB3 HB4 HS4 HU5 HRW HBU HSK HW4
      refine wp_region_loud0 [true, true, true, true, false] [] (by kernel_rfl) (by kernel_rfl) (by kernel_rfl) (by kernel_rfl) (by kernel_rfl) (fun _ _ _ _ _ h => h) ?_
      simp only [qPick, lPick, Act.put]
      repeat (go_big_quiet_step (fail))
      refine wpQuiet_nil ?_
      simp only [LoudW]
      have HDR : Hid (Below w5.heap.size w5 w5.drew) := (Below.refl _ _).drew
      go_wp2_with (refine wpList_copy_Z rfl _ _ 22 22 rfl 5 Try.underlying22 hi5 (some ⟨w.heap.size, A, none⟩) (some ⟨w4.heap.size, 0, none⟩) (L - A) (L - A) 16 16 rfl rfl .u8 w.heap.size A L (min 16 (L - A)) (fun i => ((if i < A then ob (i / 16) (i % 16) else 0 : UInt8).toNat : Int)) (fun i => ((ob k i).toNat : Int)) 5 (HR6.out.next HDR.out) rfl (fun _ => ⟨rfl, w4.heap.size, 0, rfl, fun j hj => by rw [Nat.zero_add]; exact (HR5.out.next HDR.out).cell (by omega)⟩) (by have := HLT.out; omega) ?_; intro w6 hr6 hb6; have HR7 := hidD hr6.out; have HB7 := hidD hb6; clear hr6 hb6)
      refine ⟨⟨⟨w6, fun _ h => by cases h⟩, rfl⟩, ?_⟩
      have HR8 : Hid (RowZ w6 w.heap.size .u8 L 5 (fun i => ((if i < 16 * (k + 1) then ob (i / 16) (i % 16) else 0 : UInt8).toNat : Int))) := HR7.out.congr HOC.out
      have HS8 : Hid (St w6 (k + 1)) := HST.out _ w5 w6 HS6.out (Nat.le_of_lt HR6.out.lt) (fun i hi => (HB7.out.rest i (Nat.lt_of_lt_of_le (Nat.lt_trans hi HR6.out.lt) HDR.out.size) (by omega)).trans (HDR.out.block i (Nat.lt_trans hi HR6.out.lt))) (Nat.le_trans HDR.out.size HB7.out.size)
      have HB8 : Hid (But cn w w6) := by
        have h1 : But cn w w5.drew := HB6.out.below HDR.out (Nat.le_of_lt HCN.out)
        exact ⟨h1.bel.trans (HB7.out.bel.mono (Nat.le_of_lt HCN.out)), fun b hb hn => (HB7.out.rest b (Nat.lt_of_lt_of_le hb h1.size) (by omega)).trans (h1.rest b hb hn)⟩
      clear HR7 HB7 HR6 HS6 HB6 HDR
      go_wp2_with fail
      go_roundw
      case rel => exact ⟨k + 1, by have := H16.out; omega, by have := H16.out; first | (go_num; done) | (go_num; omega), HR8.out, HS8.out, HB8.out⟩
      case measure => simp [intOf]; have := HK.out; omega
    · have HE : Hid ((L + 15) / 16 = k) := by show _ = _; omega
      have hlti : ¬ ((16 * k : Nat) : Int) < (L : Int) := by omega
      have HRF : Hid (RowZ wr w.heap.size .u8 L 5 (fun i => ((ob (i / 16) (i % 16)).toNat : Int))) := HRW.out.congr fun i hi => by rw [if_pos (by omega)]
      clear hk
      generalize 16 * k = A at *
      go_wp2_with fail
      refine bodyPost_ret (v := .slice (some ⟨w.heap.size, 0, none⟩) L L) (by simp [results, Try.results49, go_sem]) rfl ?_
      exact ⟨_, rfl, rowZ_sl (f := fun i => ob (i / 16) (i % 16)) HRF.out (by have := HD.out; omega), by rw [HE.out]; exact HSK.out, HBU.out⟩
end Go.Proofs.Ytgefampdfhbmbaa
