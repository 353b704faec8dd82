/- What Read answers of the chapter's text that does not end: the walk. -/
import Derived.Test.YtpemajghaceegaaGreatDoorHxy
namespace Go.Proofs.YtpemajghaceegaaGreatDoor
open Go.RowKit
set_option linter.unusedVariables false

theorem cell0_lt {w : World} {v : Value} (h : w.cell? ⟨0, 0, none⟩ = some v) : 0 < w.heap.size := by
  by_cases h0 : 0 < w.heap.size
  · exact h0
  · have hn : w.heap[0]? = none := Array.getElem?_eq_none (by omega)
    simp [World.cell?, hn] at h
/- an answer's file of nothing -/
def FlAt (w : World) (r : Nat) : Prop := w.heap[r]? = some (.cells #[.int .i64 0, .slice none 0 0, .int .i64 0] (49 : TypeId) (0, 0))
theorem set3File {w : World} {r : Nat} (h : FlAt w r) : FlAt (((w.setCell ⟨r, 0, none⟩ (.int .i64 0)).setCell ⟨r, 1, none⟩ (.slice none 0 0)).setCell ⟨r, 2, none⟩ (.int .i64 0)) r := set3 _ _ _ h
set_option maxRecDepth 100000 in
set_option maxHeartbeats 3200000 in
theorem readOne (m : Int) (w : World) (hm : w.cell? ⟨0, 0, none⟩ = some (.int .i64 m)) :
    Calls Tryz.prog 22 #[.string (bA txA)] w fun e w' => e = .returned (.tuple #[.agg #[.int .i64 0, .slice none 0 0, .int .i64 0], .int .i64 1, .int .i64 212]) ∧ Below w.heap.size w w' := by
  have HSP := hidD (fun w hm => Tryz.splitA m w hm)
  have HTR := hidD (fun w => Tryz.trimA w)
  have HFO := hidD (fun w => formats_any w)
  have HLN := hidD (fun B r tk g w hT hgr hr hB hBr hBt hne htl ht hf => lineOne B r tk g txA 0 (by decide) txA_line w hT hgr hr hB hBr hBt hne htl ht hf)
  have hsz : ((bA txA).size : Int) = 13 := by decide
  obtain ⟨Z, hZ, hmk⟩ := make_all
  obtain ⟨hz, hsz3⟩ := zero_of_info Tryz.zeroFile
  obtain ⟨hzr, hszr⟩ := zero_of_info Tryz.zeroRd
  have hmk2 := hmk
  have HMZ := hidD hZ
  have h0 := cell0_lt hm
  have HR1 := hidD (heap_alloc_last w (.cells #[.int .i64 0, .slice none 0 0, .int .i64 0] (49 : TypeId)))
  have HB1 := hidD ((Below.refl w.heap.size w).alloc (Nat.le_refl _) (.cells #[.int .i64 0, .slice none 0 0, .int .i64 0] (49 : TypeId)))
  have HM1 := hidD ((HB1.out.cell (p := ⟨0, 0, none⟩) h0).trans hm)
  clear hm h0 hZ hmk2
  generalize bA txA = s at *
  go_enter Tryz.func22, Tryz.ntmps22
  go_wp2_with fail
  generalize w.alloc (.cells #[.int .i64 0, .slice none 0 0, .int .i64 0] (49 : TypeId)) = W1 at *
  obtain ⟨R, HRE⟩ : ∃ R, Hid (w.heap.size = R) := ⟨_, rfl⟩
  go_at_call 50
  refine (HSP.out _ HM1.out).mono ?_
  rintro e w2 ⟨rfl, hw2⟩
  subst w2
  have HA2 := hidD ((Below.refl W1.heap.size W1).alloc (Nat.le_refl _) (.cells #[.string s] (9 : TypeId)))
  have HS2 := hidD (heap_alloc_last W1 (.cells #[.string s] (9 : TypeId)))
  have HR2 := hidD ((HA2.out.block _ (row_lt HR1.out)).trans HR1.out)
  have HB2 := hidD (Below.next HB1.out HA2.out)
  clear HM1 HSP
  go_wp2_with fail
  generalize W1.alloc (.cells #[.string s] (9 : TypeId)) = W2 at *
  go_at_call 37
  refine (HFO.out _).mono ?_
  rintro e w3 ⟨g, rfl, hT, hge, hb⟩
  have HT3 := hidD hT
  have HR3 := hidD ((hb.block _ (row_lt HR2.out)).trans HR2.out)
  have HS3 := hidD ((hb.block _ (row_lt HS2.out)).trans HS2.out)
  have HB3 := hidD (Below.next HB2.out hb)
  clear hT hge hb HFO
  have hmk3 := hmk w3
  clear hmk
  have HL0 := hidD (last0 w3 (.cells Z (4 : TypeId)) (.cells #[.int .i64 0, .int .i64 0, .int .i64 0, .int .i64 (-1), .bool false, .slice (some ⟨w3.heap.size, 0, none⟩) 65536 65536, .slice none 0 0] (106 : TypeId)))
  have HL1 := hidD (last1 w3 (.cells Z (4 : TypeId)) (.cells #[.int .i64 0, .int .i64 0, .int .i64 0, .int .i64 (-1), .bool false, .slice (some ⟨w3.heap.size, 0, none⟩) 65536 65536, .slice none 0 0] (106 : TypeId)))
  have HA5 := hidD (((Below.refl w3.heap.size w3).alloc (Nat.le_refl _) (.cells Z (4 : TypeId))).alloc (by simp) (.cells #[.int .i64 0, .int .i64 0, .int .i64 0, .int .i64 (-1), .bool false, .slice (some ⟨w3.heap.size, 0, none⟩) 65536 65536, .slice none 0 0] (106 : TypeId)))
  go_wp2_with fail
  generalize (w3.alloc (.cells Z (4 : TypeId))).alloc (.cells #[.int .i64 0, .int .i64 0, .int .i64 0, .int .i64 (-1), .bool false, .slice (some ⟨w3.heap.size, 0, none⟩) 65536 65536, .slice none 0 0] (106 : TypeId)) = W5 at *
  have HRD : Hid (RdAt W5 (w3.heap.size + 1) 0 0 0 (-1) false w3.heap.size (.slice none 0 0)) := HL1.out
  have HCT : Hid (W5.cell? ⟨w3.heap.size, 0, none⟩ = some (.bool false)) := (cell_of_row _ _ _ _ _ _ HL0.out).trans HMZ.out
  have HFT : Hid (W5.frozen? ⟨w3.heap.size, 0, none⟩ = false) := frozen_of_row _ _ _ _ _ HL0.out
  have HTL : Hid (w3.heap.size < W5.heap.size) := row_lt HL0.out
  have HB5 := hidD (Below.next HB3.out HA5.out)
  have HR5 := hidD ((HA5.out.block _ (row_lt HR3.out)).trans HR3.out)
  have HS5 := hidD ((HA5.out.block _ (row_lt HS3.out)).trans HS3.out)
  have HT5 := hidD (HT3.out.next HA5.out)
  have HGL := hidD (row_lt HT3.out)
  have HRL := hidD (row_lt HR3.out)
  clear HL0 HL1 HB3 HS3 HT3 HR3 HB2 HS2 HR2 HA2 HB1 HR1 hmk3 HMZ
  go_loopw [25] (fun i wr => (i = .int .i64 0 ∧ wr = W5) ∨ (i = .int .i64 1 ∧ Below w.heap.size w wr ∧ FlAt wr w.heap.size ∧ ∃ sg, RdAt wr (w3.heap.size + 1) 1 1 1 (-1) false w3.heap.size sg)) (fun i _ => 1 - (intOf i).toNat)
  case atStart => exact .inl ⟨rfl, rfl⟩
  case round =>
    rcases hrel with ⟨rfl, rfl⟩ | ⟨rfl, hb, hf, sg, hrd⟩
    · have s0 : wr.cell? ⟨W1.heap.size, 0, none⟩ = some (.string s) := by rw [cell_of_row _ _ _ _ _ _ HS5.out]; rfl
      go_wp2_with fail
      go_at_call 52
      refine (HTR.out _).mono ?_
      rintro e w6 ⟨rfl, hb6⟩
      have HB6 := hidD hb6
      clear hb6 s0
      go_wp2_with fail
      go_at_call 51
      refine (HLN.out w3.heap.size (w3.heap.size + 1) w3.heap.size g w6 (HT5.out.next HB6.out) (by have := HGL.out; omega) (HRD.out.keep (HB6.out.block _ HRD.out.lt)) (by have := HTL.out; have := HB6.out.size; omega) (by omega) (Nat.le_refl _) (by omega) (by have := HTL.out; have := HB6.out.size; omega) ((HB6.out.cell (p := ⟨w3.heap.size, 0, none⟩) HTL.out).trans HCT.out) ((World.frozen?_of_block (a := ⟨w3.heap.size, 0, none⟩) (HB6.out.block _ HTL.out)).trans HFT.out)).mono ?_
      rintro e w7 ⟨rfl, hb7, sg, hr7⟩
      have HB7 := hidD hb7
      have HR7 := hidD hr7
      clear hb7 hr7
      go_wp2_with fail
      go_roundw
      case rel => exact .inr ⟨by go_num, (Below.next HB5.out HB6.out).trans (HB7.out.mono (by have := HRL.out; omega)), ((HB7.out.block _ HRL.out).trans (HB6.out.block _ (row_lt HR5.out))).trans HR5.out, sg, HR7.out⟩
      case measure => simp [intOf]
    · obtain ⟨y0, y1, y2, y3, y4, y5, y6⟩ := hrd.cells
      have HF := hidD hf
      have HB := hidD hb
      obtain ⟨⟨d0, d1, d2⟩, f0, f1, f2⟩ := cells3 hf
      clear hf hb hrd
      go_wp2_with fail
      refine bodyPost_ret (res_cell_tmp_tmp rfl _ _ w.heap.size _ _ _ (0, 0) rfl (set3 _ _ _ HF.out)) rfl ?_
      exact ⟨rfl, below3 HB.out (Nat.le_refl _) _ _ _⟩
end Go.Proofs.YtpemajghaceegaaGreatDoor
