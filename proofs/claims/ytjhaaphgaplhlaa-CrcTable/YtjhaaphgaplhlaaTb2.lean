/- What Rule of the program and Words of the document answer. -/
import Derived.Test.YtjhaaphgaplhlaaTb1
import Derived.Deep.OwnRows
namespace Go.Proofs.Ytjhaaphgaplhlaa
open Go.RowKit
set_option linter.unusedVariables false

theorem Try.info23 : (Try.prog.info? 23).map (fun i => (i.zero, i.size, i.bytes)) = some (some (.int .u32 0), 1, 4) := by kernel_rfl
theorem index_row (C : Array Value) (k : Nat) (u : Value) (hk : k < 256) (h : C[k]? = some u) (w : World) : (Instr.index 83 (.agg C) (.int .i64 (k : Int))).run Try.prog w = .ok u w := by
  have hu83 : Try.prog.underlying 83 = some (.array 256 33) := by kernel_rfl
  have hpk : Try.prog.plainKey 33 = true := by kernel_rfl
  have hc : Try.prog.cellsOf 33 = 1 := by kernel_rfl
  obtain ⟨i0, hi, _⟩ := info_parts Try.info33
  have hn : (0 : Int) ≤ (k : Int) ∧ (k : Int) < ((256 : Nat) : Int) := by omega
  have hp := run_part_plain (P := Try.prog) (w := w) hpk (xs := C) (off := k) (v := u) h
  simp only [Instr.index, asIntOf, Sem.run_bind, Sem.run_pure, Result.andThen_ok, run_underlying hu83, if_pos hn, run_sizeOf w hi, hc, Nat.mul_one, Int.toNat_natCast, hp]
theorem made_fill : madeCells #[(.int .u32 0 : Value)] 256 = fillC .u32 t32 0 := by kernel_rfl
theorem make_rule (w : World) : (Instr.makeSlice 24 (.int .i64 256) (.int .i64 256)).run Try.prog w = .ok (.slice (some ⟨w.heap.size, 0, none⟩) 256 256) (w.alloc (.cells (fillC .u32 t32 0) 23)) := by
  rw [← made_fill]
  exact run_make_row' 24 23 (.int .u32 0) 4 Try.underlying24 Try.info23 rfl .i64 .i64 256 (by decide) (by decide) w

set_option maxRecDepth 100000 in
set_option maxHeartbeats 400000 in
theorem rule_any (w : World) : Calls Try.prog 11 #[] w fun e w' => ∃ g, e = .returned (.slice (some ⟨g, 0, none⟩) 256 256) ∧ w.heap.size ≤ g ∧ w'.heap[g]? = some (.cells (fillC .u32 t32 256) (23 : TypeId) (0, 0)) ∧ Below w.heap.size w w' := by
  have HM := hidD model32_any
  have HT := hidD (fun w => tableOf_any m32 m32_ok w)
  have HF : Hid (∀ k, k < 256 → ∃ T : Nat, T < 4294967296 ∧ rev T 32 = t32 k ∧ ∀ w, (Instr.index 83 (.agg (fillC .u64 (tabS m32) 256)) (.int .i64 (k : Int))).run Try.prog w = .ok (.int .u64 (T : Int)) w) := fun k hk => ⟨tabS m32 k, tab_lt m32_ok k, t32_rule ⟨k, hk⟩, index_row _ k _ hk (fill_at _ _ k hk)⟩
  generalize fillC .u64 (tabS m32) 256 = C at *
  generalize m32.v = mv at *
  have hmk := make_rule
  go_enter Try.func11, Try.ntmps11
  go_wp2_with (first | (go_at_call 46; refine (HM.out _).mono ?_; rintro e w1 ⟨rfl, hb1⟩) | (go_at_call 45; refine (HT.out _).mono ?_; rintro e w2 ⟨rfl, hb2⟩))
  have hs0 : w.heap.size < (w.alloc (.cells (fillC .u32 t32 0) 23)).heap.size := by simp
  have HG0 : Hid (w2.heap[w.heap.size]? = some (.cells (fillC .u32 t32 0) (23 : TypeId) (0, 0))) := by
    show _ = _
    rw [hb2.block _ (Nat.lt_of_lt_of_le hs0 hb1.size), hb1.block _ hs0]; exact heap_alloc_last _ _
  have HB2 : Hid (Below w.heap.size w w2) := Below.next (Below.next ((Below.refl w.heap.size w).alloc (Nat.le_refl _) _) hb1) hb2
  clear hb1 hb2 hs0 hmk
  go_loopw [7] (fun i wr => ∃ k : Nat, k ≤ 256 ∧ i = .int .i64 k ∧ wr.heap[w.heap.size]? = some (.cells (fillC .u32 t32 k) (23 : TypeId) (0, 0)) ∧ Below w.heap.size w wr) (fun i _ => 256 - (intOf i).toNat)
  case atStart => exact ⟨0, Nat.zero_le _, rfl, HG0.out, HB2.out⟩
  case round =>
    obtain ⟨k, hk, rfl, hg, hbel⟩ := hrel
    have HBL := hidD hbel
    by_cases hlt : k < 256
    · have hlti : (k : Int) < 256 := by omega
      obtain ⟨T, hT, hrv, hix⟩ := HF.out k hlt
      have HRV : Hid (∀ w, Calls Try.prog 47 #[.int .u32 T, .int .i64 32] w fun e w' => e = .returned (.int .u32 (t32 k : Nat)) ∧ w' = w) := fun w => by
        have := reverse32_same T 32 hT (by omega) w
        rw [hrv] at this
        exact this
      have hmod : (T : Int) % 4294967296 = T := by omega
      have hca : wr.cell? ⟨w.heap.size, k, none⟩ = some (.int .u32 0) := by rw [cell_of_row _ _ _ _ _ _ hg]; exact fill_zero _ _ k hlt
      have hfr : wr.frozen? ⟨w.heap.size, k, none⟩ = false := frozen_of_row _ _ _ _ _ hg
      have HNX : Hid ((wr.setCell ⟨w.heap.size, k, none⟩ (.int .u32 (t32 k : Nat))).heap[w.heap.size]? = some (.cells (fillC .u32 t32 (k + 1)) (23 : TypeId) (0, 0))) := by
        show _ = _
        rw [heap_setCell_same wr _ k _ _ _ hg, fill_set _ _ _ hlt]
      clear hT hrv hbel hg HG0 HF
      generalize t32 k = R at *
      go_wp2_with (go_at_call 47; refine (HRV.out _).mono ?_; rintro e w3 ⟨rfl, h3⟩; subst h3)
      go_roundw
      case rel => exact ⟨k + 1, by omega, by go_num, HNX.out, HBL.out.setCell (p := ⟨w.heap.size, k, none⟩) (Nat.le_refl _) _⟩
      case measure => simp [intOf]; omega
    · obtain rfl : k = 256 := by omega
      have HG := hidD hg
      clear hg HG0
      go_wp2_with fail
      go_ret
      exact ⟨w.heap.size, rfl, Nat.le_refl _, HG.out, hbel⟩

theorem find_32 : findS ⟨#[67, 82, 67, 45, 51, 50, 47, 73, 83, 79, 45, 72, 68, 76, 67]⟩ = (m32, true) :=
  find_hit (k := 6) (by omega) rfl (fun j hj => by
    have h : j = 0 ∨ j = 1 ∨ j = 2 ∨ j = 3 ∨ j = 4 ∨ j = 5 := by omega
    rcases h with rfl | rfl | rfl | rfl | rfl | rfl <;> decide)

set_option maxRecDepth 100000 in
set_option maxHeartbeats 1000000 in
theorem refWords_any (w : World) : Calls Try.prog 9 #[] w fun e w' => ∃ v, e = .returned v ∧ w'.ownsRow w.heap.size 23 1 v 256 (rangeC .u32 t32 256) ∧ Below w.heap.size w w' := by
  have HFD := hidD (fun w => refFind_any ⟨#[67, 82, 67, 45, 51, 50, 47, 73, 83, 79, 45, 72, 68, 76, 67]⟩ w)
  rw [find_32] at HFD
  have HTB := hidD (fun w => refTable_some m32 m32_ok w)
  have HT : Hid (∀ k, k < 256 → tabS m32 k < 4294967296 ∧ rev (tabS m32 k) 32 = t32 k ∧ t32 k < 4294967296) := fun k hk => ⟨tab_lt m32_ok k, t32_rule ⟨k, hk⟩, t32_lt hk⟩
  generalize tabS m32 = f at *
  simp only [m32, catL, Md.v, List.getD_cons_succ, List.getD_cons_zero] at HFD HTB
  obtain ⟨i0, hi, hz0, hz1, hz2⟩ := info_parts Try.info23
  go_enter Try.func9, Try.ntmps9
  go_wp2_with (first
    | (go_at_call 18; refine (HFD.out _).mono ?_; rintro e w1 ⟨rfl, hb1⟩; have HB1 := hidD hb1; clear hb1)
    | (go_at_call 30; refine (HTB.out _).mono ?_; rintro e w2 ⟨v2, rfl, hown2, hb2⟩; obtain ⟨a2, c2, hv2, hsh2⟩ := NsAt.row hown2; subst hv2; have HS := hidD hsh2; have HB2 := hidD (Below.next (Below.more HB1.out _) hb2); clear hown2 hsh2 hb2))
  go_loopw [5, 6] (fun o i wr => ∃ k : Nat, k ≤ 256 ∧ i = .int .i64 k ∧ wr.ownsRow w2.heap.size 23 1 o k (rangeC .u32 t32 k) ∧ Below w2.heap.size w2 wr) (fun _ i _ => 256 - (intOf i).toNat)
  case atStart => exact ⟨0, Nat.zero_le _, rfl, World.ownsRow_nil _ _ _ _, Below.refl _ _⟩
  case round =>
    obtain ⟨k, hk, rfl, hown, hbel⟩ := hrel
    obtain ⟨ad, cd, hde⟩ := row_shape hown
    subst hde
    have HOW := hidD hown
    have HBL := hidD hbel
    have hwz := hbel.size
    clear hown
    by_cases hlt : k < 256
    · have hlti : (k : Int) < 256 := by omega
      obtain ⟨hT, hrv, hR⟩ := HT.out k hlt
      obtain ⟨g1, o1, rfl, hg1, hc1⟩ := HS.out k hlt
      have d1 := (hbel.cell (p := ⟨g1, o1 + k, none⟩) hg1).trans hc1
      have HCB : Hid (∀ w, Calls Try.prog 43 #[.int .u64 (f k : Nat), .int .i64 32] w fun e w' => e = .returned (.int .u64 (t32 k : Nat)) ∧ Below w.heap.size w w') := fun w => by
        have := refTurned_any (f k) 32 (by omega) (by omega) w
        rw [hrv] at this
        exact this
      have hmod : ((t32 k : Nat) : Int) % 4294967296 = (t32 k : Nat) := by omega
      have HRN := hidD (rangeC_next .u32 t32 k)
      clear hbel hc1 hT hrv hR HT HS
      generalize t32 k = F at *
      generalize f k = x at *
      go_wp2_with (first
        | (go_at_call 43; refine (HCB.out _).mono ?_; rintro e w3 ⟨rfl, hb3⟩; have HB3 := hidD (Below.next HBL.out hb3); have HO3 := hidD (row_below HOW.out hb3); have hwz3 := hb3.size; clear hb3)
        | (at_builtin; refine wpList_append_own _ rfl _ _ 24 rfl w2.heap.size 23 i0 (.int .u32 0) 1 4 Try.underlying24 hi hz0 hz1 hz2 rfl (by decide) (.slice ad k cd) k (rangeC .u32 t32 k) rfl (row_below HO3.out ((Below.refl _ _).alloc (Nat.le_refl _) _)) ⟨w3.heap.size, 0, none⟩ 1 1 [.int .u32 (F : Int)] rfl rfl (new_cell1 w3 _ _) (by simp [Value.oneCell']) (by unfold maxLen; omega) (by omega) (by simp; omega) ?_; intro v4 w4 hown4 hg4 hnil4; have HB4 := hidD (row_grown (row_below HO3.out ((Below.refl _ _).alloc (Nat.le_refl _) _)) (HB3.out.alloc (Nat.le_trans hwz hwz3) _) hg4 (by simp; omega)); clear hg4 hnil4))
      go_roundw
      case rel => exact ⟨k + 1, by omega, by go_num, by rw [HRN.out]; exact hown4, HB4.out⟩
      case measure => simp [intOf]; omega
    · obtain rfl : k = 256 := by omega
      go_wp2_with fail
      go_ret
      exact ⟨_, rfl, row_mono HOW.out HB2.out.size, Below.next HB2.out hbel⟩
end Go.Proofs.Ytjhaaphgaplhlaa
