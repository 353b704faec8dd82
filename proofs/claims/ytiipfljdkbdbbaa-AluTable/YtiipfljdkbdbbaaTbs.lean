/- What table, Words and Rule of the program answer. -/
import Derived.Test.YtiipfljdkbdbbaaTbr
import Derived.Test.YtiipfljdkbdbbaaTbp
import Derived.Test.YtiipfljdkbdbbaaLiv
import Derived.Test.YtiipfljdkbdbbaaAld
namespace Go.Proofs.Ytiipfljdkbdbbaa
open Go.RowKit
set_option linter.unusedVariables false

theorem or1w : ∀ v < 256, bits .or .u32 ((f0 v : Nat) : Int) (((upN v : Nat) : Int) * 256) = ((w1 v : Nat) : Int) := by decide +kernel
theorem or2w : ∀ v < 256, bits .or .u32 ((w1 v : Nat) : Int) (((dnN v : Nat) : Int) * 65536) = ((w2 v : Nat) : Int) := by decide +kernel
theorem or3w : ∀ v < 256, bits .or .u32 ((w2 v : Nat) : Int) (((dgN v : Nat) : Int) * 16777216) = ((wdN v : Nat) : Int) := by decide +kernel
def afN (v : Nat) : Nat := fl (v * 2 % 256) (wi 0 1 (decide (128 ≤ v)))
def lfN (v : Nat) : Nat := fl (v / 2) (wi 0 1 (decide (v % 2 = 1)))
theorem asl0_any (v : Nat) (hv : v < 256) : W1 32 #[.int .u8 (v : Int), .int .u8 0] (.tuple #[.int .u8 (upN v : Int), .int .u8 (afN v : Int)]) := asl_any v 0 hv (by decide)
theorem lsr0_any (v : Nat) (hv : v < 256) : W1 34 #[.int .u8 (v : Int), .int .u8 0] (.tuple #[.int .u8 (dnN v : Int), .int .u8 (lfN v : Int)]) := lsr_any v 0 hv (by decide)
theorem flags0_any (v : Nat) (hv : v < 256) : W1 13 #[.int .u8 (v : Int), .int .u8 0] (.int .u8 (f0 v : Int)) := flags_any v 0 hv (by decide)
theorem refFlags0_any (v : Nat) (hv : v < 256) : W1 14 #[.int .u8 (v : Int), .int .u8 0] (.int .u8 (f0 v : Int)) := refFlags_any v 0 hv (by decide)
theorem digitN_any (v : Nat) (hv : v < 256) : W1 46 #[.int .i64 (loN v : Int)] (.int .i64 (dgN v : Int)) := digit_any (loN v) (by have := lo_lt v; omega)

theorem Try.zero41 : (Try.prog.info? 41).map (fun i => (i.zero, i.size)) = some (some (.agg (fillC .u32 wdN 0)), 256) := by kernel_rfl

set_option maxRecDepth 100000 in
set_option maxHeartbeats 1600000 in
theorem table_any (w : World) : Calls Try.prog 40 #[] w fun e w' => e = .returned (.agg (fillC .u32 wdN 256)) ∧ Below w.heap.size w w' := by
  obtain ⟨hz, hsz⟩ := zero_of_info Try.zero41
  go_enter Try.func40, Try.ntmps40
  go_wp2_with fail
  obtain ⟨W0, hW0⟩ : ∃ W0, W0 = w.alloc (.cells (fillC .u32 wdN 0) (41 : TypeId)) := ⟨_, rfl⟩
  have hW0s : W0.heap.size = w.heap.size + 1 := by rw [hW0]; simp
  have HB0 : Hid (Below w.heap.size w W0) := by rw [hW0]; exact (Below.refl _ _).alloc (Nat.le_refl _) _
  have HH0 : Hid (W0.heap[w.heap.size]? = some (.cells (fillC .u32 wdN 0) (41 : TypeId) (0, 0))) := by rw [hW0]; exact heap_alloc_last _ _
  rw [← hW0, ← hW0s]
  have HW0s := hidD hW0s
  clear hW0 hW0s
  go_loopw [8] (fun i wr => ∃ k : Nat, k ≤ 256 ∧ i = .int .i64 k ∧ wr = W0.alloc (.cells (fillC .u32 wdN k) (41 : TypeId))) (fun i _ => 256 - (intOf i).toNat)
  case atStart => exact ⟨0, Nat.zero_le _, rfl, rfl⟩
  case round =>
    obtain ⟨k, hk, rfl, rfl⟩ := hrel
    by_cases hlt : k < 256
    · have hlti : (k : Int) < 256 := by omega
      have hca : (W0.alloc (.cells (fillC .u32 wdN k) (41 : TypeId))).cell? ⟨W0.heap.size, k, none⟩ = some (.int .u32 0) := by rw [World.cell?_alloc_new]; exact fill_zero _ _ k hlt
      have HST : Hid ((W0.alloc (.cells (fillC .u32 wdN k) (41 : TypeId))).setCell ⟨W0.heap.size, k, none⟩ (.int .u32 ((wdN k : Nat) : Int)) = W0.alloc (.cells (fillC .u32 wdN (k + 1)) (41 : TypeId))) := by
        rw [← fill_set .u32 wdN k hlt]
        exact World.setCell_alloc_new _ _ _ _
      generalize fillC .u32 wdN k = C at *
      have H1 := hidD (asl0_any k hlt)
      have H2 := hidD (lsr0_any k hlt)
      have H3 := hidD (flags0_any k hlt)
      have H4 := hidD (lowN_any k hlt)
      have H5 := hidD (digitN_any k hlt)
      have o1 := or1w k hlt
      have o2 := or2w k hlt
      have o3 := or3w k hlt
      obtain ⟨b1, b2, b3, b4, b5, b6, b7⟩ := w_lt k hlt
      have b8 := lo_lt k
      generalize wdN k = x3 at *
      generalize w2 k = x2 at *
      generalize w1 k = x1 at *
      generalize dgN k = y4 at *
      generalize loN k = y3 at *
      generalize dnN k = y2 at *
      generalize upN k = y1 at *
      generalize f0 k = y0 at *
      generalize afN k = z0 at *
      generalize lfN k = z1 at *
      go_wp2_with (first | (go_at_call 32; refine (H1.out _).mono ?_; rintro e w2 ⟨rfl, rfl⟩) | (go_at_call 34; refine (H2.out _).mono ?_; rintro e w2 ⟨rfl, rfl⟩) | (go_at_call 13; refine (H3.out _).mono ?_; rintro e w2 ⟨rfl, rfl⟩) | (go_at_call 47; refine (H4.out _).mono ?_; rintro e w2 ⟨rfl, rfl⟩) | (go_at_call 46; refine (H5.out _).mono ?_; rintro e w2 ⟨rfl, rfl⟩))
      go_roundw
      case rel => exact ⟨k + 1, by omega, by go_num, HST.out⟩
      case measure => simp [intOf]; omega
    · obtain rfl : k = 256 := by omega
      have h256 : (fillC .u32 wdN 256).size = 256 := fill_size _ _ _ (by omega)
      have h0 : (fillC .u32 wdN 0).size = 256 := fill_size _ _ _ (by omega)
      have HONE := hidD (fill_one .u32 wdN 256)
      generalize hC : fillC .u32 wdN 256 = C at *
      have HC := hidD hC
      clear hC
      generalize fillC .u32 wdN 0 = C0 at *
      have hi : (Try.prog.info? 41).map (·.size) = some C.size := by rw [hsz, h256]
      have HL : Hid ((W0.alloc (.cells C (41 : TypeId))).heap[W0.heap.size]? = some (.cells C (41 : TypeId) (0, 0))) := heap_alloc_last _ _
      have HO : Hid ((W0.alloc (.cells C (41 : TypeId))).heap[w.heap.size]? = some (.cells C0 (41 : TypeId) (0, 0))) := by
        show _ = _
        rw [Below.heap_alloc _ _ _ (by have := HW0s.out; omega)]; exact HH0.out
      go_wp2_with (first | (refine wpList_load_row rfl 41 _ rfl W0.heap.size rfl 41 C (0, 0) _ HL.out Try.underlying41 rfl hi ?_) | (refine wpList_store_row rfl 41 _ _ rfl w.heap.size C rfl rfl 41 C0 HO.out hi (by rw [h0, h256]) HONE.out ?_))
      have hne : ¬ w.heap.size = W0.heap.size := by have := HW0s.out; omega
      refine bodyPost_ret (results_cell_row (P := Try.prog) (p := 0) (ty := 41) (by kernel_rfl) _ _ w.heap.size 41 C (0, 0) _ rfl (setRow_heap _ _ C0 C 41 (0, 0) HO.out) Try.underlying41 rfl hi) rfl ?_
      exact ⟨by rw [HC.out], below_setRow ((HB0.out).alloc (Nat.le_of_lt (by have := HW0s.out; omega)) _) (Nat.le_refl _) _⟩

set_option maxRecDepth 100000 in
set_option maxHeartbeats 400000 in
theorem words_any (w : World) : Calls Try.prog 10 #[] w fun e w' => ∃ g c, e = .returned (.slice (some ⟨g, 0, none⟩) 256 c) ∧ w.heap.size ≤ g ∧ WbAt w' g wdN ∧ Below w.heap.size w w' := by
  have HT := hidD table_any
  obtain ⟨hz, hsz⟩ := zero_of_info Try.zero41
  have h0 : (fillC .u32 wdN 0).size = 256 := fill_size _ _ _ (by omega)
  have h256 : (fillC .u32 wdN 256).size = 256 := fill_size _ _ _ (by omega)
  have HONE := hidD (fill_one .u32 wdN 256)
  have HW : Hid (∀ w g t, w.heap[g]? = some (.cells (fillC .u32 wdN 256) t (0, 0)) → WbAt w g wdN) := fun w g t h => WbAt.fill h
  generalize fillC .u32 wdN 256 = C at *
  generalize fillC .u32 wdN 0 = C0 at *
  have hi : (Try.prog.info? 41).map (·.size) = some C.size := by rw [hsz, h256]
  go_enter Try.func10, Try.ntmps10
  go_wp2_with (first | (go_at_call 40; refine (HT.out _).mono ?_; rintro e w1 ⟨rfl, hb1⟩; have HO : Hid ((w1.alloc (.cells C0 (41 : TypeId))).heap[w1.heap.size]? = some (.cells C0 (41 : TypeId) (0, 0))) := heap_alloc_last _ _) | (refine wpList_store_row rfl 41 _ _ rfl w1.heap.size C rfl rfl 41 C0 HO.out hi (by rw [h0, h256]) HONE.out ?_; rw [World.setRow_alloc_new]))
  go_ret
  exact ⟨w1.heap.size, _, rfl, hb1.size, HW.out _ _ _ (heap_alloc_last _ _), hb1.alloc hb1.size _⟩

set_option maxRecDepth 100000 in
set_option maxHeartbeats 1600000 in
theorem ruled_pos (v : Nat) (hv : v < 256) (hz : ¬ v = 0) : W1 41 #[.int .u32 (v : Int)] (.int .u32 (wdN v : Int)) := by
  intro w
  have o1 := or1w v hv
  have o2 := or2w v hv
  have o3 := or3w v hv
  obtain ⟨b1, b2, b3, b4, b5, b6, b7⟩ := w_lt v hv
  have d1 := dg_is v hv
  have d2 := f0_is v hv
  have e1 : (v : Int) * 2 % 256 = ((upN v : Nat) : Int) := by unfold upN; omega
  have e2 : (v : Int) / 2 = ((dnN v : Nat) : Int) := by unfold dnN; omega
  have e3 : (v : Int) % 16 = ((v % 16 : Nat) : Int) := by omega
  have hr : v % 16 < 16 := Nat.mod_lt _ (by decide)
  generalize wdN v = x3 at *
  generalize w2 v = x2 at *
  generalize w1 v = x1 at *
  generalize dgN v = y4 at *
  generalize dnN v = y2 at *
  generalize upN v = y1 at *
  generalize f0 v = y0 at *
  generalize v % 16 = r at *
  rw [if_neg hz] at d2
  have hzi : ¬ (v : Int) = 0 := by omega
  have e0 : (v : Int) / 128 * 128 = ((y0 : Nat) : Int) := by omega
  clear d2
  by_cases h9 : 9 < r
  · rw [if_pos h9] at d1
    have hi9 : (9 : Int) < (r : Int) := by omega
    have e4 : (r : Int) + 6 = ((y4 : Nat) : Int) := by omega
    clear d1
    go_enter Try.func41, Try.ntmps41
    go_wp2_with fail
    go_ret
    exact ⟨by first | rfl | (simp; done), rfl⟩
  · rw [if_neg h9] at d1
    have hi9 : ¬ (9 : Int) < (r : Int) := by omega
    subst d1
    go_enter Try.func41, Try.ntmps41
    go_wp2_with fail
    go_ret
    exact ⟨by first | rfl | (simp; done), rfl⟩

set_option maxRecDepth 100000 in
theorem ruled_zero : W1 41 #[.int .u32 0] (.int .u32 2) := by
  intro w
  have e : bits .or .u32 (bits .or .u32 (bits .or .u32 2 0) 0) 0 = 2 := by decide +kernel
  go_enter Try.func41, Try.ntmps41
  go_wp2_with fail
  go_ret
  exact ⟨by first | rfl | (simp [e]; done), rfl⟩
theorem ruled_any (v : Nat) (hv : v < 256) : W1 41 #[.int .u32 (v : Int)] (.int .u32 (wdN v : Int)) := by
  by_cases h : v = 0
  · subst h; exact ruled_zero
  · exact ruled_pos v hv h

theorem Try.info22 : (Try.prog.info? 22).map (fun i => (i.zero, i.size, i.bytes)) = some (some (.int .u32 0), 1, 4) := by kernel_rfl
theorem made_fill : madeCells #[(.int .u32 0 : Value)] 256 = fillC .u32 wdN 0 := by kernel_rfl
theorem make_rule (w : World) : (Instr.makeSlice 23 (.int .i64 256) (.int .i64 256)).run Try.prog w = .ok (.slice (some ⟨w.heap.size, 0, none⟩) 256 256) (w.alloc (.cells (fillC .u32 wdN 0) 22)) := by
  rw [← made_fill]
  exact run_make_row' 23 22 (.int .u32 0) 4 Try.underlying23 Try.info22 rfl .i64 .i64 256 (by decide) (by decide) w

set_option maxRecDepth 100000 in
set_option maxHeartbeats 800000 in
theorem rule_any (w : World) : Calls Try.prog 11 #[] w fun e w' => ∃ g c, e = .returned (.slice (some ⟨g, 0, none⟩) 256 c) ∧ w.heap.size ≤ g ∧ WbAt w' g wdN ∧ Below w.heap.size w w' := by
  have hmk := make_rule
  go_enter Try.func11, Try.ntmps11
  go_wp2_with fail
  have HG0 : Hid ((w.alloc (.cells (fillC .u32 wdN 0) (22 : TypeId))).heap[w.heap.size]? = some (.cells (fillC .u32 wdN 0) (22 : TypeId) (0, 0))) := heap_alloc_last _ _
  have HB2 : Hid (Below w.heap.size w (w.alloc (.cells (fillC .u32 wdN 0) (22 : TypeId)))) := (Below.refl w.heap.size w).alloc (Nat.le_refl _) _
  clear hmk
  go_loopw [6] (fun i wr => ∃ k : Nat, k ≤ 256 ∧ i = .int .i64 k ∧ wr.heap[w.heap.size]? = some (.cells (fillC .u32 wdN k) (22 : TypeId) (0, 0)) ∧ Below w.heap.size w wr) (fun i _ => 256 - (intOf i).toNat)
  case atStart => exact ⟨0, Nat.zero_le _, rfl, HG0.out, HB2.out⟩
  case round =>
    obtain ⟨k, hk, rfl, hg, hbel⟩ := hrel
    have HBL := hidD hbel
    by_cases hlt : k < 256
    · have hlti : (k : Int) < 256 := by omega
      have HRV := hidD (ruled_any k hlt)
      have hca : wr.cell? ⟨w.heap.size, k, none⟩ = some (.int .u32 0) := by rw [cell_of_row _ _ _ _ _ _ hg]; exact fill_zero _ _ k hlt
      have hfr : wr.frozen? ⟨w.heap.size, k, none⟩ = false := frozen_of_row _ _ _ _ _ hg
      have HNX : Hid ((wr.setCell ⟨w.heap.size, k, none⟩ (.int .u32 (wdN k : Nat))).heap[w.heap.size]? = some (.cells (fillC .u32 wdN (k + 1)) (22 : TypeId) (0, 0))) := by
        show _ = _
        rw [heap_setCell_same wr _ k _ _ _ hg, fill_set _ _ _ hlt]
      clear hbel hg HG0
      generalize wdN k = R at *
      go_wp2_with (go_at_call 41; refine (HRV.out _).mono ?_; rintro e w3 ⟨rfl, h3⟩; subst h3)
      go_roundw
      case rel => exact ⟨k + 1, by omega, by go_num, HNX.out, HBL.out.setCell (p := ⟨w.heap.size, k, none⟩) (Nat.le_refl _) _⟩
      case measure => simp [intOf]; omega
    · obtain rfl : k = 256 := by omega
      have HG := hidD (WbAt.fill hg)
      clear hg HG0
      go_wp2_with fail
      go_ret
      exact ⟨w.heap.size, _, rfl, Nat.le_refl _, HG.out, hbel⟩
end Go.Proofs.Ytiipfljdkbdbbaa
