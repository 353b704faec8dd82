/- What Distance of ecc answers. -/
import Derived.Test.YtjmaejdkdpiigaaE6
import Derived.Deep.Cut
namespace Go.Proofs.Ytjmaejdkdpiigaa
open Go.RowKit
set_option linter.unusedVariables false

theorem wd_row {w : World} {g D C : Nat} {ty : TypeId} (hr : w.heap[g]? = some (.cells (wdC D C) ty (0, 0))) (i : BW w) : i.v.cell? ⟨g, 0, none⟩ = some (.int .u64 (D : Int)) ∧ i.v.cell? ⟨g, 1, none⟩ = some (.int .u8 (C : Int)) := by
  have hr := (i.below.block _ (row_lt hr)).trans hr
  constructor
  · rw [cell_of_row _ _ _ _ _ _ hr]; rfl
  · rw [cell_of_row _ _ _ _ _ _ hr]; rfl
theorem wd_at {w : World} {g D C : Nat} {ty : TypeId} (hr : w.heap[g]? = some (.cells (wdC D C) ty (0, 0))) : w.cell? ⟨g, 0, none⟩ = some (.int .u64 (D : Int)) ∧ w.cell? ⟨g, 1, none⟩ = some (.int .u8 (C : Int)) := by
  constructor
  · rw [cell_of_row _ _ _ _ _ _ hr]; rfl
  · rw [cell_of_row _ _ _ _ _ _ hr]; rfl
set_option maxRecDepth 100000 in
set_option maxHeartbeats 3200000 in
theorem distance_ok {W r : Nat} (h : Wid W r) (D C D' C' : Nat) (hD : D < 2 ^ W) (hC : C < 2 ^ (r + 1)) (hD' : D' < 2 ^ W) (hC' : C' < 2 ^ (r + 1)) (w : World) : Calls Try.prog 22 #[.int .i64 (W : Int), .agg (wdC D C), .agg (wdC D' C')] w fun e w' => e = .returned (.tuple #[.int .i64 ((onTo (D ^^^ D') 64 + onTo (C ^^^ C') 8 : Nat) : Int), .int .i64 0]) ∧ Below w.heap.size w w' := by
  have hr := h.le
  have p64 : ∀ x, x < 2 ^ W → x < 18446744073709551616 := fun x hx => Nat.lt_of_lt_of_le hx (Nat.pow_le_pow_right (n := 2) (by decide) hr.1)
  have p8 : ∀ x, x < 2 ^ (r + 1) → x < 256 := fun x hx => Nat.lt_of_lt_of_le hx (Nat.pow_le_pow_right (n := 2) (by decide) (show r + 1 ≤ 8 by omega))
  have HV : Hid (∀ D0 C0 : Nat, (D0 = D ∧ C0 = C ∨ D0 = D' ∧ C0 = C') → ∀ w, Calls Try.prog 11 #[.int .i64 (W : Int), .agg (wdC D0 C0)] w fun e w' => e = .returned (.bool true) ∧ Below w.heap.size w w') := fun D0 C0 hor w => by
    rcases hor with ⟨rfl, rfl⟩ | ⟨rfl, rfl⟩
    · have := valid_any h D0 C0 (p64 _ hD) (p8 _ hC) w; rw [decide_eq_true ⟨hD, hC⟩] at this; exact this
    · have := valid_any h D0 C0 (p64 _ hD') (p8 _ hC') w; rw [decide_eq_true ⟨hD', hC'⟩] at this; exact this
  have HO : Hid (∀ v : Nat, v < 4294967296 → ∀ w, Calls Try.prog 41 #[.int .u32 (v : Int)] w fun e w' => e = .returned (.int .i64 (onTo v 32 : Int)) ∧ Below w.heap.size w w') := fun v hv w => Calls.bel (ones32_any v hv w)
  have HO8 : Hid (∀ w, Calls Try.prog 42 #[.int .u8 ((C ^^^ C' : Nat) : Int)] w fun e w' => e = .returned (.int .i64 (onTo (C ^^^ C') 8 : Int)) ∧ Below w.heap.size w w') := fun w => Calls.bel (ones_any _ (Nat.xor_lt_two_pow (n := 8) (p8 _ hC) (p8 _ hC')) w)
  have hx1 : bits .xor .u64 (D : Int) (D' : Int) = ((D ^^^ D' : Nat) : Int) := u64_xor_nat _ _ (p64 _ hD) (p64 _ hD')
  have hx2 : bits .xor .u8 (C : Int) (C' : Int) = ((C ^^^ C' : Nat) : Int) := u8_xor_nat _ _ (p8 _ hC) (p8 _ hC')
  have hX64 : D ^^^ D' < 18446744073709551616 := Nat.xor_lt_two_pow (n := 64) (p64 _ hD) (p64 _ hD')
  have HT := hidD (two_blocks w (wdC D C) (wdC D' C') 25)
  obtain ⟨hz, hsz⟩ := zero_of_info Try.zeroWd
  have HIw : Hid (∀ D C, (Try.prog.info? 25).map (·.size) = some (wdC D C).size) := fun _ _ => hsz
  clear hsz hD hC hD' hC' p64 p8 hz
  have hsp := ones_split _ hX64
  generalize C ^^^ C' = X8 at *
  generalize D ^^^ D' = X at *
  have h8 := on_le X8 8
  have hlo : (X : Int) % 4294967296 = ((X % 4294967296 : Nat) : Int) := by omega
  have hhi : (X : Int) / 4294967296 = ((X / 4294967296 : Nat) : Int) := by omega
  have hhi2 : X / 4294967296 < 4294967296 := by omega
  have hlo2 : X % 4294967296 < 4294967296 := Nat.mod_lt _ (by decide)
  have l1 := on_le (X % 4294967296) 32
  have l2 := on_le (X / 4294967296) 32
  rw [hsp]
  clear hsp
  generalize X % 4294967296 = lo at *
  generalize X / 4294967296 = hi at *
  have hrow0 := HT.out.1
  have hrow1 := HT.out.2.1
  have HBL := hidD HT.out.2.2.1
  clear HT
  have HK0 : Hid (∀ w2, Below ((w.alloc (.cells (wdC D C) 25)).alloc (.cells (wdC D' C') 25)).heap.size ((w.alloc (.cells (wdC D C) 25)).alloc (.cells (wdC D' C') 25)) w2 → w2.heap[w.heap.size]? = some (.cells (wdC D C) 25 (0, 0)) ∧ w2.heap[w.heap.size + 1]? = some (.cells (wdC D' C') 25 (0, 0)) ∧ Below w.heap.size w w2) := fun w2 hb => ⟨(hb.block _ (row_lt hrow0)).trans hrow0, (hb.block _ (row_lt hrow1)).trans hrow1, Below.next HBL.out hb⟩
  go_enter Try.func22, Try.ntmps22
  go_wp2_with (first | (refine wpList_load_row rfl 25 _ rfl w.heap.size rfl 25 (wdC D C) (0, 0) _ hrow0 Try.underlying25 rfl (HIw.out _ _) ?_) | fail)
  go_at_call 11
  refine (HV.out D C (Or.inl ⟨rfl, rfl⟩) _).mono ?_
  rintro e w2 ⟨rfl, hb2⟩
  obtain ⟨ha0, ha1, hba⟩ := HK0.out _ hb2
  obtain ⟨k0, k1⟩ := wd_at ha1
  go_wp2_with fail
  go_at_call 11
  refine (HV.out D' C' (Or.inr ⟨rfl, rfl⟩) _).mono ?_
  rintro e w3 ⟨rfl, hb3⟩
  have hr0 := (hb3.block _ (row_lt ha0)).trans ha0
  have hr1 := (hb3.block _ (row_lt ha1)).trans ha1
  have hbel := Below.next hba hb3
  clear k0 k1 hb2 hb3 ha0 ha1 hba hrow0 hrow1 HK0 HBL HV
  have c0 : w3.cell? ⟨w.heap.size, 0, none⟩ = some (.int .u64 (D : Int)) := by rw [cell_of_row _ _ _ _ _ _ hr0]; rfl
  have c1 : w3.cell? ⟨w.heap.size + 1, 0, none⟩ = some (.int .u64 (D' : Int)) := by rw [cell_of_row _ _ _ _ _ _ hr1]; rfl
  have c2 : ∀ i : BW w3, i.v.cell? ⟨w.heap.size, 1, none⟩ = some (.int .u8 (C : Int)) := fun i => (wd_row hr0 i).2
  have c3 : ∀ i : BW w3, i.v.cell? ⟨w.heap.size + 1, 1, none⟩ = some (.int .u8 (C' : Int)) := fun i => (wd_row hr1 i).2
  clear hr0 hr1
  go_wp2_with fail
  refine wp_region_below (by kernel_rfl) (by kernel_rfl) ?_
  repeat (go_big_quiet_step (first | (go_at_call 41; exact Calls.below_of (HO.out _ (by assumption) _)) | (go_at_call 42; exact Calls.below_of (HO8.out _))))
  refine wpQuiet_nil ?_
  intro i
  clear c0 c1 c2 c3
  go_wp2_with fail
  go_ret2
  exact ⟨by first | rfl | (simp; done), Below.next hbel i.below⟩
end Go.Proofs.Ytjmaejdkdpiigaa
