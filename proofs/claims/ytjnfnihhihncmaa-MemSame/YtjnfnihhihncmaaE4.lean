/- What Syndrome of ecc answers. -/
import Derived.Test.YtjnfnihhihncmaaE3
namespace Go.Proofs.Ytjnfnihhihncmaa
open Go.RowKit
set_option linter.unusedVariables false

theorem Calls.bel {f : FuncId} {args : Array Value} {w : World} {v : Value} (h : Calls Try.prog f args w fun e w' => e = .returned v ∧ w' = w) : Calls Try.prog f args w fun e w' => e = .returned v ∧ Below w.heap.size w w' :=
  h.mono fun e w' => by rintro ⟨rfl, rfl⟩; exact ⟨rfl, Below.refl _ _⟩
theorem andNot_low : ∀ r < 8, ∀ c < 256, c < 2 ^ (r + 1) → c &&& (255 - 2 ^ r) = c % 2 ^ r := by decide +kernel
theorem u8_low {r c : Nat} (hr : r < 8) (hc : c < 256) (h : c < 2 ^ (r + 1)) : bits .andNot .u8 (c : Int) ((2 : Int) ^ r) = ((c % 2 ^ r : Nat) : Int) := by
  have h2 : (2 : Int) ^ r = ((2 ^ r : Nat) : Int) := by simp
  have h3 : 2 ^ r < 2 ^ 8 := Nat.pow_lt_pow_right (by decide) hr
  rw [h2, u8_andNot_nat _ _ hc (by omega), andNot_low r hr c hc h]
theorem wd_next (w : World) (D C : Nat) (ty : TypeId) (w2 : World) (hb : Below (w.alloc (.cells (wdC D C) ty)).heap.size (w.alloc (.cells (wdC D C) ty)) w2) : w2.cell? ⟨w.heap.size, 0, none⟩ = some (.int .u64 (D : Int)) ∧ w2.cell? ⟨w.heap.size, 1, none⟩ = some (.int .u8 (C : Int)) ∧ w2.heap[w.heap.size]? = some (.cells (wdC D C) ty (0, 0)) ∧ Below w.heap.size w w2 := by
  have hr := hb.block _ (row_lt (heap_alloc_last w (.cells (wdC D C) ty)))
  rw [heap_alloc_last] at hr
  refine ⟨?_, ?_, hr, Below.next ((Below.refl _ _).alloc (Nat.le_refl _) _) hb⟩
  · rw [cell_of_row _ _ _ _ _ _ hr]; rfl
  · rw [cell_of_row _ _ _ _ _ _ hr]; rfl
theorem wd_bw (w w2 : World) (D C : Nat) (ty : TypeId) (hr : w2.heap[w.heap.size]? = some (.cells (wdC D C) ty (0, 0))) (i : BW w2) : i.v.cell? ⟨w.heap.size, 0, none⟩ = some (.int .u64 (D : Int)) ∧ i.v.cell? ⟨w.heap.size, 1, none⟩ = some (.int .u8 (C : Int)) := by
  have hr := (i.below.block _ (row_lt hr)).trans hr
  constructor
  · rw [cell_of_row _ _ _ _ _ _ hr]; rfl
  · rw [cell_of_row _ _ _ _ _ _ hr]; rfl
theorem mul_pow1 (r : Nat) : (1 : Int) * 2 ^ r = 2 ^ r := Int.one_mul _

set_option maxRecDepth 100000 in
set_option maxHeartbeats 1600000 in
theorem syndrome_ok {W r : Nat} (h : Wid W r) (D C : Nat) (hD : D < 2 ^ W) (hC : C < 2 ^ (r + 1)) (w : World) : Calls Try.prog 71 #[.int .i64 (W : Int), .agg (wdC D C)] w fun e w' => e = .returned (.tuple #[.int .i64 (synS W r D C : Int), .bool (decide (parS D C = 1)), .int .i64 0]) ∧ Below w.heap.size w w' := by
  have hr := h.le
  have hD64 : D < 18446744073709551616 := Nat.lt_of_lt_of_le hD (Nat.pow_le_pow_right (n := 2) (by decide) hr.1)
  have hC8 : C < 256 := Nat.lt_of_lt_of_le hC (Nat.pow_le_pow_right (n := 2) (by decide) (show r + 1 ≤ 8 by omega))
  have HV : Hid (∀ w, Calls Try.prog 58 #[.int .i64 (W : Int), .agg (wdC D C)] w fun e w' => e = .returned (.bool true) ∧ Below w.heap.size w w') := fun w => by have := valid_any h D C hD64 hC8 w; rw [decide_eq_true ⟨hD, hC⟩] at this; exact this
  have HC : Hid (∀ w, Calls Try.prog 75 #[.int .i64 (W : Int)] w fun e w' => e = .returned (.tuple #[.int .i64 (r : Int), .int .i64 0]) ∧ w' = w) := fun w => checks_ok h w
  have HP : Hid (∀ w, Calls Try.prog 90 #[.int .u64 (D : Int), .int .i64 (W : Int)] w fun e w' => e = .returned (.int .u8 (pxTo D W : Int)) ∧ Below w.heap.size w w') := fun w => Calls.bel (positionsOf_any D W hD64 hr.1 w)
  have HY : Hid (∀ w, Calls Try.prog 91 #[.int .u64 (D : Int), .int .u8 (C : Int)] w fun e w' => e = .returned (.int .u8 (parS D C : Int)) ∧ Below w.heap.size w w') := fun w => Calls.bel (parityOf_any D C hD64 hC8 w)
  have CB : Hid (∀ w2, Below (w.alloc (.cells (wdC D C) 58)).heap.size (w.alloc (.cells (wdC D C) 58)) w2 → w2.cell? ⟨w.heap.size, 0, none⟩ = some (.int .u64 (D : Int)) ∧ w2.cell? ⟨w.heap.size, 1, none⟩ = some (.int .u8 (C : Int)) ∧ w2.heap[w.heap.size]? = some (.cells (wdC D C) 58 (0, 0)) ∧ Below w.heap.size w w2) := fun w2 hb => wd_next w D C _ w2 hb
  have HR : Hid ((w.alloc (.cells (wdC D C) (58 : TypeId))).heap[w.heap.size]? = some (.cells (wdC D C) (58 : TypeId) (0, 0))) := heap_alloc_last _ _
  obtain ⟨hz, hsz⟩ := zero_of_info Try.zeroWd
  have HI : Hid ((Try.prog.info? 58).map (·.size) = some 2) := hsz
  clear hsz hz
  have hlow := u8_low (r := r) (by omega) hC8 hC
  have h2r : (2 : Int) ^ r ≤ 128 := by
    have h3 : 2 ^ r ≤ 2 ^ 7 := Nat.pow_le_pow_right (by decide) hr.2.1
    have h2 : (2 : Int) ^ r = ((2 ^ r : Nat) : Int) := by simp
    omega
  have h2p : (0 : Int) < (2 : Int) ^ r := Int.pow_pos (by decide)
  have hm1 : (1 : Int) * 2 ^ r = 2 ^ r := Int.one_mul _
  have hm2 : (2 : Int) ^ r % 256 = 2 ^ r := by omega
  have hpx := px_lt128 D W hr.1
  have hcl : C % 2 ^ r < 128 := Nat.lt_of_lt_of_le (Nat.mod_lt _ (Nat.two_pow_pos r)) (Nat.pow_le_pow_right (n := 2) (by decide) hr.2.1)
  have hx : bits .xor .u8 (pxTo D W : Int) ((C % 2 ^ r : Nat) : Int) = (synS W r D C : Int) := u8_xor_nat _ _ (by omega) (by omega)
  have hsl : synS W r D C < 128 := Nat.lt_of_lt_of_le (syn_lt h D C) (Nat.pow_le_pow_right (n := 2) (by decide) hr.2.1)
  have HE : Hid (((parS D C : Int) == 1) = decide (parS D C = 1)) := by
    show _ = _
    rcases par_two D C with h | h <;> rw [h] <;> rfl
  have hpl := par_lt D C
  clear hD hC
  generalize synS W r D C = S at *
  generalize decide (parS D C = 1) = B at *
  generalize parS D C = Y at *
  generalize pxTo D W = P at *
  generalize C % 2 ^ r = L at *
  go_enter Try.func71, Try.ntmps71
  go_wp2_with (first | (go_at_call 75; refine (HC.out _).mono ?_; rintro e w3 ⟨rfl, hb3⟩) | (go_at_call 58; refine (HV.out _).mono ?_; rintro e w2 ⟨rfl, hb2⟩; obtain ⟨c0, c1, hrow, hbel⟩ := CB.out _ hb2) | (refine wpList_load_row rfl 58 _ rfl w.heap.size rfl 58 (wdC D C) (0, 0) _ HR.out Try.underlying58 rfl HI.out ?_))
  go_quiet (fail)
  go_wp2_with fail
  have c3 : ∀ i : BW (w2.drewN nq), i.v.cell? ⟨w.heap.size, 0, none⟩ = some (.int .u64 (D : Int)) := fun i => (wd_bw w (w2.drewN nq) D C _ hrow i).1
  have c4 : ∀ i : BW (w2.drewN nq), i.v.cell? ⟨w.heap.size, 1, none⟩ = some (.int .u8 (C : Int)) := fun i => (wd_bw w (w2.drewN nq) D C _ hrow i).2
  have hbel2 : Below w.heap.size w (w2.drewN nq) := below_drewN hbel nq
  generalize w2.drewN nq = w5 at *
  clear c0 c1
  refine wp_region_below (by kernel_rfl) (by kernel_rfl) ?_
  repeat (go_big_quiet_step (first | (go_at_call 90; exact Calls.below_of (HP.out _)) | (go_at_call 91; exact Calls.below_of (HY.out _))))
  refine wpQuiet_nil ?_
  intro i
  clear c3 c4
  go_wp2_with fail
  refine bodyPost_ret (v := .tuple #[.int .i64 (S : Int), .bool B, .int .i64 0]) (by simp [results, Try.results71, go_sem, HE.out]) rfl ⟨rfl, Below.next hbel2 i.below⟩

/- a word that is none -/
theorem valid_not {W r : Nat} (h : Wid W r) (D C : Nat) (hD : D < 18446744073709551616) (hC : C < 256) (hn : ¬ (D < 2 ^ W ∧ C < 2 ^ (r + 1))) (w : World) : Calls Try.prog 58 #[.int .i64 (W : Int), .agg (wdC D C)] w fun e w' => e = .returned (.bool false) ∧ Below w.heap.size w w' := by have := valid_any h D C hD hC w; rw [decide_eq_false hn] at this; exact this
set_option maxRecDepth 100000 in
set_option maxHeartbeats 800000 in
theorem syndrome_no (x : Int) (D C : Nat) (HV : Hid (∀ w, Calls Try.prog 58 #[.int .i64 x, .agg (wdC D C)] w fun e w' => e = .returned (.bool false) ∧ Below w.heap.size w w')) (w : World) : Calls Try.prog 71 #[.int .i64 x, .agg (wdC D C)] w fun e w' => e = .returned (.tuple #[.int .i64 0, .bool false, .int .i64 1]) ∧ Below w.heap.size w w' := by
  have HR : Hid ((w.alloc (.cells (wdC D C) (58 : TypeId))).heap[w.heap.size]? = some (.cells (wdC D C) (58 : TypeId) (0, 0))) := heap_alloc_last _ _
  have HB : Hid (Below w.heap.size w (w.alloc (.cells (wdC D C) 58))) := (Below.refl _ _).alloc (Nat.le_refl _) _
  obtain ⟨hz, hsz⟩ := zero_of_info Try.zeroWd
  have HI : Hid ((Try.prog.info? 58).map (·.size) = some 2) := hsz
  clear hsz hz
  go_enter Try.func71, Try.ntmps71
  go_wp2_with (first | (go_at_call 58; refine (HV.out _).mono ?_; rintro e w2 ⟨rfl, hb2⟩) | (refine wpList_load_row rfl 58 _ rfl w.heap.size rfl 58 (wdC D C) (0, 0) _ HR.out Try.underlying58 rfl HI.out ?_))
  refine bodyPost_ret (v := .tuple #[.int .i64 0, .bool false, .int .i64 1]) (by simp [results, Try.results71, go_sem]) rfl ⟨rfl, Below.next HB.out hb2⟩
end Go.Proofs.Ytjnfnihhihncmaa
