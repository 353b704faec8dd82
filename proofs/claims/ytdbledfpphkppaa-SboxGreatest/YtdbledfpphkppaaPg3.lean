/- What the program's Mix, Unmix, Column and Round answer. -/
import Derived.Test.YtdbledfpphkppaaPg2
namespace Go.Proofs.Ytdbledfpphkppaa
open Go.RowKit
set_option linter.unusedVariables false

set_option maxRecDepth 100000 in
set_option maxHeartbeats 400000 in
theorem pMix_any (c : Nat → UInt8) (w : World) : Calls Try.prog 15 #[.agg (colR c)] w fun e w' => e = .returned (.agg (colR (mixS c mixM))) ∧ Below w.heap.size w w' := by
  have HM := hidD (fun w => pMixed_any c mixM (by decide) w)
  rw [mixM_row, colR_lit c, colR_lit (mixS c mixM)] at HM
  have HONE : Hid ((colR (mixS c mixM)).all (·.oneCell') = true) := rowZ_one _ _ _
  rw [colR_lit (mixS c mixM)] at HONE
  rw [colR_lit c, colR_lit (mixS c mixM)]
  obtain ⟨hz, hsz⟩ := zero_of_info Try.zero22'
  generalize ((c 0).toNat : Int) = c0 at *
  generalize ((c 1).toNat : Int) = c1 at *
  generalize ((c 2).toNat : Int) = c2 at *
  generalize ((c 3).toNat : Int) = c3 at *
  generalize ((mixS c mixM 0).toNat : Int) = r0 at *
  generalize ((mixS c mixM 1).toNat : Int) = r1 at *
  generalize ((mixS c mixM 2).toNat : Int) = r2 at *
  generalize ((mixS c mixM 3).toNat : Int) = r3 at *
  obtain ⟨b1, b2, b3, b4⟩ := two_blocks w #[.int .u8 c0, .int .u8 c1, .int .u8 c2, .int .u8 c3] #[.int .u8 0, .int .u8 0, .int .u8 0, .int .u8 0] 22
  have B2 := hidD b2
  have B3 := hidD b3
  have B4 := hidD b4
  clear b1 b2 b3 b4
  go_enter Try.func15, Try.ntmps15
  go_wp2_with (first | (go_at_call 46; refine (HM.out _).mono ?_; rintro e w3 ⟨rfl, hb3⟩; have HB3 := hidD hb3; clear hb3; have HO : Hid (w3.heap[w.heap.size + 1]? = some (.cells #[.int .u8 0, .int .u8 0, .int .u8 0, .int .u8 0] (22 : TypeId) (0, 0))) := (HB3.out.block _ (by rw [B4.out]; omega)).trans B2.out) | (refine wpList_store_row rfl 22 _ _ rfl (w.heap.size + 1) #[.int .u8 r0, .int .u8 r1, .int .u8 r2, .int .u8 r3] rfl rfl 22 #[.int .u8 0, .int .u8 0, .int .u8 0, .int .u8 0] HO.out (by rw [hsz]; rfl) rfl HONE.out ?_))
  refine bodyPost_ret (results_cell_row (P := Try.prog) (p := 2) (ty := 22) (by kernel_rfl) _ _ (w.heap.size + 1) 22 #[.int .u8 r0, .int .u8 r1, .int .u8 r2, .int .u8 r3] (0, 0) _ rfl (setRow_heap _ _ #[.int .u8 0, .int .u8 0, .int .u8 0, .int .u8 0] #[.int .u8 r0, .int .u8 r1, .int .u8 r2, .int .u8 r3] 22 (0, 0) HO.out) Try.underlying22 rfl (by rw [hsz]; rfl)) rfl ?_
  exact ⟨rfl, below_setRow (B3.out.trans (HB3.out.mono (by rw [B4.out]; omega))) (by omega) _⟩
set_option maxRecDepth 100000 in
set_option maxHeartbeats 400000 in
theorem pUnmix_any (c : Nat → UInt8) (w : World) : Calls Try.prog 17 #[.agg (colR c)] w fun e w' => e = .returned (.agg (colR (mixS c unmM))) ∧ Below w.heap.size w w' := by
  have HM := hidD (fun w => pMixed_any c unmM (by decide) w)
  rw [unmM_row, colR_lit c, colR_lit (mixS c unmM)] at HM
  have HONE : Hid ((colR (mixS c unmM)).all (·.oneCell') = true) := rowZ_one _ _ _
  rw [colR_lit (mixS c unmM)] at HONE
  rw [colR_lit c, colR_lit (mixS c unmM)]
  obtain ⟨hz, hsz⟩ := zero_of_info Try.zero22'
  generalize ((c 0).toNat : Int) = c0 at *
  generalize ((c 1).toNat : Int) = c1 at *
  generalize ((c 2).toNat : Int) = c2 at *
  generalize ((c 3).toNat : Int) = c3 at *
  generalize ((mixS c unmM 0).toNat : Int) = r0 at *
  generalize ((mixS c unmM 1).toNat : Int) = r1 at *
  generalize ((mixS c unmM 2).toNat : Int) = r2 at *
  generalize ((mixS c unmM 3).toNat : Int) = r3 at *
  obtain ⟨b1, b2, b3, b4⟩ := two_blocks w #[.int .u8 c0, .int .u8 c1, .int .u8 c2, .int .u8 c3] #[.int .u8 0, .int .u8 0, .int .u8 0, .int .u8 0] 22
  have B2 := hidD b2
  have B3 := hidD b3
  have B4 := hidD b4
  clear b1 b2 b3 b4
  go_enter Try.func17, Try.ntmps17
  go_wp2_with (first | (go_at_call 46; refine (HM.out _).mono ?_; rintro e w3 ⟨rfl, hb3⟩; have HB3 := hidD hb3; clear hb3; have HO : Hid (w3.heap[w.heap.size + 1]? = some (.cells #[.int .u8 0, .int .u8 0, .int .u8 0, .int .u8 0] (22 : TypeId) (0, 0))) := (HB3.out.block _ (by rw [B4.out]; omega)).trans B2.out) | (refine wpList_store_row rfl 22 _ _ rfl (w.heap.size + 1) #[.int .u8 r0, .int .u8 r1, .int .u8 r2, .int .u8 r3] rfl rfl 22 #[.int .u8 0, .int .u8 0, .int .u8 0, .int .u8 0] HO.out (by rw [hsz]; rfl) rfl HONE.out ?_))
  refine bodyPost_ret (results_cell_row (P := Try.prog) (p := 2) (ty := 22) (by kernel_rfl) _ _ (w.heap.size + 1) 22 #[.int .u8 r0, .int .u8 r1, .int .u8 r2, .int .u8 r3] (0, 0) _ rfl (setRow_heap _ _ #[.int .u8 0, .int .u8 0, .int .u8 0, .int .u8 0] #[.int .u8 r0, .int .u8 r1, .int .u8 r2, .int .u8 r3] 22 (0, 0) HO.out) Try.underlying22 rfl (by rw [hsz]; rfl)) rfl ?_
  exact ⟨rfl, below_setRow (B3.out.trans (HB3.out.mono (by rw [B4.out]; omega))) (by omega) _⟩
def wTo (m : Nat → UInt8) : Nat → Nat
  | 0 => 0
  | k + 1 => wTo m k * 256 ||| (m k).toNat
theorem wTo_lt (m : Nat → UInt8) : ∀ k, wTo m k < 2 ^ (8 * k)
  | 0 => by show 0 < 1; omega
  | k + 1 => by
    have h1 := wTo_lt m k
    have h2 : 2 ^ (8 * (k + 1)) = 2 ^ (8 * k) * 256 := by rw [show 8 * (k + 1) = 8 * k + 8 from rfl, Nat.pow_add]
    rw [wTo]
    refine Nat.or_lt_two_pow (by rw [h2]; omega) (Nat.lt_of_lt_of_le (u8_lt (m k)) (Nat.pow_le_pow_right (by omega) (by omega)))
theorem or_mul (a b : Nat) (k : Nat) : (a ||| b) * 2 ^ k = a * 2 ^ k ||| b * 2 ^ k := by
  rw [← Nat.shiftLeft_eq, ← Nat.shiftLeft_eq, ← Nat.shiftLeft_eq, Nat.shiftLeft_or_distrib]
theorem wTo_word (m : Nat → UInt8) : wTo m 4 = wordS m := by
  unfold wordS
  simp only [wTo]
  rw [show (256 : Nat) = 2 ^ 8 from rfl, Nat.zero_mul, Nat.zero_or, or_mul, or_mul, or_mul, Nat.mul_assoc, Nat.mul_assoc, Nat.mul_assoc]
set_option maxRecDepth 100000 in
set_option maxHeartbeats 400000 in
theorem pColumn_any (b : UInt8) (w : World) : Calls Try.prog 19 #[.int .u8 (b.toNat : Int)] w fun e w' => e = .returned (.int .u32 (colS b : Int)) ∧ Below w.heap.size w w' := by
  have HS := hidD (fun w => pSub_any b w)
  have HM := hidD (fun w => pMix_any (oneC (subS b)) w)
  rw [colR_lit (oneC (subS b)), show ((oneC (subS b) 0).toNat : Int) = ((subS b).toNat : Int) from rfl, show ((oneC (subS b) 1).toNat : Int) = 0 from rfl, show ((oneC (subS b) 2).toNat : Int) = 0 from rfl, show ((oneC (subS b) 3).toNat : Int) = 0 from rfl] at HM
  have HR : Hid (colS b = wTo (mixS (oneC (subS b)) mixM) 4) := (wTo_word _).symm
  generalize ((subS b).toNat : Int) = sb at *
  generalize mixS (oneC (subS b)) mixM = m at *
  have HIX : Hid (∀ k : Nat, k < 4 → ∀ w, (Instr.index 22 (.agg (colR m)) (.int .i64 (k : Int))).run Try.prog w = .ok (.int .u8 ((m k).toNat : Int)) w) := fun k hk w => index4 _ k _ hk (rowZ_get .u8 4 _ k hk) w
  obtain ⟨hz, hsz⟩ := zero_of_info Try.zero22'
  generalize colS b = R at *
  generalize hC : colR m = C at *
  clear hC
  go_enter Try.func19, Try.ntmps19
  go_wp2_with (first | (go_at_call 11; refine (HS.out _).mono ?_; rintro e w2 ⟨rfl, hb2⟩; have HB2 := hidD hb2; clear hb2) | (go_at_call 15; refine (HM.out _).mono ?_; rintro e w3 ⟨rfl, hb3⟩; have HB3 := hidD (Below.next HB2.out hb3); clear hb3))
  go_loopw [3, 10] (fun x i wr => ∃ k : Nat, k ≤ 4 ∧ i = .int .i64 k ∧ x = .int .u32 ((wTo m k : Nat) : Int) ∧ Below w.heap.size w wr) (fun _ i _ => 4 - (intOf i).toNat)
  case atStart => exact ⟨0, Nat.zero_le _, rfl, rfl, HB3.out⟩
  case round =>
    obtain ⟨k, hk, rfl, rfl, hbel⟩ := hrel
    have HBL := hidD hbel
    clear hbel
    by_cases hlt : k < 4
    · have hlti : (k : Int) < 4 := by omega
      have hix := fun w => HIX.out k hlt w
      have hW : wTo m k < 16777216 := Nat.lt_of_lt_of_le (wTo_lt m k) (show 2 ^ (8 * k) ≤ 2 ^ 24 from Nat.pow_le_pow_right (by omega) (by omega))
      have hb : (m k).toNat < 256 := u8_lt _
      have HE : Hid (bits .or .u32 ((wTo m k : Int) * 256) ((m k).toNat : Int) = ((wTo m (k + 1) : Nat) : Int)) := by
        show _ = _
        rw [show (wTo m k : Int) * 256 = ((wTo m k * 256 : Nat) : Int) by simp, u32_or_nat _ _ (by omega) (by omega)]; rfl
      generalize wTo m k = X at *
      generalize (m k).toNat = Y at *
      go_wp2_with fail
      go_roundw
      case rel => exact ⟨k + 1, by omega, by go_num, by rw [← HE.out], HBL.out⟩
      case measure => simp [intOf]; omega
    · obtain rfl : k = 4 := by omega
      rw [← HR.out]
      go_wp2_with fail
      go_ret
      exact ⟨rfl, HBL.out⟩
set_option maxRecDepth 100000 in
set_option maxHeartbeats 400000 in
theorem pRound_low (n : Int) (h : n < 1) (w : World) : Calls Try.prog 21 #[.int .i64 n] w fun e w' => e = .returned (.int .u8 0) ∧ w' = w := by
  go_enter Try.func21, Try.ntmps21
  go_wp2_with fail
  go_ret
  exact ⟨rfl, rfl⟩
set_option maxRecDepth 100000 in
set_option maxHeartbeats 400000 in
theorem pRound_same (n : Int) (h : n < 9223372036854775808) (w : World) : Calls Try.prog 21 #[.int .i64 n] w fun e w' => e = .returned (.int .u8 (rndS n : Int)) ∧ w' = w := by
  by_cases h1 : n < 1
  · have := pRound_low n h1 w
    unfold rndS; rw [if_pos h1]; exact this
  · obtain ⟨M, hM⟩ : ∃ M : Nat, (n - 1) % 51 = (M : Int) := ⟨((n - 1) % 51).toNat, by omega⟩
    have hMl : M < 51 := by omega
    have ht : (n - 1).tmod 51 = (M : Int) := by rw [Int.tmod_eq_emod_of_nonneg (by omega)]; exact hM
    have HR : Hid (rndS n = (pw 27 2 M).toNat) := by unfold rndS; rw [if_neg h1, hM]; rfl
    have HC : Hid (∀ k w, Calls Try.prog 48 #[.int .u8 ((pw 27 2 k).toNat : Int), .int .u8 2] w fun e w' => e = .returned (.int .u8 ((pw 27 2 (k + 1)).toNat : Int)) ∧ w' = w) := fun k w => gmul_any (pw 27 2 k) 2 w
    generalize rndS n = R at *
    clear hM
    go_enter Try.func21, Try.ntmps21
    go_wp2_with fail
    go_loopw [3, 9] (fun x i wr => ∃ k : Nat, k ≤ M ∧ i = .int .i64 k ∧ x = .int .u8 ((pw 27 2 k).toNat : Int) ∧ wr = w) (fun _ i _ => M - (intOf i).toNat)
    case atStart => exact ⟨0, Nat.zero_le _, rfl, rfl, rfl⟩
    case round =>
      obtain ⟨k, hk, rfl, rfl, rfl⟩ := hrel
      by_cases hlt : k < M
      · have hlti : (k : Int) < M := by omega
        have HCk := hidD (HC.out k)
        generalize hx : ((pw 27 2 (k + 1)).toNat : Int) = X at *
        have HX := hidD hx
        clear hx
        generalize ((pw 27 2 k).toNat : Int) = Y at *
        go_wp2_with (go_at_call 48; refine (HCk.out _).mono ?_; rintro e w3 ⟨rfl, hb3⟩)
        go_roundw
        case rel => exact ⟨k + 1, by omega, by go_num, by rw [HX.out], by first | trivial | exact hb3⟩
        case measure => simp [intOf]; omega
      · obtain rfl : k = M := by omega
        rw [← HR.out]
        go_wp2_with fail
        go_ret
        exact ⟨rfl, rfl⟩
theorem pRound_any (n : Int) (hn : n < 9223372036854775808) (w : World) : Calls Try.prog 21 #[.int .i64 n] w fun e w' => e = .returned (.int .u8 (rndS n : Int)) ∧ Below w.heap.size w w' := (pRound_same n hn w).mono fun e w' ⟨h1, h2⟩ => ⟨h1, by rw [h2]; exact Below.refl _ _⟩
end Go.Proofs.Ytdbledfpphkppaa
