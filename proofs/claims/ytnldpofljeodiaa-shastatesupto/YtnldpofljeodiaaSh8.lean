/- What wordAt answers. -/
import Derived.Test.YtnldpofljeodiaaSh7
namespace Go.Proofs.Ytnldpofljeodiaa
open Go.RowKit
set_option linter.unusedVariables false

theorem run_slice22lh (g o i j len cap : Nat) (hij : i ≤ j) (hj : j ≤ cap) (hc : i < cap) (w : World) : (Instr.slice 22 (.slice (some ⟨g, o, none⟩) len cap) (some (.int .i64 (i : Int))) (some (.int .i64 (j : Int))) none).run Try.prog w = .ok (.slice (some ⟨g, o + i, none⟩) (j - i) (cap - i)) w := by
  have hu : Try.prog.underlying 22 = some (.slice (Try.prog.elem 22)) := by kernel_rfl
  have he : Try.prog.elem 22 = 5 := by kernel_rfl
  obtain ⟨i0, hin, _, hz1, _⟩ := info_parts Try.info5
  rw [run_slice_lh w 22 _ len cap hu .i64 .i64 (i : Int) (j : Int) (by omega) (by omega) (by omega), he, run_sizeOf w hin, Result.andThen_ok]
  simp only [sliced, Int.toNat_natCast]
  rw [show Try.prog.cellsOf 5 = 1 by kernel_rfl, Nat.mul_one]
  simp [show ¬ cap = i by omega, Addr.add_mid]
theorem run_sliceAt22lh (g o i j len cap : Nat) (hij : i ≤ j) (hj : j ≤ cap) (hc : i < cap) (w : World) : (Instr.sliceAt 22 (.slice (some ⟨g, o, none⟩) len cap) (some (.int .i64 (i : Int))) (some (.int .i64 (j : Int))) none).run Try.prog w = .ok (.slice (some ⟨g, o + i, none⟩) (j - i) (cap - i)) w := by
  rw [run_sliceAt_slice w 22 _ _ _ _ (by kernel_rfl)]
  exact run_slice22lh g o i j len cap hij hj hc w
/- the word of bytes, the highest first -/
def beTo (b : Nat → UInt8) (o : Nat) : Nat → Nat
  | 0 => 0
  | k + 1 => beTo b o k * 256 ||| (b (o + k)).toNat
theorem beTo_lt (b : Nat → UInt8) (o : Nat) : ∀ k, beTo b o k < 2 ^ (8 * k)
  | 0 => by show 0 < 1; omega
  | k + 1 => by
    have h := beTo_lt b o k
    have h2 : (b (o + k)).toNat < 256 := UInt8.toNat_lt _
    unfold beTo
    refine Nat.or_lt_two_pow ?_ (Nat.lt_of_lt_of_le h2 (show 2 ^ 8 ≤ 2 ^ (8 * (k + 1)) from Nat.pow_le_pow_right (by omega) (by omega)))
    rw [show 8 * (k + 1) = 8 * k + 8 by omega, Nat.pow_add]
    exact Nat.mul_lt_mul_of_pos_right h (by omega)

set_option maxRecDepth 100000 in
set_option maxHeartbeats 800000 in
theorem wordN_any (b : Nat → UInt8) (g0 off len cap i : Nat) (hi : (i + 1) * 4 ≤ len) (hlc : len ≤ cap) (hcm : cap < 4611686018427387904) (w : World) (hg : g0 < w.heap.size) (hc : ∀ k, k < len → w.cell? ⟨g0, off + k, none⟩ = some (.int .u8 ((b k).toNat : Int))) : Calls Try.prog 84 #[.slice (some ⟨g0, off, none⟩) len cap, .int .i64 (i : Int), .agg shN] w fun e w' => e = .returned (.int .u32 (beTo b (i * 4) 4 : Int)) ∧ Below w.heap.size w w' := by
  have HR : Hid ((w.alloc (.cells shN (96 : TypeId))).heap[w.heap.size]? = some (.cells shN (96 : TypeId) (0, 0))) := heap_alloc_last _ _
  have HB : Hid (Below w.heap.size w (w.alloc (.cells shN (96 : TypeId)))) := (Below.refl _ _).alloc (Nat.le_refl _) _
  have HQ0 : Hid (shN[0]? = some (.int .i64 32)) := hidD rfl
  have HC : Hid (∀ k, k < 4 → (w.alloc (.cells shN (96 : TypeId))).cell? ⟨g0, off + i * 4 + k, none⟩ = some (.int .u8 ((b (i * 4 + k)).toNat : Int))) := fun k hk => by
    have h := hc (i * 4 + k) (by omega)
    rw [← Nat.add_assoc] at h
    exact (HB.out.cell (p := ⟨g0, off + i * 4 + k, none⟩) hg).trans h
  have hm1 : (i : Int) * 4 = ((i * 4 : Nat) : Int) := by omega
  have hm2 : ((i : Int) + 1) * 4 = ((i * 4 + 4 : Nat) : Int) := by omega
  have hsl := fun w => run_slice22lh g0 off (i * 4) (i * 4 + 4) len cap (by omega) (by omega) (by omega) w
  have hsa := fun w => run_sliceAt22lh g0 off (i * 4) (i * 4 + 4) len cap (by omega) (by omega) (by omega) w
  have hd : i * 4 + 4 - i * 4 = 4 := by omega
  rw [hd] at hsl hsa
  have hil : i < 4611686018427387904 := by omega
  have hin2 : i * 4 + 4 < 4611686018427387904 := by omega
  have hin1 : i * 4 < 4611686018427387904 := by omega
  clear hc hg hi hlc hd
  generalize shN = SH at *
  generalize hin : i * 4 + 4 = I2 at *
  generalize i * 4 = I1 at *
  clear hin
  go_enter Try.func84, Try.ntmps84
  generalize hW : w.alloc (.cells SH (96 : TypeId)) = W at *
  have c0 : W.cell? ⟨w.heap.size, 0, none⟩ = some (.int .i64 32) := by rw [cell_of_row _ _ _ _ _ _ HR.out]; exact HQ0.out
  go_wp2_with fail
  go_loopw [7, 24] (fun xv kv wr => ∃ k : Nat, k ≤ 4 ∧ kv = .int .i64 (k : Int) ∧ xv = .int .u32 (beTo b I1 k : Int) ∧ wr = W) (fun _ kv _ => 4 - (intOf kv).toNat)
  case atStart => exact ⟨0, by omega, rfl, rfl, rfl⟩
  case round =>
    obtain ⟨k, hk, rfl, rfl, hwr⟩ := hrel
    subst hwr
    by_cases hlt : k < 4
    · have hlti : (k : Int) < 4 := by omega
      have hcc := HC.out k hlt
      have hX : beTo b I1 k < 16777216 := Nat.lt_of_lt_of_le (beTo_lt b I1 k) (show 2 ^ (8 * k) ≤ 2 ^ 24 from Nat.pow_le_pow_right (by omega) (by omega))
      have hY : (b (I1 + k)).toNat < 256 := UInt8.toNat_lt _
      have HNX : Hid (beTo b I1 (k + 1) = beTo b I1 k * 256 ||| (b (I1 + k)).toNat) := rfl
      have hor : bits .or .u32 ((beTo b I1 k : Int) * 256) ((b (I1 + k)).toNat : Int) = ((beTo b I1 k * 256 ||| (b (I1 + k)).toNat : Nat) : Int) := by
        rw [show (beTo b I1 k : Int) * 256 = ((beTo b I1 k * 256 : Nat) : Int) by simp]; exact u32_or_nat _ _ (by omega) (by omega)
      have hwr : IntKind.u32.wrap ((beTo b I1 k : Int) * 256) = (beTo b I1 k : Int) * 256 := by rw [IntKind.wrap_u32]; omega
      generalize beTo b I1 k * 256 ||| (b (I1 + k)).toNat = Z at *
      generalize beTo b I1 k = X at *
      generalize (b (I1 + k)).toNat = Y at *
      go_wp2_with fail
      go_roundw
      case rel =>
        first
        | exact ⟨k + 1, by omega, by go_num, by rw [HNX.out], by first | rfl | trivial⟩
        | ((repeat apply Exists.intro); refine And.intro ?_ rfl; exact ⟨k + 1, by omega, by go_num, by rw [HNX.out], by first | rfl | trivial⟩)
      case measure => simp [intOf]; omega
    · obtain rfl : k = 4 := by omega
      generalize hXE : beTo b I1 4 = X at *
      have HXE := hidD hXE
      clear hXE
      go_wp2_with fail
      go_ret
      exact ⟨by rw [HXE.out]; rfl, HB.out⟩

set_option maxRecDepth 100000 in
set_option maxHeartbeats 800000 in
theorem wordW_any (b : Nat → UInt8) (g0 off len cap i : Nat) (hi : (i + 1) * 8 ≤ len) (hlc : len ≤ cap) (hcm : cap < 4611686018427387904) (w : World) (hg : g0 < w.heap.size) (hc : ∀ k, k < len → w.cell? ⟨g0, off + k, none⟩ = some (.int .u8 ((b k).toNat : Int))) : Calls Try.prog 46 #[.slice (some ⟨g0, off, none⟩) len cap, .int .i64 (i : Int), .agg shW] w fun e w' => e = .returned (.int .u64 (beTo b (i * 8) 8 : Int)) ∧ Below w.heap.size w w' := by
  have HR : Hid ((w.alloc (.cells shW (96 : TypeId))).heap[w.heap.size]? = some (.cells shW (96 : TypeId) (0, 0))) := heap_alloc_last _ _
  have HB : Hid (Below w.heap.size w (w.alloc (.cells shW (96 : TypeId)))) := (Below.refl _ _).alloc (Nat.le_refl _) _
  have HQ0 : Hid (shW[0]? = some (.int .i64 64)) := hidD rfl
  have HC : Hid (∀ k, k < 8 → (w.alloc (.cells shW (96 : TypeId))).cell? ⟨g0, off + i * 8 + k, none⟩ = some (.int .u8 ((b (i * 8 + k)).toNat : Int))) := fun k hk => by
    have h := hc (i * 8 + k) (by omega)
    rw [← Nat.add_assoc] at h
    exact (HB.out.cell (p := ⟨g0, off + i * 8 + k, none⟩) hg).trans h
  have hm1 : (i : Int) * 8 = ((i * 8 : Nat) : Int) := by omega
  have hm2 : ((i : Int) + 1) * 8 = ((i * 8 + 8 : Nat) : Int) := by omega
  have hsl := fun w => run_slice22lh g0 off (i * 8) (i * 8 + 8) len cap (by omega) (by omega) (by omega) w
  have hsa := fun w => run_sliceAt22lh g0 off (i * 8) (i * 8 + 8) len cap (by omega) (by omega) (by omega) w
  have hd : i * 8 + 8 - i * 8 = 8 := by omega
  rw [hd] at hsl hsa
  have hil : i < 4611686018427387904 := by omega
  have hin2 : i * 8 + 8 < 4611686018427387904 := by omega
  have hin1 : i * 8 < 4611686018427387904 := by omega
  clear hc hg hi hlc hd
  generalize shW = SH at *
  generalize hin : i * 8 + 8 = I2 at *
  generalize i * 8 = I1 at *
  clear hin
  go_enter Try.func46, Try.ntmps46
  generalize hW : w.alloc (.cells SH (96 : TypeId)) = W at *
  have c0 : W.cell? ⟨w.heap.size, 0, none⟩ = some (.int .i64 64) := by rw [cell_of_row _ _ _ _ _ _ HR.out]; exact HQ0.out
  go_wp2_with fail
  go_loopw [7, 24] (fun xv kv wr => ∃ k : Nat, k ≤ 8 ∧ kv = .int .i64 (k : Int) ∧ xv = .int .u64 (beTo b I1 k : Int) ∧ wr = W) (fun _ kv _ => 8 - (intOf kv).toNat)
  case atStart => exact ⟨0, by omega, rfl, rfl, rfl⟩
  case round =>
    obtain ⟨k, hk, rfl, rfl, hwr⟩ := hrel
    subst hwr
    by_cases hlt : k < 8
    · have hlti : (k : Int) < 8 := by omega
      have hcc := HC.out k hlt
      have hX : beTo b I1 k < 72057594037927936 := Nat.lt_of_lt_of_le (beTo_lt b I1 k) (show 2 ^ (8 * k) ≤ 2 ^ 56 from Nat.pow_le_pow_right (by omega) (by omega))
      have hY : (b (I1 + k)).toNat < 256 := UInt8.toNat_lt _
      have HNX : Hid (beTo b I1 (k + 1) = beTo b I1 k * 256 ||| (b (I1 + k)).toNat) := rfl
      have hor : bits .or .u64 ((beTo b I1 k : Int) * 256) ((b (I1 + k)).toNat : Int) = ((beTo b I1 k * 256 ||| (b (I1 + k)).toNat : Nat) : Int) := by
        rw [show (beTo b I1 k : Int) * 256 = ((beTo b I1 k * 256 : Nat) : Int) by simp]; exact u64_or_nat _ _ (by omega) (by omega)
      have hwr : IntKind.u64.wrap ((beTo b I1 k : Int) * 256) = (beTo b I1 k : Int) * 256 := by rw [IntKind.wrap_u64]; omega
      generalize beTo b I1 k * 256 ||| (b (I1 + k)).toNat = Z at *
      generalize beTo b I1 k = X at *
      generalize (b (I1 + k)).toNat = Y at *
      go_wp2_with fail
      go_roundw
      case rel =>
        first
        | exact ⟨k + 1, by omega, by go_num, by rw [HNX.out], by first | rfl | trivial⟩
        | ((repeat apply Exists.intro); refine And.intro ?_ rfl; exact ⟨k + 1, by omega, by go_num, by rw [HNX.out], by first | rfl | trivial⟩)
      case measure => simp [intOf]; omega
    · obtain rfl : k = 8 := by omega
      generalize hXE : beTo b I1 8 = X at *
      have HXE := hidD hXE
      clear hXE
      go_wp2_with fail
      go_ret
      exact ⟨by rw [HXE.out]; rfl, HB.out⟩

set_option maxRecDepth 100000 in
set_option maxHeartbeats 800000 in
theorem wordR_any (b : Nat → UInt8) (g0 off len cap i : Nat) (hi : (i + 1) * 4 ≤ len) (hlc : len ≤ cap) (hcm : cap < 4611686018427387904) (w : World) (hg : g0 < w.heap.size) (hc : ∀ k, k < len → w.cell? ⟨g0, off + k, none⟩ = some (.int .u8 ((b k).toNat : Int))) : Calls Try.prog 46 #[.slice (some ⟨g0, off, none⟩) len cap, .int .i64 (i : Int), .agg shN] w fun e w' => e = .returned (.int .u64 (beTo b (i * 4) 4 : Int)) ∧ Below w.heap.size w w' := by
  have HR : Hid ((w.alloc (.cells shN (96 : TypeId))).heap[w.heap.size]? = some (.cells shN (96 : TypeId) (0, 0))) := heap_alloc_last _ _
  have HB : Hid (Below w.heap.size w (w.alloc (.cells shN (96 : TypeId)))) := (Below.refl _ _).alloc (Nat.le_refl _) _
  have HQ0 : Hid (shN[0]? = some (.int .i64 32)) := hidD rfl
  have HC : Hid (∀ k, k < 4 → (w.alloc (.cells shN (96 : TypeId))).cell? ⟨g0, off + i * 4 + k, none⟩ = some (.int .u8 ((b (i * 4 + k)).toNat : Int))) := fun k hk => by
    have h := hc (i * 4 + k) (by omega)
    rw [← Nat.add_assoc] at h
    exact (HB.out.cell (p := ⟨g0, off + i * 4 + k, none⟩) hg).trans h
  have hm1 : (i : Int) * 4 = ((i * 4 : Nat) : Int) := by omega
  have hm2 : ((i : Int) + 1) * 4 = ((i * 4 + 4 : Nat) : Int) := by omega
  have hsl := fun w => run_slice22lh g0 off (i * 4) (i * 4 + 4) len cap (by omega) (by omega) (by omega) w
  have hsa := fun w => run_sliceAt22lh g0 off (i * 4) (i * 4 + 4) len cap (by omega) (by omega) (by omega) w
  have hd : i * 4 + 4 - i * 4 = 4 := by omega
  rw [hd] at hsl hsa
  have hil : i < 4611686018427387904 := by omega
  have hin2 : i * 4 + 4 < 4611686018427387904 := by omega
  have hin1 : i * 4 < 4611686018427387904 := by omega
  clear hc hg hi hlc hd
  generalize shN = SH at *
  generalize hin : i * 4 + 4 = I2 at *
  generalize i * 4 = I1 at *
  clear hin
  go_enter Try.func46, Try.ntmps46
  generalize hW : w.alloc (.cells SH (96 : TypeId)) = W at *
  have c0 : W.cell? ⟨w.heap.size, 0, none⟩ = some (.int .i64 32) := by rw [cell_of_row _ _ _ _ _ _ HR.out]; exact HQ0.out
  go_wp2_with fail
  go_loopw [7, 24] (fun xv kv wr => ∃ k : Nat, k ≤ 4 ∧ kv = .int .i64 (k : Int) ∧ xv = .int .u64 (beTo b I1 k : Int) ∧ wr = W) (fun _ kv _ => 4 - (intOf kv).toNat)
  case atStart => exact ⟨0, by omega, rfl, rfl, rfl⟩
  case round =>
    obtain ⟨k, hk, rfl, rfl, hwr⟩ := hrel
    subst hwr
    by_cases hlt : k < 4
    · have hlti : (k : Int) < 4 := by omega
      have hcc := HC.out k hlt
      have hX : beTo b I1 k < 16777216 := Nat.lt_of_lt_of_le (beTo_lt b I1 k) (show 2 ^ (8 * k) ≤ 2 ^ 24 from Nat.pow_le_pow_right (by omega) (by omega))
      have hY : (b (I1 + k)).toNat < 256 := UInt8.toNat_lt _
      have HNX : Hid (beTo b I1 (k + 1) = beTo b I1 k * 256 ||| (b (I1 + k)).toNat) := rfl
      have hor : bits .or .u64 ((beTo b I1 k : Int) * 256) ((b (I1 + k)).toNat : Int) = ((beTo b I1 k * 256 ||| (b (I1 + k)).toNat : Nat) : Int) := by
        rw [show (beTo b I1 k : Int) * 256 = ((beTo b I1 k * 256 : Nat) : Int) by simp]; exact u64_or_nat _ _ (by omega) (by omega)
      have hwr : IntKind.u64.wrap ((beTo b I1 k : Int) * 256) = (beTo b I1 k : Int) * 256 := by rw [IntKind.wrap_u64]; omega
      generalize beTo b I1 k * 256 ||| (b (I1 + k)).toNat = Z at *
      generalize beTo b I1 k = X at *
      generalize (b (I1 + k)).toNat = Y at *
      go_wp2_with fail
      go_roundw
      case rel =>
        first
        | exact ⟨k + 1, by omega, by go_num, by rw [HNX.out], by first | rfl | trivial⟩
        | ((repeat apply Exists.intro); refine And.intro ?_ rfl; exact ⟨k + 1, by omega, by go_num, by rw [HNX.out], by first | rfl | trivial⟩)
      case measure => simp [intOf]; omega
    · obtain rfl : k = 4 := by omega
      generalize hXE : beTo b I1 4 = X at *
      have HXE := hidD hXE
      clear hXE
      go_wp2_with fail
      go_ret
      exact ⟨by rw [HXE.out]; rfl, HB.out⟩
end Go.Proofs.Ytnldpofljeodiaa
