/- What the small calls answer: halves of bytes, digits. -/
import Derived.Test.YtgbjoblojkmdnaaAla
namespace Go.Proofs.Ytgbjoblojkmdnaa
open Go.RowKit
set_option linter.unusedVariables false

set_option maxRecDepth 100000 in
theorem gather_any (v m : Nat) (hv : v < 256) (hm : m < 256) : W1 20 #[.int .u32 (v : Int), .int .u32 (m : Int)] (.int .u32 ((gaTo v m 32).1 : Int)) := by
  intro w
  go_enter Try.func20, Try.ntmps20
  go_wp2_with fail
  go_loopw [5, 6, 8] (fun g n i wr => ∃ k : Nat, k ≤ 32 ∧ i = .int .i64 k ∧ g = .int .u32 ((gaTo v m k).1 : Int) ∧ n = .int .i64 ((gaTo v m k).2 : Int) ∧ wr = w) (fun _ _ i _ => 32 - (intOf i).toNat)
  case atStart => exact ⟨0, Nat.zero_le _, rfl, rfl, rfl, rfl⟩
  case round =>
    obtain ⟨k, hk, rfl, rfl, rfl, rfl⟩ := hrel
    by_cases hlt : k < 32
    · have hl := ga_le v m hm k (by omega)
      have hlti : (k : Int) < 32 := by omega
      have hbv := bit_u32 (v := v) k (by omega)
      have hbm := bit_u32 (v := m) k (by omega)
      have HS := hidD (show gaTo v m (k + 1) = if m.testBit k then ((gaTo v m k).1 ||| (v.testBit k).toNat * 2 ^ (gaTo v m k).2, (gaTo v m k).2 + 1) else gaTo v m k from rfl)
      generalize gaTo v m k = T at *
      obtain ⟨G, N⟩ := T
      simp only [] at hl HS
      have hP : 2 ^ N ≤ 256 := Nat.pow_le_pow_right (n := 2) (by decide) hl.1
      have ho : bits .or .u32 (G : Int) ((2 ^ N : Nat) : Int) = ((G ||| 2 ^ N : Nat) : Int) := u32_or_nat _ _ (by omega) (by omega)
      have hpm : (2 : Int) ^ N % 4294967296 = ((2 ^ N : Nat) : Int) := by
        have h1 : ((2 ^ N : Nat) : Int) = (2 : Int) ^ N := by simp
        rw [← h1]; clear h1; generalize 2 ^ N = P at *; omega
      have ho2 : bits .or .u32 (G : Int) ((2 : Int) ^ N) = ((G ||| 2 ^ N : Nat) : Int) := by
        have h1 : ((2 ^ N : Nat) : Int) = (2 : Int) ^ N := by simp
        rw [← h1]; exact ho
      have hz : bits .or .u32 (G : Int) 0 = ((G : Nat) : Int) := by have := u32_or_nat G 0 (by omega) (by omega); rw [Nat.or_zero] at this; exact this
      generalize m.testBit k = bm at *
      generalize v.testBit k = bv at *
      cases bm
      · go_wp2_with fail
        go_roundw
        case rel => exact ⟨k + 1, by omega, by go_num, by rw [HS.out]; simp, by rw [HS.out]; simp, trivial⟩
        case measure => simp [intOf]; omega
      · cases bv
        · go_wp2_with fail
          go_roundw
          case rel => exact ⟨k + 1, by omega, by go_num, by rw [HS.out]; simp, by rw [HS.out]; simp, trivial⟩
          case measure => simp [intOf]; omega
        · go_wp2_with fail
          go_roundw
          case rel => exact ⟨k + 1, by omega, by go_num, by rw [HS.out]; first | (simp; done) | (simp; first | rw [hpm, ho] | rw [ho2]), by rw [HS.out]; simp, trivial⟩
          case measure => simp [intOf]; omega
    · obtain rfl : k = 32 := by omega
      go_wp2_with fail
      go_ret
      exact ⟨rfl, rfl⟩

set_option maxRecDepth 100000 in
theorem low_any (v : Nat) (hv : v < 256) : W1 13 #[.int .u8 (v : Int)] (.int .i64 ((v % 16 : Nat) : Int)) := by
  intro w
  have H : Hid (W1 20 #[.int .u32 (v : Int), .int .u32 15] (.int .u32 ((v % 16 : Nat) : Int))) := by rw [← ga_low v hv]; exact gather_any v 15 hv (by decide)
  have hl : v % 16 < 16 := Nat.mod_lt _ (by decide)
  generalize v % 16 = r at *
  go_enter Try.func13, Try.ntmps13
  go_wp2_with (go_at_call 20; refine (H.out _).mono ?_; rintro e w2 ⟨rfl, rfl⟩)
  go_ret
  exact ⟨rfl, rfl⟩

set_option maxRecDepth 100000 in
theorem high_any (v : Nat) (hv : v < 256) : W1 11 #[.int .u8 (v : Int)] (.int .i64 ((v / 16 * 16 : Nat) : Int)) := by
  intro w
  have H : Hid (W1 20 #[.int .u32 (v : Int), .int .u32 240] (.int .u32 ((v / 16 : Nat) : Int))) := by rw [← ga_high v hv]; exact gather_any v 240 hv (by decide)
  have hl : v / 16 < 16 := by omega
  generalize v / 16 = r at *
  go_enter Try.func11, Try.ntmps11
  go_wp2_with (go_at_call 20; refine (H.out _).mono ?_; rintro e w2 ⟨rfl, rfl⟩)
  go_ret
  exact ⟨by first | rfl | simp, rfl⟩

set_option maxRecDepth 100000 in
theorem digit_any (l : Nat) (hl : l < 100) : W1 12 #[.int .i64 (l : Int)] (.int .i64 (dig l : Int)) := by
  intro w
  unfold dig
  by_cases h : l ≤ 9
  · have hi : (l : Int) ≤ 9 := by omega
    rw [if_pos h]
    go_enter Try.func12, Try.ntmps12
    go_wp2_with fail
    go_ret
    exact ⟨rfl, rfl⟩
  · have hi : ¬ (l : Int) ≤ 9 := by omega
    rw [if_neg h]
    go_enter Try.func12, Try.ntmps12
    go_wp2_with fail
    go_ret
    exact ⟨by first | rfl | (congr 2; omega), rfl⟩

set_option maxRecDepth 100000 in
theorem borrowed_any (l : Int) (h1 : -16 ≤ l) (h2 : l < 16) : W1 17 #[.int .i64 l] (.int .i64 (bor l)) := by
  intro w
  unfold bor
  by_cases h : 0 ≤ l
  · rw [if_pos h]
    go_enter Try.func17, Try.ntmps17
    go_wp2_with fail
    go_ret
    exact ⟨rfl, rfl⟩
  · rw [if_neg h]
    go_enter Try.func17, Try.ntmps17
    go_wp2_with fail
    go_ret
    exact ⟨by first | rfl | (congr 2; omega), rfl⟩

end Go.Proofs.Ytgbjoblojkmdnaa
