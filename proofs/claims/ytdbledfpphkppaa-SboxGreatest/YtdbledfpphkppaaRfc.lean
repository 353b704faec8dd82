/- What Carry, times, Irreducible and Order of the document answer. -/
import Derived.Test.YtdbledfpphkppaaCry
namespace Go.Proofs.Ytdbledfpphkppaa
open Go.RowKit
set_option linter.unusedVariables false

theorem shl_nat {A k : Nat} (hA : A < 512) (hk : k ≤ 7) : A * 2 ^ k < 65536 := by
  have : 2 ^ k ≤ 2 ^ 7 := Nat.pow_le_pow_right (by omega) hk
  calc A * 2 ^ k ≤ A * 2 ^ 7 := Nat.mul_le_mul_left _ this
    _ < 65536 := by omega
theorem shl_i64 {A k : Nat} (hA : A < 512) (hk : k ≤ 7) : IntKind.i64.wrap ((A : Int) * 2 ^ k) = ((A * 2 ^ k : Nat) : Int) := by
  have h := shl_nat hA hk
  rw [IntKind.wrap_i64, show (A : Int) * 2 ^ k = ((A * 2 ^ k : Nat) : Int) by simp]
  omega

set_option maxRecDepth 100000 in
set_option maxHeartbeats 400000 in
theorem refCarry_in (P a b : UInt8) (Q : Int) (hQ : Q = 256 + (P.toNat : Int)) (w : World) : Calls Try.prog 49 #[.int .u8 (a.toNat : Int), .int .u8 (b.toNat : Int), .int .i64 Q] w fun e w' => e = .returned (.int .u8 ((bm P a b).toNat : Int)) ∧ w' = w := by
  have hP := u8_lt P
  have ha := u8_lt a
  have hb := u8_lt b
  have HR : Hid ((bm P a b).toNat = redTo (256 + P.toNat) (prodTo a.toNat b.toNat 8) 7) := (red_prod P a b).symm
  generalize (bm P a b).toNat = R at *
  generalize a.toNat = A at *
  generalize b.toNat = B at *
  generalize P.toNat = p at *
  have HP := hidD hP
  have HQ := hidD hQ
  have hq1 : 256 ≤ Q := by omega
  have hq2 : Q ≤ 511 := by omega
  clear hQ hP
  go_enter Try.func49, Try.ntmps49
  go_wp2_with fail
  go_loopw [7, 8] (fun t i wr => ∃ k : Nat, k ≤ 8 ∧ i = .int .i64 k ∧ t = .int .i64 ((prodTo A B k : Nat) : Int) ∧ wr = w) (fun _ i _ => 8 - (intOf i).toNat)
  case atStart => exact ⟨0, Nat.zero_le _, rfl, rfl, rfl⟩
  case round =>
    obtain ⟨k, hk, rfl, rfl, rfl⟩ := hrel
    by_cases hlt : k < 8
    · have hlti : (k : Int) < 8 := by omega
      have hbit := bit_u8 k hb
      have hT := prod_lt ha (b := B) k hk
      have hsh := shl_i64 (A := A) (k := k) (by omega) (by omega)
      have hX : bits .xor .i64 (prodTo A B k : Nat) (A * 2 ^ k : Nat) = _ := i64_xor_nat _ _ (by omega) (by have := shl_nat (A := A) (k := k) (by omega) (by omega); omega)
      have HS : Hid (prodTo A B (k + 1) = prodTo A B k ^^^ sel (B.testBit k) (A * 2 ^ k)) := rfl
      generalize A * 2 ^ k = Y at *
      generalize prodTo A B k = T at *
      generalize B.testBit k = c at *
      cases c
      · go_wp2_with fail
        go_roundw
        case rel => exact ⟨k + 1, by omega, by go_num, by rw [HS.out]; simp [sel], trivial⟩
        case measure => simp [intOf]; omega
      · go_wp2_with fail
        go_roundw
        case rel => exact ⟨k + 1, by omega, by go_num, by rw [HS.out]; simp [sel], trivial⟩
        case measure => simp [intOf]; omega
    · obtain rfl : k = 8 := by omega
      have hp := prod_lt ha (b := B) 8 (Nat.le_refl _)
      generalize prodTo A B 8 = N at *
      go_wp2_with fail
      go_loopw [7, 9] (fun t i wz => ∃ k : Nat, k ≤ 7 ∧ i = .int .i64 ((14 : Int) - k) ∧ t = .int .i64 ((redTo (256 + p) N k : Nat) : Int) ∧ wz = wr) (fun _ i _ => (intOf i).toNat)
      case atStart => exact ⟨0, Nat.zero_le _, rfl, rfl, rfl⟩
      case round =>
        obtain ⟨k, hk, rfl, rfl, rfl⟩ := hrel
        by_cases hlt : k < 7
        · have hlti : (8 : Int) ≤ 14 - (k : Int) := by omega
          have hd : (14 : Int) - k = ((14 - k : Nat) : Int) := by omega
          have hd8 : ((14 - k : Nat) : Int) - 8 = ((6 - k : Nat) : Int) := by omega
          have hT := Nat.lt_of_lt_of_le (red_lt HP.out hp k hk) (Nat.pow_le_pow_right (n := 2) (by omega) (show 15 - k ≤ 15 by omega))
          have hbit := bit_i64 (v := redTo (256 + p) N k) (14 - k) (by omega)
          have hP := HP.out
          have hsh : IntKind.i64.wrap (Q * 2 ^ (6 - k)) = (((256 + p) * 2 ^ (6 - k) : Nat) : Int) := by
            rw [HQ.out, ← shl_i64 (A := 256 + p) (k := 6 - k) (by omega) (by omega)]; simp
          have hX : bits .xor .i64 (redTo (256 + p) N k : Nat) ((256 + p) * 2 ^ (6 - k) : Nat) = _ := i64_xor_nat _ _ (by omega) (by have := shl_nat (A := 256 + p) (k := 6 - k) (by omega) (by omega); omega)
          have HS : Hid (redTo (256 + p) N (k + 1) = redTo (256 + p) N k ^^^ sel ((redTo (256 + p) N k).testBit (14 - k)) ((256 + p) * 2 ^ (6 - k))) := rfl
          have HK1 : Hid ((14 : Int) - k - 1 = 14 - ((k + 1 : Nat) : Int)) := by show _ = _; omega
          have HM : Hid ((14 : Int) - k = ((14 - k : Nat) : Int)) := hd
          have hs1 : 14 - k ≤ 14 := by omega
          have hs2 : 6 - k ≤ 6 := by omega
          generalize (256 + p) * 2 ^ (6 - k) = Y at *
          generalize redTo (256 + p) N k = T at *
          generalize 6 - k = d6 at *
          generalize hs : 14 - k = d at *
          generalize T.testBit d = c at *
          have HD := hidD hs
          clear hs hP
          cases c
          · go_wp2_with fail
            go_roundw
            case rel => exact ⟨k + 1, by omega, by congr 1 <;> omega, by rw [HS.out]; simp [sel], trivial⟩
            case measure => simp [intOf]; omega
          · go_wp2_with fail
            go_roundw
            case rel => exact ⟨k + 1, by omega, by congr 1 <;> omega, by rw [HS.out]; simp [sel], trivial⟩
            case measure => simp [intOf]; omega
        · obtain rfl : k = 7 := by omega
          have hT := red_lt HP.out hp 7 (Nat.le_refl _)
          generalize redTo (256 + p) N 7 = T at *
          go_wp2_with fail
          go_ret
          exact ⟨by rw [HR.out]; rfl, rfl⟩
set_option maxRecDepth 100000 in
set_option maxHeartbeats 400000 in
theorem refCarry_out (Q : Int) (h : ¬ (256 ≤ Q ∧ Q ≤ 511)) (a b : UInt8) (w : World) : Calls Try.prog 49 #[.int .u8 (a.toNat : Int), .int .u8 (b.toNat : Int), .int .i64 Q] w fun e w' => e = .returned (.int .u8 0) ∧ w' = w := by
  by_cases h1 : 256 ≤ Q
  · have h2 : ¬ Q ≤ 511 := fun h2 => h ⟨h1, h2⟩
    clear h
    go_enter Try.func49, Try.ntmps49
    go_wp2_with fail
    go_ret
    exact ⟨rfl, rfl⟩
  · clear h
    go_enter Try.func49, Try.ntmps49
    go_wp2_with fail
    go_ret
    exact ⟨rfl, rfl⟩

theorem irrR_false {p a b : Nat} (ha : a < 30) (hb : b < 254) (h : prodTo (b + 2) (a + 2) 8 = p) : irrR p = false := by
  rw [irrR, List.all_eq_false]
  refine ⟨a, List.mem_range.mpr ha, ?_⟩
  rw [Bool.not_eq_true, List.all_eq_false]
  exact ⟨b, List.mem_range.mpr hb, by simp [h]⟩
theorem irrR_true {p : Nat} (h : ∀ a, a < 30 → ∀ b, b < 254 → prodTo (b + 2) (a + 2) 8 ≠ p) : irrR p = true := by
  rw [irrR, List.all_eq_true]
  intro a ha
  rw [List.all_eq_true]
  intro b hb
  simpa using h a (List.mem_range.mp ha) b (List.mem_range.mp hb)
end Go.Proofs.Ytdbledfpphkppaa
