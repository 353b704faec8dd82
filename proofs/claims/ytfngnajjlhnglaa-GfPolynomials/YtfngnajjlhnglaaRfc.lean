/- What Carry, times, Irreducible and Order of the document answer. -/
import Derived.Test.YtfngnajjlhnglaaCry
namespace Go.Proofs.Ytfngnajjlhnglaa
open Go.RowKit
set_option linter.unusedVariables false

theorem shl_nat {A k : Nat} (hA : A < 512) (hk : k ≤ 7) : A * 2 ^ k < 65536 := by
  have : 2 ^ k ≤ 2 ^ 7 := Nat.pow_le_pow_right (by omega) hk
  calc A * 2 ^ k ≤ A * 2 ^ 7 := Nat.mul_le_mul_left _ this
    _ < 65536 := by omega
theorem shl_i64 {A k : Nat} (hA : A < 512) (hk : k ≤ 7) : IntKind.i64.wrap ((A : Int) * 2 ^ k) = ((A * 2 ^ k : Nat) : Int) := by
  have h := shl_nat hA hk
  rw [IntKind.wrap_i64, show (A : Int) * 2 ^ k = ((A * 2 ^ k : Nat) : Int) by simp]
  omega

set_option maxRecDepth 100000 in
set_option maxHeartbeats 400000 in
theorem refCarry_in (P a b : UInt8) (Q : Int) (hQ : Q = 256 + (P.toNat : Int)) (w : World) : Calls Try.prog 10 #[.int .u8 (a.toNat : Int), .int .u8 (b.toNat : Int), .int .i64 Q] w fun e w' => e = .returned (.int .u8 ((bm P a b).toNat : Int)) ∧ w' = w := by
  have hP := u8_lt P
  have ha := u8_lt a
  have hb := u8_lt b
  have HR : Hid ((bm P a b).toNat = redTo (256 + P.toNat) (prodTo a.toNat b.toNat 8) 7) := (red_prod P a b).symm
  generalize (bm P a b).toNat = R at *
  generalize a.toNat = A at *
  generalize b.toNat = B at *
  generalize P.toNat = p at *
  have HP := hidD hP
  have HQ := hidD hQ
  have hq1 : 256 ≤ Q := by omega
  have hq2 : Q ≤ 511 := by omega
  clear hQ hP
  go_enter Try.func10, Try.ntmps10
  go_wp2_with fail
  go_loopw [7, 8] (fun t i wr => ∃ k : Nat, k ≤ 8 ∧ i = .int .i64 k ∧ t = .int .i64 ((prodTo A B k : Nat) : Int) ∧ wr = w) (fun _ i _ => 8 - (intOf i).toNat)
  case atStart => exact ⟨0, Nat.zero_le _, rfl, rfl, rfl⟩
  case round =>
    obtain ⟨k, hk, rfl, rfl, rfl⟩ := hrel
    by_cases hlt : k < 8
    · have hlti : (k : Int) < 8 := by omega
      have hbit := bit_u8 k hb
      have hT := prod_lt ha (b := B) k hk
      have hsh := shl_i64 (A := A) (k := k) (by omega) (by omega)
      have hX : bits .xor .i64 (prodTo A B k : Nat) (A * 2 ^ k : Nat) = _ := i64_xor_nat _ _ (by omega) (by have := shl_nat (A := A) (k := k) (by omega) (by omega); omega)
      have HS : Hid (prodTo A B (k + 1) = prodTo A B k ^^^ sel (B.testBit k) (A * 2 ^ k)) := rfl
      generalize A * 2 ^ k = Y at *
      generalize prodTo A B k = T at *
      generalize B.testBit k = c at *
      cases c
      · go_wp2_with fail
        go_roundw
        case rel => exact ⟨k + 1, by omega, by go_num, by rw [HS.out]; simp [sel], trivial⟩
        case measure => simp [intOf]; omega
      · go_wp2_with fail
        go_roundw
        case rel => exact ⟨k + 1, by omega, by go_num, by rw [HS.out]; simp [sel], trivial⟩
        case measure => simp [intOf]; omega
    · obtain rfl : k = 8 := by omega
      have hp := prod_lt ha (b := B) 8 (Nat.le_refl _)
      generalize prodTo A B 8 = N at *
      go_wp2_with fail
      go_loopw [7, 9] (fun t i wz => ∃ k : Nat, k ≤ 7 ∧ i = .int .i64 ((14 : Int) - k) ∧ t = .int .i64 ((redTo (256 + p) N k : Nat) : Int) ∧ wz = wr) (fun _ i _ => (intOf i).toNat)
      case atStart => exact ⟨0, Nat.zero_le _, rfl, rfl, rfl⟩
      case round =>
        obtain ⟨k, hk, rfl, rfl, rfl⟩ := hrel
        by_cases hlt : k < 7
        · have hlti : (8 : Int) ≤ 14 - (k : Int) := by omega
          have hd : (14 : Int) - k = ((14 - k : Nat) : Int) := by omega
          have hd8 : ((14 - k : Nat) : Int) - 8 = ((6 - k : Nat) : Int) := by omega
          have hT := Nat.lt_of_lt_of_le (red_lt HP.out hp k hk) (Nat.pow_le_pow_right (n := 2) (by omega) (show 15 - k ≤ 15 by omega))
          have hbit := bit_i64 (v := redTo (256 + p) N k) (14 - k) (by omega)
          have hP := HP.out
          have hsh : IntKind.i64.wrap (Q * 2 ^ (6 - k)) = (((256 + p) * 2 ^ (6 - k) : Nat) : Int) := by
            rw [HQ.out, ← shl_i64 (A := 256 + p) (k := 6 - k) (by omega) (by omega)]; simp
          have hX : bits .xor .i64 (redTo (256 + p) N k : Nat) ((256 + p) * 2 ^ (6 - k) : Nat) = _ := i64_xor_nat _ _ (by omega) (by have := shl_nat (A := 256 + p) (k := 6 - k) (by omega) (by omega); omega)
          have HS : Hid (redTo (256 + p) N (k + 1) = redTo (256 + p) N k ^^^ sel ((redTo (256 + p) N k).testBit (14 - k)) ((256 + p) * 2 ^ (6 - k))) := rfl
          have HK1 : Hid ((14 : Int) - k - 1 = 14 - ((k + 1 : Nat) : Int)) := by show _ = _; omega
          have HM : Hid ((14 : Int) - k = ((14 - k : Nat) : Int)) := hd
          have hs1 : 14 - k ≤ 14 := by omega
          have hs2 : 6 - k ≤ 6 := by omega
          generalize (256 + p) * 2 ^ (6 - k) = Y at *
          generalize redTo (256 + p) N k = T at *
          generalize 6 - k = d6 at *
          generalize hs : 14 - k = d at *
          generalize T.testBit d = c at *
          have HD := hidD hs
          clear hs hP
          cases c
          · go_wp2_with fail
            go_roundw
            case rel => exact ⟨k + 1, by omega, by congr 1 <;> omega, by rw [HS.out]; simp [sel], trivial⟩
            case measure => simp [intOf]; omega
          · go_wp2_with fail
            go_roundw
            case rel => exact ⟨k + 1, by omega, by congr 1 <;> omega, by rw [HS.out]; simp [sel], trivial⟩
            case measure => simp [intOf]; omega
        · obtain rfl : k = 7 := by omega
          have hT := red_lt HP.out hp 7 (Nat.le_refl _)
          generalize redTo (256 + p) N 7 = T at *
          go_wp2_with fail
          go_ret
          exact ⟨by rw [HR.out]; rfl, rfl⟩
set_option maxRecDepth 100000 in
set_option maxHeartbeats 400000 in
theorem refCarry_out (Q : Int) (h : ¬ (256 ≤ Q ∧ Q ≤ 511)) (a b : UInt8) (w : World) : Calls Try.prog 10 #[.int .u8 (a.toNat : Int), .int .u8 (b.toNat : Int), .int .i64 Q] w fun e w' => e = .returned (.int .u8 0) ∧ w' = w := by
  by_cases h1 : 256 ≤ Q
  · have h2 : ¬ Q ≤ 511 := fun h2 => h ⟨h1, h2⟩
    clear h
    go_enter Try.func10, Try.ntmps10
    go_wp2_with fail
    go_ret
    exact ⟨rfl, rfl⟩
  · clear h
    go_enter Try.func10, Try.ntmps10
    go_wp2_with fail
    go_ret
    exact ⟨rfl, rfl⟩

set_option maxRecDepth 100000 in
set_option maxHeartbeats 400000 in
theorem refTimes_any (A B : Nat) (ha : A < 256) (hb : B < 256) (w : World) : Calls Try.prog 50 #[.int .i64 (A : Int), .int .i64 (B : Int)] w fun e w' => e = .returned (.int .i64 (prodTo A B 8 : Nat)) ∧ w' = w := by
  generalize hR : prodTo A B 8 = R
  have HR := hidD hR
  clear hR
  go_enter Try.func50, Try.ntmps50
  go_wp2_with fail
  go_loopw [5, 6] (fun t i wr => ∃ k : Nat, k ≤ 8 ∧ i = .int .i64 k ∧ t = .int .i64 ((prodTo A B k : Nat) : Int) ∧ wr = w) (fun _ i _ => 8 - (intOf i).toNat)
  case atStart => exact ⟨0, Nat.zero_le _, rfl, rfl, rfl⟩
  case round =>
    obtain ⟨k, hk, rfl, rfl, rfl⟩ := hrel
    by_cases hlt : k < 8
    · have hlti : (k : Int) < 8 := by omega
      have hbit := bit_i64 (v := B) k (by omega)
      have hT := prod_lt ha (b := B) k hk
      have hsh := shl_i64 (A := A) (k := k) (by omega) (by omega)
      have hX : bits .xor .i64 (prodTo A B k : Nat) (A * 2 ^ k : Nat) = _ := i64_xor_nat _ _ (by omega) (by have := shl_nat (A := A) (k := k) (by omega) (by omega); omega)
      have HS : Hid (prodTo A B (k + 1) = prodTo A B k ^^^ sel (B.testBit k) (A * 2 ^ k)) := rfl
      generalize A * 2 ^ k = Y at *
      generalize prodTo A B k = T at *
      generalize B.testBit k = c at *
      cases c
      · go_wp2_with fail
        go_roundw
        case rel => exact ⟨k + 1, by omega, by go_num, by rw [HS.out]; simp [sel], trivial⟩
        case measure => simp [intOf]; omega
      · go_wp2_with fail
        go_roundw
        case rel => exact ⟨k + 1, by omega, by go_num, by rw [HS.out]; simp [sel], trivial⟩
        case measure => simp [intOf]; omega
    · obtain rfl : k = 8 := by omega
      rw [HR.out]
      go_wp2_with fail
      go_ret
      exact ⟨rfl, rfl⟩

theorem irrR_false {p a b : Nat} (ha : a < 30) (hb : b < 254) (h : prodTo (b + 2) (a + 2) 8 = p) : irrR p = false := by
  rw [irrR, List.all_eq_false]
  refine ⟨a, List.mem_range.mpr ha, ?_⟩
  rw [Bool.not_eq_true, List.all_eq_false]
  exact ⟨b, List.mem_range.mpr hb, by simp [h]⟩
theorem irrR_true {p : Nat} (h : ∀ a, a < 30 → ∀ b, b < 254 → prodTo (b + 2) (a + 2) 8 ≠ p) : irrR p = true := by
  rw [irrR, List.all_eq_true]
  intro a ha
  rw [List.all_eq_true]
  intro b hb
  simpa using h a (List.mem_range.mp ha) b (List.mem_range.mp hb)
set_option maxRecDepth 100000 in
set_option maxHeartbeats 400000 in
theorem refIrr_in (p : Nat) (h1 : 256 ≤ p) (h2 : p ≤ 511) (w : World) : Calls Try.prog 12 #[.int .i64 (p : Int)] w fun e w' => e = .returned (.bool (irrS p)) ∧ w' = w := by
  have HR : Hid (∀ (a b : Nat), a < 30 → b < 254 → ∀ w, Calls Try.prog 50 #[.int .i64 ((b : Int) + 2), .int .i64 ((a : Int) + 2)] w fun e w' => e = .returned (.int .i64 (prodTo (b + 2) (a + 2) 8 : Nat)) ∧ w' = w) := fun a b ha hb w => refTimes_any (b + 2) (a + 2) (by omega) (by omega) w
  have HF : Hid (∀ a b, a < 30 → b < 254 → prodTo (b + 2) (a + 2) 8 = p → irrS p = false) := fun a b ha hb h => (irr_same h1 h2).trans (irrR_false ha hb h)
  have HT : Hid ((∀ a, a < 30 → ∀ b, b < 254 → prodTo (b + 2) (a + 2) 8 ≠ p) → irrS p = true) := fun h => (irr_same h1 h2).trans (irrR_true h)
  generalize irrS p = I at *
  go_enter Try.func12, Try.ntmps12
  go_wp2_with fail
  go_loopw [3, 4] (fun i j wr => ∃ k : Nat, k ≤ 30 ∧ i = .int .i64 ((k : Int) + 2) ∧ (∀ a, a < k → ∀ b, b < 254 → prodTo (b + 2) (a + 2) 8 ≠ p) ∧ wr = w) (fun i _ _ => 32 - (intOf i).toNat)
  case atStart => exact ⟨0, Nat.zero_le _, rfl, fun f hf => absurd hf (Nat.not_lt_zero _), rfl⟩
  case round =>
    obtain ⟨k, hk, rfl, hall, rfl⟩ := hrel
    have HA := hidD hall
    clear hall
    by_cases hlt : k < 30
    · have hlti : (k : Int) + 2 < 32 := by omega
      have HCk := hidD (fun b hb w => HR.out k b hlt hb w)
      have HFk := hidD (fun b hb => HF.out k b hlt hb)
      go_wp2_with fail
      go_loopw [4] (fun j wz => ∃ m : Nat, m ≤ 254 ∧ j = .int .i64 ((m : Int) + 2) ∧ (∀ b, b < m → prodTo (b + 2) (k + 2) 8 ≠ p) ∧ wz = wr) (fun j _ => 256 - (intOf j).toNat)
      case atStart => exact ⟨0, Nat.zero_le _, rfl, fun f hf => absurd hf (Nat.not_lt_zero _), rfl⟩
      case round =>
        obtain ⟨m, hm, rfl, hall, rfl⟩ := hrel
        have HB := hidD hall
        clear hall
        by_cases hmt : m < 254
        · have hmti : (m : Int) + 2 < 256 := by omega
          have HC := hidD (HCk.out m hmt)
          have hF := HFk.out m hmt
          generalize hr : prodTo (m + 2) (k + 2) 8 = r at *
          by_cases h0 : r = p
          · have HH := hidD (hF h0)
            have hri : (r : Int) = p := by omega
            clear hF hr h0
            go_wp2_with (go_at_call 50; refine (HC.out _).mono ?_; rintro e w3 ⟨rfl, hb3⟩)
            go_ret
            exact ⟨by rw [HH.out]; rfl, rfl⟩
          · have hri : ¬ (r : Int) = p := by omega
            have HN : Hid (∀ b, b < m + 1 → prodTo (b + 2) (k + 2) 8 ≠ p) := fun b hb => by
              by_cases he : b = m
              · subst he; rw [hr]; exact h0
              · exact HB.out b (by omega)
            clear hF hr h0
            go_wp2_with (go_at_call 50; refine (HC.out _).mono ?_; rintro e w3 ⟨rfl, hb3⟩)
            go_roundw
            case rel => exact ⟨m + 1, by omega, by congr 1 <;> omega, HN.out, trivial⟩
            case measure => simp [intOf]; omega
        · obtain rfl : m = 254 := by omega
          have HN : Hid (∀ a, a < k + 1 → ∀ b, b < 254 → prodTo (b + 2) (a + 2) 8 ≠ p) := fun a ha => by
            by_cases he : a = k
            · subst he; exact HB.out
            · exact HA.out a (by omega)
          go_wp2_with fail
          go_roundw
          case rel => exact ⟨k + 1, by omega, by congr 1 <;> omega, HN.out, trivial⟩
          case measure => simp [intOf]; omega
    · obtain rfl : k = 30 := by omega
      have HH := hidD (HT.out HA.out)
      go_wp2_with fail
      go_ret
      exact ⟨by rw [HH.out]; rfl, rfl⟩
set_option maxRecDepth 100000 in
set_option maxHeartbeats 400000 in
theorem refIrr_out (Q : Int) (h : ¬ (256 ≤ Q ∧ Q ≤ 511)) (w : World) : Calls Try.prog 12 #[.int .i64 Q] w fun e w' => e = .returned (.bool false) ∧ w' = w := by
  by_cases h1 : 256 ≤ Q
  · have h2 : ¬ Q ≤ 511 := fun h2 => h ⟨h1, h2⟩
    clear h
    go_enter Try.func12, Try.ntmps12
    go_wp2_with fail
    go_ret
    exact ⟨rfl, rfl⟩
  · clear h
    go_enter Try.func12, Try.ntmps12
    go_wp2_with fail
    go_ret
    exact ⟨rfl, rfl⟩

set_option maxRecDepth 100000 in
set_option maxHeartbeats 400000 in
theorem refOrder_in (P g : UInt8) (Q : Int) (hQ : Q = 256 + (P.toNat : Int)) (w : World) : Calls Try.prog 14 #[.int .i64 Q, .int .u8 (g.toNat : Int)] w fun e w' => e = .returned (.int .i64 (ordS P g : Nat)) ∧ w' = w := by
  have HC : Hid (∀ k w, Calls Try.prog 10 #[.int .u8 ((pw P g k).toNat : Int), .int .u8 (g.toNat : Int), .int .i64 Q] w fun e w' => e = .returned (.int .u8 ((pw P g (k + 1)).toNat : Int)) ∧ w' = w) := fun k w => refCarry_in P (pw P g k) g Q hQ w
  have HO : Hid (ordGo P g (256 - 0) (pw P g 0) 0 = ordS P g) := ord_256 P g
  have HS := hidD (fun k h => ord_at P g 256 k h)
  have hP := u8_lt P
  have hq1 : 256 ≤ Q := by omega
  have hq2 : Q ≤ 511 := by omega
  generalize ordS P g = O at *
  clear hQ hP
  go_enter Try.func14, Try.ntmps14
  go_wp2_with fail
  go_loopw [5, 6] (fun x i wr => ∃ k : Nat, k ≤ 256 ∧ i = .int .i64 ((k : Int) + 1) ∧ x = .int .u8 ((pw P g k).toNat : Int) ∧ ordGo P g (256 - k) (pw P g k) k = O ∧ wr = w) (fun _ i _ => 257 - (intOf i).toNat)
  case atStart => exact ⟨0, Nat.zero_le _, rfl, rfl, HO.out, rfl⟩
  case round =>
    obtain ⟨k, hk, rfl, rfl, hord, rfl⟩ := hrel
    have HK := hidD hord
    clear hord
    by_cases hlt : k < 256
    · have hlti : (k : Int) + 1 ≤ 256 := by omega
      have HCk := hidD (HC.out k)
      have HSk : Hid ((if pw P g (k + 1) = 1 then k + 1 else ordGo P g (256 - (k + 1)) (pw P g (k + 1)) (k + 1)) = O) := by
        show _ = _
        rw [← HS.out k hlt]; exact HK.out
      by_cases h1 : pw P g (k + 1) = 1
      · have hv : ((pw P g (k + 1)).toNat : Int) = 1 := by rw [h1]; rfl
        rw [if_pos h1] at HSk
        generalize ((pw P g (k + 1)).toNat : Int) = x at *
        clear h1 HS HK
        go_wp2_with (go_at_call 10; refine (HCk.out _).mono ?_; rintro e w3 ⟨rfl, hb3⟩)
        go_ret
        exact ⟨by rw [← HSk.out]; simp, rfl⟩
      · have hv : ¬ ((pw P g (k + 1)).toNat : Int) = 1 := fun h => h1 (UInt8.toNat.inj (by show _ = 1; omega))
        rw [if_neg h1] at HSk
        clear h1 HS HK
        generalize hx : ((pw P g (k + 1)).toNat : Int) = x at *
        have HX := hidD hx
        clear hx
        go_wp2_with (go_at_call 10; refine (HCk.out _).mono ?_; rintro e w3 ⟨rfl, hb3⟩)
        go_roundw
        case rel => exact ⟨k + 1, by omega, by congr 1 <;> omega, by rw [HX.out], HSk.out, trivial⟩
        case measure => simp [intOf]; omega
    · obtain rfl : k = 256 := by omega
      have h0 : ordGo P g (256 - 256) (pw P g 256) 256 = 0 := rfl
      have HZ : Hid (O = 0) := by show _ = _; rw [← HK.out]; exact h0
      clear h0
      generalize ((pw P g 256).toNat : Int) = x at *
      go_wp2_with fail
      go_ret
      exact ⟨by rw [HZ.out]; rfl, rfl⟩
set_option maxRecDepth 100000 in
set_option maxHeartbeats 400000 in
theorem refOrder_out (Q : Int) (h : ¬ (256 ≤ Q ∧ Q ≤ 511)) (g : UInt8) (w : World) : Calls Try.prog 14 #[.int .i64 Q, .int .u8 (g.toNat : Int)] w fun e w' => e = .returned (.int .i64 0) ∧ w' = w := by
  by_cases h1 : 256 ≤ Q
  · have h2 : ¬ Q ≤ 511 := fun h2 => h ⟨h1, h2⟩
    clear h
    go_enter Try.func14, Try.ntmps14
    go_wp2_with fail
    go_ret
    exact ⟨rfl, rfl⟩
  · clear h
    go_enter Try.func14, Try.ntmps14
    go_wp2_with fail
    go_ret
    exact ⟨rfl, rfl⟩
end Go.Proofs.Ytfngnajjlhnglaa
