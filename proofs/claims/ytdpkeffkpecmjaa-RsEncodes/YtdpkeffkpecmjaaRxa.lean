/- What Carry, and the calls of a field, answer: the document's. -/
import Derived.Test.YtdpkeffkpecmjaaRff
import Derived.Test.YtdpkeffkpecmjaaFnc
import Derived.Test.YtdpkeffkpecmjaaNil
import Derived.Test.YtdpkeffkpecmjaaRfc
import Derived.Laws.Build
namespace Go.Proofs.Ytdpkeffkpecmjaa
open Go.RowKit
set_option linter.unusedVariables false

set_option maxRecDepth 100000 in
set_option maxHeartbeats 400000 in
theorem refCarry_in (P a b : UInt8) (Q : Int) (hQ : Q = 256 + (P.toNat : Int)) (w : World) : Calls Try.prog 72 #[.int .u8 (a.toNat : Int), .int .u8 (b.toNat : Int), .int .i64 Q] w fun e w' => e = .returned (.int .u8 ((bm P a b).toNat : Int)) ∧ w' = w := by
  have hP := u8_lt P
  have ha := u8_lt a
  have hb := u8_lt b
  have HR : Hid ((bm P a b).toNat = redTo (256 + P.toNat) (prodTo a.toNat b.toNat 8) 7) := (red_prod P a b).symm
  generalize (bm P a b).toNat = R at *
  generalize a.toNat = A at *
  generalize b.toNat = B at *
  generalize P.toNat = p at *
  have HP := hidD hP
  have HQ := hidD hQ
  have hq1 : 256 ≤ Q := by omega
  have hq2 : Q ≤ 511 := by omega
  clear hQ hP
  go_enter Try.func72, Try.ntmps72
  go_wp2_with fail
  go_loopw [7, 8] (fun t i wr => ∃ k : Nat, k ≤ 8 ∧ i = .int .i64 k ∧ t = .int .i64 ((prodTo A B k : Nat) : Int) ∧ wr = w) (fun _ i _ => 8 - (intOf i).toNat)
  case atStart => exact ⟨0, Nat.zero_le _, rfl, rfl, rfl⟩
  case round =>
    obtain ⟨k, hk, rfl, rfl, rfl⟩ := hrel
    by_cases hlt : k < 8
    · have hlti : (k : Int) < 8 := by omega
      have hbit := bit_u8 k hb
      have hT := prod_lt ha (b := B) k hk
      have hsh := shl_i64 (A := A) (k := k) (by omega) (by omega)
      have hX : bits .xor .i64 (prodTo A B k : Nat) (A * 2 ^ k : Nat) = _ := i64_xor_nat _ _ (by omega) (by have := shl_nat (A := A) (k := k) (by omega) (by omega); omega)
      have HS : Hid (prodTo A B (k + 1) = prodTo A B k ^^^ sel (B.testBit k) (A * 2 ^ k)) := rfl
      generalize A * 2 ^ k = Y at *
      generalize prodTo A B k = T at *
      generalize B.testBit k = c at *
      cases c
      · go_wp2_with fail
        go_roundw
        case rel => exact ⟨k + 1, by omega, by go_num, by rw [HS.out]; simp [sel], trivial⟩
        case measure => simp [intOf]; omega
      · go_wp2_with fail
        go_roundw
        case rel => exact ⟨k + 1, by omega, by go_num, by rw [HS.out]; simp [sel], trivial⟩
        case measure => simp [intOf]; omega
    · obtain rfl : k = 8 := by omega
      have hp := prod_lt ha (b := B) 8 (Nat.le_refl _)
      generalize prodTo A B 8 = N at *
      go_wp2_with fail
      go_loopw [7, 9] (fun t i wz => ∃ k : Nat, k ≤ 7 ∧ i = .int .i64 ((14 : Int) - k) ∧ t = .int .i64 ((redTo (256 + p) N k : Nat) : Int) ∧ wz = wr) (fun _ i _ => (intOf i).toNat)
      case atStart => exact ⟨0, Nat.zero_le _, rfl, rfl, rfl⟩
      case round =>
        obtain ⟨k, hk, rfl, rfl, rfl⟩ := hrel
        by_cases hlt : k < 7
        · have hlti : (8 : Int) ≤ 14 - (k : Int) := by omega
          have hd : (14 : Int) - k = ((14 - k : Nat) : Int) := by omega
          have hd8 : ((14 - k : Nat) : Int) - 8 = ((6 - k : Nat) : Int) := by omega
          have hT := Nat.lt_of_lt_of_le (red_lt HP.out hp k hk) (Nat.pow_le_pow_right (n := 2) (by omega) (show 15 - k ≤ 15 by omega))
          have hbit := bit_i64 (v := redTo (256 + p) N k) (14 - k) (by omega)
          have hP := HP.out
          have hsh : IntKind.i64.wrap (Q * 2 ^ (6 - k)) = (((256 + p) * 2 ^ (6 - k) : Nat) : Int) := by
            rw [HQ.out, ← shl_i64 (A := 256 + p) (k := 6 - k) (by omega) (by omega)]; simp
          have hX : bits .xor .i64 (redTo (256 + p) N k : Nat) ((256 + p) * 2 ^ (6 - k) : Nat) = _ := i64_xor_nat _ _ (by omega) (by have := shl_nat (A := 256 + p) (k := 6 - k) (by omega) (by omega); omega)
          have HS : Hid (redTo (256 + p) N (k + 1) = redTo (256 + p) N k ^^^ sel ((redTo (256 + p) N k).testBit (14 - k)) ((256 + p) * 2 ^ (6 - k))) := rfl
          have HK1 : Hid ((14 : Int) - k - 1 = 14 - ((k + 1 : Nat) : Int)) := by show _ = _; omega
          have HM : Hid ((14 : Int) - k = ((14 - k : Nat) : Int)) := hd
          have hs1 : 14 - k ≤ 14 := by omega
          have hs2 : 6 - k ≤ 6 := by omega
          generalize (256 + p) * 2 ^ (6 - k) = Y at *
          generalize redTo (256 + p) N k = T at *
          generalize 6 - k = d6 at *
          generalize hs : 14 - k = d at *
          generalize T.testBit d = c at *
          have HD := hidD hs
          clear hs hP
          cases c
          · go_wp2_with fail
            go_roundw
            case rel => exact ⟨k + 1, by omega, by congr 1 <;> omega, by rw [HS.out]; simp [sel], trivial⟩
            case measure => simp [intOf]; omega
          · go_wp2_with fail
            go_roundw
            case rel => exact ⟨k + 1, by omega, by congr 1 <;> omega, by rw [HS.out]; simp [sel], trivial⟩
            case measure => simp [intOf]; omega
        · obtain rfl : k = 7 := by omega
          have hT := red_lt HP.out hp 7 (Nat.le_refl _)
          generalize redTo (256 + p) N 7 = T at *
          go_wp2_with fail
          go_ret
          exact ⟨by rw [HR.out]; rfl, rfl⟩
set_option maxRecDepth 100000 in
set_option maxHeartbeats 400000 in
theorem refCarry_out (Q : Int) (h : ¬ (256 ≤ Q ∧ Q ≤ 511)) (a b : UInt8) (w : World) : Calls Try.prog 72 #[.int .u8 (a.toNat : Int), .int .u8 (b.toNat : Int), .int .i64 Q] w fun e w' => e = .returned (.int .u8 0) ∧ w' = w := by
  by_cases h1 : 256 ≤ Q
  · have h2 : ¬ Q ≤ 511 := fun h2 => h ⟨h1, h2⟩
    clear h
    go_enter Try.func72, Try.ntmps72
    go_wp2_with fail
    go_ret
    exact ⟨rfl, rfl⟩
  · clear h
    go_enter Try.func72, Try.ntmps72
    go_wp2_with fail
    go_ret
    exact ⟨rfl, rfl⟩

set_option maxRecDepth 100000 in
set_option maxHeartbeats 400000 in
theorem refMul_any {P g : UInt8} {b : Nat} (x y : UInt8) (w : World) (hf : RfAt w b P g) : Calls Try.prog 58 #[.pointer (some ⟨b, 0, none⟩), .int .u8 (x.toNat : Int), .int .u8 (y.toNat : Int)] w fun e w' => e = .returned (.int .u8 ((bm P x y).toNat : Int)) ∧ w' = w := by
  have HC := hidD (fun w => refCarry_in P x y _ rfl w)
  have hc := hf.c0
  generalize ((bm P x y).toNat : Int) = R at *
  generalize 256 + (P.toNat : Int) = Q at *
  clear hf
  go_enter Try.func58, Try.ntmps58
  go_wp2_with (go_at_call 72; refine (HC.out _).mono ?_; rintro e w2 ⟨rfl, hb2⟩)
  go_ret
  exact ⟨rfl, rfl⟩
set_option maxRecDepth 100000 in
set_option maxHeartbeats 400000 in
theorem power_any {P g : UInt8} {b : Nat} (a : UInt8) (n : Nat) (hn : n < 9223372036854775807) (w : World) (hf : RfAt w b P g) : Calls Try.prog 59 #[.pointer (some ⟨b, 0, none⟩), .int .u8 (a.toNat : Int), .int .i64 (n : Int)] w fun e w' => e = .returned (.int .u8 ((pw P a n).toNat : Int)) ∧ w' = w := by
  have HC : Hid (∀ k, Calls Try.prog 58 #[.pointer (some ⟨b, 0, none⟩), .int .u8 ((pw P a k).toNat : Int), .int .u8 (a.toNat : Int)] w fun e w' => e = .returned (.int .u8 ((pw P a (k + 1)).toNat : Int)) ∧ w' = w) := fun k => refMul_any (pw P a k) a w hf
  generalize hR : ((pw P a n).toNat : Int) = R
  have HR := hidD hR
  clear hf hR
  go_enter Try.func59, Try.ntmps59
  go_wp2_with fail
  go_loopw [7, 8] (fun x i wr => ∃ k : Nat, k ≤ n ∧ i = .int .i64 k ∧ x = .int .u8 ((pw P a k).toNat : Int) ∧ wr = w) (fun _ i _ => n - (intOf i).toNat)
  case atStart => exact ⟨0, Nat.zero_le _, rfl, rfl, rfl⟩
  case round =>
    obtain ⟨k, hk, rfl, rfl, rfl⟩ := hrel
    by_cases hlt : k < n
    · have hlti : (k : Int) < n := by omega
      have HCk := hidD (HC.out k)
      generalize hx : ((pw P a (k + 1)).toNat : Int) = X at *
      have HX := hidD hx
      clear hx
      generalize ((pw P a k).toNat : Int) = Y at *
      go_wp2_with (go_at_call 58; refine HCk.out.mono ?_; rintro e w3 ⟨rfl, hb3⟩)
      go_roundw
      case rel => exact ⟨k + 1, by omega, by go_num, by rw [HX.out], trivial⟩
      case measure => simp [intOf]; omega
    · obtain rfl : k = n := by omega
      rw [HR.out]
      go_wp2_with fail
      go_ret
      exact ⟨rfl, rfl⟩

set_option maxRecDepth 100000 in
set_option maxHeartbeats 400000 in
theorem refInv_some {P g : UInt8} {b : Nat} (a : UInt8) (ha : a ≠ 0) (w : World) (hf : RfAt w b P g) : Calls Try.prog 71 #[.pointer (some ⟨b, 0, none⟩), .int .u8 (a.toNat : Int)] w fun e w' => e = .returned (.tuple #[.int .u8 ((inv P a).toNat : Int), .int .i64 0]) ∧ w' = w := by
  have HP : Hid (Calls Try.prog 59 #[.pointer (some ⟨b, 0, none⟩), .int .u8 (a.toNat : Int), .int .i64 254] w fun e w' => e = .returned (.int .u8 ((inv P a).toNat : Int)) ∧ w' = w) := power_any a 254 (by omega) w hf
  have h0 := u8_ne ha
  have hb := u8_bne ha
  generalize ((inv P a).toNat : Int) = R at *
  clear hf ha
  go_enter Try.func71, Try.ntmps71
  go_wp2_with (go_at_call 59; refine HP.out.mono ?_; rintro e w2 ⟨rfl, hb2⟩)
  refine bodyPost_ret (v := .tuple #[.int .u8 R, .int .i64 0]) (by simp [results, Try.results71, go_sem]) rfl ?_
  exact ⟨rfl, by first | rfl | exact hb2⟩
set_option maxRecDepth 100000 in
set_option maxHeartbeats 400000 in
theorem refInv_zero {b : Nat} (w : World) : Calls Try.prog 71 #[.pointer (some ⟨b, 0, none⟩), .int .u8 0] w fun e w' => e = .returned (.tuple #[.int .u8 0, .int .i64 51]) ∧ w' = w := by
  go_enter Try.func71, Try.ntmps71
  go_wp2_with fail
  refine bodyPost_ret (v := .tuple #[.int .u8 0, .int .i64 51]) (by simp [results, Try.results71, go_sem]) rfl ?_
  exact ⟨rfl, rfl⟩
set_option maxRecDepth 100000 in
set_option maxHeartbeats 400000 in
theorem refDiv_some {P g : UInt8} {b : Nat} (x y : UInt8) (hy : y ≠ 0) (w : World) (hf : RfAt w b P g) : Calls Try.prog 57 #[.pointer (some ⟨b, 0, none⟩), .int .u8 (x.toNat : Int), .int .u8 (y.toNat : Int)] w fun e w' => e = .returned (.tuple #[.int .u8 ((bm P x (inv P y)).toNat : Int), .int .i64 0]) ∧ w' = w := by
  have HI := hidD (refInv_some y hy w hf)
  have HM := hidD (refMul_any x (inv P y) w hf)
  generalize ((bm P x (inv P y)).toNat : Int) = R at *
  generalize ((inv P y).toNat : Int) = I at *
  clear hf hy
  go_enter Try.func57, Try.ntmps57
  go_wp2_with (first | (go_at_call 71; refine HI.out.mono ?_; rintro e w2 ⟨rfl, hb2⟩) | (go_at_call 58; refine HM.out.mono ?_; rintro e w2 ⟨rfl, hb2⟩))
  refine bodyPost_ret (v := .tuple #[.int .u8 R, .int .i64 0]) (by simp [results, Try.results57, go_sem]) rfl ?_
  exact ⟨rfl, by first | rfl | exact hb2⟩
set_option maxRecDepth 100000 in
set_option maxHeartbeats 400000 in
theorem refDiv_zero {b : Nat} (x : UInt8) (w : World) : Calls Try.prog 57 #[.pointer (some ⟨b, 0, none⟩), .int .u8 (x.toNat : Int), .int .u8 0] w fun e w' => e = .returned (.tuple #[.int .u8 0, .int .i64 51]) ∧ w' = w := by
  have HI := hidD (refInv_zero (b := b) w)
  go_enter Try.func57, Try.ntmps57
  go_wp2_with (go_at_call 71; refine HI.out.mono ?_; rintro e w2 ⟨rfl, hb2⟩)
  refine bodyPost_ret (v := .tuple #[.int .u8 0, .int .i64 51]) (by simp [results, Try.results57, go_sem]) rfl ?_
  exact ⟨rfl, by first | rfl | exact hb2⟩
set_option maxRecDepth 100000 in
set_option maxHeartbeats 400000 in
theorem refExp_any {P g : UInt8} {b : Nat} (n : Int) (w : World) (hf : RfAt w b P g) : Calls Try.prog 43 #[.pointer (some ⟨b, 0, none⟩), .int .i64 n] w fun e w' => e = .returned (.int .u8 ((pwI P g n).toNat : Int)) ∧ w' = w := by
  have hs := emod_small n
  have HP : Hid (Calls Try.prog 59 #[.pointer (some ⟨b, 0, none⟩), .int .u8 (g.toNat : Int), .int .i64 (((n % 255).toNat : Nat) : Int)] w fun e w' => e = .returned (.int .u8 ((pwI P g n).toNat : Int)) ∧ w' = w) := power_any g (n % 255).toNat (by omega) w hf
  have hc := hf.c1
  have h1 := tmod_lo n
  have h2 := tmod_hi n
  have hw1 : IntKind.i64.wrap (n.tmod 255 + 255) = n.tmod 255 + 255 := by rw [IntKind.wrap_i64]; omega
  have hw2 : wrap64 (n.tmod 255 + 255) = n.tmod 255 + 255 := by unfold wrap64; omega
  have ht := tmod2 n
  generalize ((pwI P g n).toNat : Int) = R at *
  generalize (((n % 255).toNat : Nat) : Int) = M at *
  clear hf hs
  go_enter Try.func43, Try.ntmps43
  go_wp2_with (go_at_call 59; refine HP.out.mono ?_; rintro e w2 ⟨rfl, hb2⟩)
  go_ret
  exact ⟨rfl, by first | rfl | exact hb2⟩
set_option maxRecDepth 100000 in
set_option maxHeartbeats 400000 in
theorem refPow_one {b : Nat} (a : UInt8) (w : World) : Calls Try.prog 78 #[.pointer (some ⟨b, 0, none⟩), .int .u8 (a.toNat : Int), .int .i64 0] w fun e w' => e = .returned (.tuple #[.int .u8 1, .int .i64 0]) ∧ w' = w := by
  go_enter Try.func78, Try.ntmps78
  go_wp2_with fail
  refine bodyPost_ret (v := .tuple #[.int .u8 1, .int .i64 0]) (by simp [results, Try.results78, go_sem]) rfl ?_
  exact ⟨rfl, rfl⟩
set_option maxRecDepth 100000 in
set_option maxHeartbeats 400000 in
theorem refPow_zero {b : Nat} (n : Int) (hn : n ≠ 0) (w : World) : Calls Try.prog 78 #[.pointer (some ⟨b, 0, none⟩), .int .u8 0, .int .i64 n] w fun e w' => e = .returned (.tuple #[.int .u8 0, .int .i64 (if n < 0 then 51 else 0)]) ∧ w' = w := by
  have hnb : (n == 0) = false := by simpa using hn
  by_cases h : n < 0
  · rw [if_pos h]
    go_enter Try.func78, Try.ntmps78
    go_wp2_with fail
    refine bodyPost_ret (v := .tuple #[.int .u8 0, .int .i64 51]) (by simp [results, Try.results78, go_sem]) rfl ?_
    exact ⟨rfl, rfl⟩
  · rw [if_neg h]
    go_enter Try.func78, Try.ntmps78
    go_wp2_with fail
    refine bodyPost_ret (v := .tuple #[.int .u8 0, .int .i64 0]) (by simp [results, Try.results78, go_sem]) rfl ?_
    exact ⟨rfl, rfl⟩
set_option maxRecDepth 100000 in
set_option maxHeartbeats 400000 in
theorem refPow_any {P g : UInt8} {b : Nat} (a : UInt8) (ha : a ≠ 0) (n : Int) (hn : n ≠ 0) (w : World) (hf : RfAt w b P g) : Calls Try.prog 78 #[.pointer (some ⟨b, 0, none⟩), .int .u8 (a.toNat : Int), .int .i64 n] w fun e w' => e = .returned (.tuple #[.int .u8 ((pwI P a n).toNat : Int), .int .i64 0]) ∧ w' = w := by
  have hs := emod_small n
  have HP : Hid (Calls Try.prog 59 #[.pointer (some ⟨b, 0, none⟩), .int .u8 (a.toNat : Int), .int .i64 (((n % 255).toNat : Nat) : Int)] w fun e w' => e = .returned (.int .u8 ((pwI P a n).toNat : Int)) ∧ w' = w) := power_any a (n % 255).toNat (by omega) w hf
  have hx0 := u8_ne ha
  have hxb := u8_bne ha
  have hnb : (n == 0) = false := by simpa using hn
  have h1 := tmod_lo n
  have h2 := tmod_hi n
  have hw1 : IntKind.i64.wrap (n.tmod 255 + 255) = n.tmod 255 + 255 := by rw [IntKind.wrap_i64]; omega
  have hw2 : wrap64 (n.tmod 255 + 255) = n.tmod 255 + 255 := by unfold wrap64; omega
  have ht := tmod2 n
  generalize ((pwI P a n).toNat : Int) = R at *
  generalize (((n % 255).toNat : Nat) : Int) = M at *
  clear hf hs ha
  go_enter Try.func78, Try.ntmps78
  go_wp2_with (go_at_call 59; refine HP.out.mono ?_; rintro e w2 ⟨rfl, hb2⟩)
  refine bodyPost_ret (v := .tuple #[.int .u8 R, .int .i64 0]) (by simp [results, Try.results78, go_sem]) rfl ?_
  exact ⟨rfl, by first | rfl | exact hb2⟩

end Go.Proofs.Ytdpkeffkpecmjaa
