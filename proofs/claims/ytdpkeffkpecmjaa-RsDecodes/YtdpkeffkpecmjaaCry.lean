/- What hasDegree, Carry, remainderOf, Irreducible and Order of the program answer. -/
import Derived.Test.YtdpkeffkpecmjaaBase
import Derived.Test.YtdpkeffkpecmjaaMtc
import Derived.BigQuiet
import Derived.Laws.ShiftsVarLaws
import Derived.Laws.BitsAllLaws
import Derived.Laws.Unary
namespace Go.Proofs.Ytdpkeffkpecmjaa
open Go.RowKit
set_option linter.unusedVariables false

theorem hidD {q : Prop} (h : q) : Hid q := h
theorem i64_xor_nat (a b : Nat) (ha : a < 9223372036854775808) (hb : b < 9223372036854775808) : bits .xor .i64 (a : Int) (b : Int) = ((a ^^^ b : Nat) : Int) := by
  have hx : a ^^^ b < 2 ^ 63 := Nat.xor_lt_two_pow (by omega) (by omega)
  show IntKind.i64.wrap ((BitVec.ofInt 64 (a : Int) ^^^ BitVec.ofInt 64 (b : Int)).toNat : Int) = _
  rw [BitVec.toNat_xor, ofInt_u64 a (by omega), ofInt_u64 b (by omega), IntKind.wrap_i64]
  omega
theorem i64_or_nat (a b : Nat) (ha : a < 9223372036854775808) (hb : b < 9223372036854775808) : bits .or .i64 (a : Int) (b : Int) = ((a ||| b : Nat) : Int) := by
  have hx : a ||| b < 2 ^ 63 := Nat.or_lt_two_pow (by omega) (by omega)
  show IntKind.i64.wrap ((BitVec.ofInt 64 (a : Int) ||| BitVec.ofInt 64 (b : Int)).toNat : Int) = _
  rw [BitVec.toNat_or, ofInt_u64 a (by omega), ofInt_u64 b (by omega), IntKind.wrap_i64]
  omega
theorem i64_and_nat (a b : Nat) (ha : a < 9223372036854775808) (hb : b < 9223372036854775808) : bits .and .i64 (a : Int) (b : Int) = ((a &&& b : Nat) : Int) := by
  have hx : a &&& b < 2 ^ 63 := Nat.and_lt_two_pow _ (by omega)
  show IntKind.i64.wrap ((BitVec.ofInt 64 (a : Int) &&& BitVec.ofInt 64 (b : Int)).toNat : Int) = _
  rw [BitVec.toNat_and, ofInt_u64 a (by omega), ofInt_u64 b (by omega), IntKind.wrap_i64]
  omega
theorem bit_u8 {v : Nat} (k : Nat) (hv : v < 256) : bits .and .u8 ((v : Int) / 2 ^ k) 1 = ((v.testBit k).toNat : Int) := by
  have h1 : (v : Int) / 2 ^ k = ((v / 2 ^ k : Nat) : Int) := by simp
  have h2 : v / 2 ^ k ≤ v := Nat.div_le_self _ _
  rw [h1, show (1 : Int) = ((1 : Nat) : Int) from rfl, u8_and_nat _ _ (by omega) (by omega), nat_mask1, bit_nat]
theorem bit_i64 {v : Nat} (k : Nat) (hv : v < 9223372036854775808) : bits .and .i64 ((v : Int) / 2 ^ k) 1 = ((v.testBit k).toNat : Int) := by
  have h1 : (v : Int) / 2 ^ k = ((v / 2 ^ k : Nat) : Int) := by simp
  have h2 : v / 2 ^ k ≤ v := Nat.div_le_self _ _
  rw [h1, show (1 : Int) = ((1 : Nat) : Int) from rfl, i64_and_nat _ _ (by omega) (by omega), nat_mask1, bit_nat]

set_option maxRecDepth 100000 in
set_option maxHeartbeats 400000 in
theorem degree_in (Q : Int) (h1 : 256 ≤ Q) (h2 : Q ≤ 511) (w : World) : Calls Try.prog 79 #[.int .i64 Q] w fun e w' => e = .returned (.bool true) ∧ w' = w := by
  go_enter Try.func79, Try.ntmps79
  go_wp2_with fail
  go_ret
  exact ⟨rfl, rfl⟩
set_option maxRecDepth 100000 in
set_option maxHeartbeats 400000 in
theorem degree_out (Q : Int) (h : ¬ (256 ≤ Q ∧ Q ≤ 511)) (w : World) : Calls Try.prog 79 #[.int .i64 Q] w fun e w' => e = .returned (.bool false) ∧ w' = w := by
  by_cases h1 : 256 ≤ Q
  · have h2 : ¬ Q ≤ 511 := fun h2 => h ⟨h1, h2⟩
    clear h
    go_enter Try.func79, Try.ntmps79
    go_wp2_with fail
    go_ret
    exact ⟨rfl, rfl⟩
  · clear h
    go_enter Try.func79, Try.ntmps79
    go_wp2_with fail
    go_ret
    exact ⟨rfl, rfl⟩

theorem step_small {P T : Nat} (h : T < 128) : stepB 8 P T false = 2 * T := by
  have : T.testBit 7 = false := testBit_ge (w := 7) h (Nat.le_refl _)
  unfold stepB
  rw [show 8 - 1 = 7 from rfl, this, Nat.mod_eq_of_lt (by omega)]
  simp [sel]
theorem step_great {P T : Nat} (hP : P < 256) (h1 : 128 ≤ T) (h2 : T < 256) : stepB 8 P T false = 2 * T ^^^ (256 + P) := by
  have h7 : T.testBit 7 = true := by rw [Nat.testBit_eq_decide_div_mod_eq, show T / 2 ^ 7 = 1 by omega]; rfl
  have hx : ∀ x, x < 256 → 256 + x = 256 ^^^ x := fun x hx => by
    have h := (by decide +kernel : ∀ y : Fin 256, 256 + y.val = 256 ^^^ y.val) ⟨x, hx⟩
    exact h
  unfold stepB
  rw [show 8 - 1 = 7 from rfl, h7, show 2 * T = 256 + (2 * T - 256) by omega, hx _ (show 2 * T - 256 < 256 by omega), hx P hP, show 256 ^^^ (2 * T - 256) ^^^ (256 ^^^ P) = (2 * T - 256) ^^^ P by
    rw [xor4, Nat.xor_self, Nat.zero_xor], ← hx _ (show 2 * T - 256 < 256 by omega), show (256 + (2 * T - 256)) % 2 ^ 8 = 2 * T - 256 by omega]
  simp [sel]

set_option maxRecDepth 100000 in
set_option maxHeartbeats 400000 in
theorem carry_in (P a b : UInt8) (Q : Int) (hQ : Q = 256 + (P.toNat : Int)) (w : World) : Calls Try.prog 81 #[.int .u8 (a.toNat : Int), .int .u8 (b.toNat : Int), .int .i64 Q] w fun e w' => e = .returned (.int .u8 ((bm P a b).toNat : Int)) ∧ w' = w := by
  have hP := u8_lt P
  have ha := u8_lt a
  have hb := u8_lt b
  have HR : Hid ((bm P a b).toNat = timesTo 8 P.toNat a.toNat b.toNat 8) := bm_nat P a b
  generalize (bm P a b).toNat = R at *
  generalize a.toNat = A at *
  generalize b.toNat = B at *
  generalize P.toNat = p at *
  have HD : Hid (∀ w, Calls Try.prog 79 #[.int .i64 Q] w fun e w' => e = .returned (.bool true) ∧ w' = w) := fun w => degree_in Q (by omega) (by omega) w
  have HQ := hidD hQ
  have HP := hidD hP
  clear hQ hP
  go_enter Try.func81, Try.ntmps81
  go_wp2_with (go_at_call 79; refine (HD.out _).mono ?_; rintro e w2 ⟨rfl, hb2⟩)
  go_loopw [7, 12] (fun t i wr => ∃ k : Nat, k ≤ 8 ∧ i = .int .i64 k ∧ t = .int .i64 ((timesTo 8 p A B k : Nat) : Int) ∧ wr = w) (fun _ i _ => 8 - (intOf i).toNat)
  case atStart => exact ⟨0, Nat.zero_le _, rfl, rfl, rfl⟩
  case round =>
    obtain ⟨k, hk, rfl, rfl, rfl⟩ := hrel
    by_cases hlt : k < 8
    · have hlti : (k : Int) < 8 := by omega
      have hk7 : (7 : Int) - k = ((7 - k : Nat) : Int) := by omega
      have hbit := bit_u8 (7 - k) hb
      have hT := times_lt (w := 8) HP.out ha (b := B) k
      have hS : timesTo 8 p A B (k + 1) = stepB 8 p (timesTo 8 p A B k) false ^^^ sel (B.testBit (7 - k)) A := rfl
      have hD := step_lt (w := 8) (r := timesTo 8 p A B k) (c := false) HP.out
      have hD1 : timesTo 8 p A B k < 128 → stepB 8 p (timesTo 8 p A B k) false = 2 * timesTo 8 p A B k := step_small
      have hD2 : 128 ≤ timesTo 8 p A B k → bits .xor .i64 ((timesTo 8 p A B k : Int) * 2) Q = (stepB 8 p (timesTo 8 p A B k) false : Nat) := fun h => by
        rw [step_great HP.out h hT, ← i64_xor_nat _ _ (by omega) (by have := HP.out; omega), HQ.out]; congr 1; omega
      have hX : bits .xor .i64 (stepB 8 p (timesTo 8 p A B k) false : Nat) A = (stepB 8 p (timesTo 8 p A B k) false ^^^ A : Nat) := i64_xor_nat _ _ (by omega) (by omega)
      have HS := hidD hS
      clear hS
      have hd7 : 7 - k ≤ 8 := by omega
      generalize 7 - k = d at *
      generalize stepB 8 p (timesTo 8 p A B k) false = D at *
      generalize timesTo 8 p A B k = T at *
      generalize B.testBit d = c at *
      rcases Nat.lt_or_ge T 128 with hTl | hTl
      · have hD0 := hD1 hTl
        subst hD0
        clear hD1 hD2
        have hTi : ¬ (256 : Int) ≤ (T : Int) * 2 := by omega
        cases c
        · go_wp2_with fail
          go_roundw
          case rel => exact ⟨k + 1, by omega, by go_num, by rw [HS.out]; simp [sel]; omega, trivial⟩
          case measure => simp [intOf]; omega
        · rw [show ((2 * T : Nat) : Int) = (T : Int) * 2 by omega] at hX
          go_wp2_with fail
          go_roundw
          case rel => exact ⟨k + 1, by omega, by go_num, by rw [HS.out]; simp [sel], trivial⟩
          case measure => simp [intOf]; omega
      · have hD0 := hD2 hTl
        clear hD1 hD2
        have hTi : (256 : Int) ≤ (T : Int) * 2 := by omega
        cases c
        · go_wp2_with fail
          go_roundw
          case rel => exact ⟨k + 1, by omega, by go_num, by rw [HS.out]; simp [sel], trivial⟩
          case measure => simp [intOf]; omega
        · go_wp2_with fail
          go_roundw
          case rel => exact ⟨k + 1, by omega, by go_num, by rw [HS.out]; simp [sel], trivial⟩
          case measure => simp [intOf]; omega
    · obtain rfl : k = 8 := by omega
      have hT := times_lt (w := 8) HP.out ha (b := B) 8
      generalize timesTo 8 p A B 8 = T at *
      go_wp2_with fail
      go_ret
      exact ⟨by rw [HR.out]; rfl, rfl⟩
set_option maxRecDepth 100000 in
set_option maxHeartbeats 400000 in
theorem carry_out (Q : Int) (h : ¬ (256 ≤ Q ∧ Q ≤ 511)) (a b : UInt8) (w : World) : Calls Try.prog 81 #[.int .u8 (a.toNat : Int), .int .u8 (b.toNat : Int), .int .i64 Q] w fun e w' => e = .returned (.int .u8 0) ∧ w' = w := by
  have HD : Hid (∀ w, Calls Try.prog 79 #[.int .i64 Q] w fun e w' => e = .returned (.bool false) ∧ w' = w) := fun w => degree_out Q h w
  clear h
  go_enter Try.func81, Try.ntmps81
  go_wp2_with (go_at_call 79; refine (HD.out _).mono ?_; rintro e w2 ⟨rfl, hb2⟩)
  go_ret
  exact ⟨rfl, rfl⟩

theorem rem_or {L : Nat} (c : Bool) (h : L < 9223372036854775808) (h2 : 2 * L < 9223372036854775808) : bits .or .i64 ((L : Int) * 2) (c.toNat : Int) = ((2 * L + c.toNat : Nat) : Int) := by
  have hc : c.toNat < 2 := by cases c <;> simp
  rw [show (L : Int) * 2 = ((2 * L : Nat) : Int) by omega, i64_or_nat _ _ (by omega) (by omega), nat_join 1 _ _ (by omega) (by omega)]

set_option maxRecDepth 100000 in
set_option maxHeartbeats 400000 in
theorem remainder_any (p b : Nat) (hp : p < 512) (hb : b < 32) (w : World) : Calls Try.prog 80 #[.int .i64 (p : Int), .int .i64 (b : Int)] w fun e w' => e = .returned (.int .i64 (remS p b : Nat)) ∧ w' = w := by
  have HR : Hid (remS p b = remTo p b 9) := rfl
  generalize remS p b = R at *
  go_enter Try.func80, Try.ntmps80
  go_wp2_with fail
  go_loopw [5, 7] (fun t i wr => ∃ k : Nat, k ≤ 9 ∧ i = .int .i64 k ∧ t = .int .i64 ((remTo p b k : Nat) : Int) ∧ wr = w) (fun _ i _ => 9 - (intOf i).toNat)
  case atStart => exact ⟨0, Nat.zero_le _, rfl, rfl, rfl⟩
  case round =>
    obtain ⟨k, hk, rfl, rfl, rfl⟩ := hrel
    by_cases hlt : k < 9
    · have hlti : (k : Int) < 9 := by omega
      have hk7 : (8 : Int) - k = ((8 - k : Nat) : Int) := by omega
      have hbit := bit_i64 (v := p) (8 - k) (by omega)
      have hT := Nat.lt_of_lt_of_le (rem_lt p b k) (Nat.pow_le_pow_right (n := 2) (by omega) hk)
      have hor := rem_or (L := remTo p b k) (p.testBit (8 - k)) (by omega) (by omega)
      have hxor : bits .xor .i64 ((2 * remTo p b k + (p.testBit (8 - k)).toNat : Nat) : Int) b = _ := i64_xor_nat _ _ (by cases p.testBit (8 - k) <;> simp <;> omega) (by omega)
      have HS : Hid (remTo p b (k + 1) = min (2 * remTo p b k + (p.testBit (8 - k)).toNat) ((2 * remTo p b k + (p.testBit (8 - k)).toNat) ^^^ b)) := rfl
      have hd7 : 8 - k ≤ 8 := by omega
      generalize 8 - k = d at *
      generalize (2 * remTo p b k + (p.testBit d).toNat) ^^^ b = X at *
      generalize 2 * remTo p b k + (p.testBit d).toNat = L at *
      generalize remTo p b k = T at *
      generalize ((p.testBit d).toNat : Int) = c at *
      go_wp2_with fail
      go_roundw
      case rel => exact ⟨k + 1, by omega, by go_num, by rw [HS.out]; congr 1; omega, trivial⟩
      case measure => simp [intOf]; omega
    · obtain rfl : k = 9 := by omega
      generalize remTo p b 9 = T at *
      go_wp2_with fail
      go_ret
      exact ⟨by rw [HR.out]; rfl, rfl⟩

theorem irr_false {p f : Nat} (hf : f < 30) (h : remS p (f + 2) = 0) : irrS p = false := by
  rw [irrS, List.all_eq_false]
  exact ⟨f, List.mem_range.mpr hf, by simp [h]⟩
theorem irr_true {p : Nat} (h : ∀ f, f < 30 → remS p (f + 2) ≠ 0) : irrS p = true := by
  rw [irrS, List.all_eq_true]
  intro f hf
  simpa using h f (List.mem_range.mp hf)
set_option maxRecDepth 100000 in
set_option maxHeartbeats 400000 in
theorem irr_in (p : Nat) (h1 : 256 ≤ p) (h2 : p ≤ 511) (w : World) : Calls Try.prog 67 #[.int .i64 (p : Int)] w fun e w' => e = .returned (.bool (irrS p)) ∧ w' = w := by
  have HD : Hid (∀ w, Calls Try.prog 79 #[.int .i64 (p : Int)] w fun e w' => e = .returned (.bool true) ∧ w' = w) := fun w => degree_in p (by omega) (by omega) w
  have HR : Hid (∀ (f : Nat), f < 30 → ∀ w, Calls Try.prog 80 #[.int .i64 (p : Int), .int .i64 ((f : Int) + 2)] w fun e w' => e = .returned (.int .i64 (remS p (f + 2) : Nat)) ∧ w' = w) := fun f hf w => remainder_any p (f + 2) (by omega) (by omega) w
  have HF : Hid (∀ f, f < 30 → remS p (f + 2) = 0 → irrS p = false) := fun f hf h => irr_false hf h
  have HT : Hid ((∀ f, f < 30 → remS p (f + 2) ≠ 0) → irrS p = true) := irr_true
  generalize irrS p = I at *
  go_enter Try.func67, Try.ntmps67
  go_wp2_with (go_at_call 79; refine (HD.out _).mono ?_; rintro e w2 ⟨rfl, hb2⟩)
  go_loopw [3] (fun i wr => ∃ k : Nat, k ≤ 30 ∧ i = .int .i64 ((k : Int) + 2) ∧ (∀ f, f < k → remS p (f + 2) ≠ 0) ∧ wr = w) (fun i _ => 32 - (intOf i).toNat)
  case atStart => exact ⟨0, Nat.zero_le _, rfl, fun f hf => absurd hf (Nat.not_lt_zero _), rfl⟩
  case round =>
    obtain ⟨k, hk, rfl, hall, rfl⟩ := hrel
    have HA := hidD hall
    clear hall
    by_cases hlt : k < 30
    · have hlti : (k : Int) + 2 ≤ 31 := by omega
      have HC := hidD (HR.out k hlt)
      have HFk := hidD (HF.out k hlt)
      have HX : Hid (remS p (k + 2) = remS p (k + 2)) := rfl
      generalize hr : remS p (k + 2) = r at *
      have hrz := HFk.out
      by_cases h0 : r = 0
      · have hI := HFk.out h0
        have hri : (r : Int) = 0 := by omega
        have HH := hidD hI
        clear hI hrz hr h0
        go_wp2_with (go_at_call 80; refine (HC.out _).mono ?_; rintro e w3 ⟨rfl, hb3⟩)
        go_ret
        exact ⟨by rw [HH.out]; rfl, rfl⟩
      · have hri : ¬ (r : Int) = 0 := by omega
        have HN : Hid (∀ f, f < k + 1 → remS p (f + 2) ≠ 0) := fun f hf => by
          by_cases he : f = k
          · subst he; rw [hr]; exact h0
          · exact HA.out f (by omega)
        clear hr hrz h0
        go_wp2_with (go_at_call 80; refine (HC.out _).mono ?_; rintro e w3 ⟨rfl, hb3⟩)
        go_roundw
        case rel => exact ⟨k + 1, by omega, by congr 1 <;> omega, HN.out, trivial⟩
        case measure => simp [intOf]; omega
    · obtain rfl : k = 30 := by omega
      have hI := HT.out HA.out
      have HH := hidD hI
      clear hI
      go_wp2_with fail
      go_ret
      exact ⟨by rw [HH.out]; rfl, rfl⟩
set_option maxRecDepth 100000 in
set_option maxHeartbeats 400000 in
theorem irr_out (Q : Int) (h : ¬ (256 ≤ Q ∧ Q ≤ 511)) (w : World) : Calls Try.prog 67 #[.int .i64 Q] w fun e w' => e = .returned (.bool false) ∧ w' = w := by
  have HD : Hid (∀ w, Calls Try.prog 79 #[.int .i64 Q] w fun e w' => e = .returned (.bool false) ∧ w' = w) := fun w => degree_out Q h w
  clear h
  go_enter Try.func67, Try.ntmps67
  go_wp2_with (go_at_call 79; refine (HD.out _).mono ?_; rintro e w2 ⟨rfl, hb2⟩)
  go_ret
  exact ⟨rfl, rfl⟩

theorem ord_at (P g : UInt8) (F k : Nat) (h : k < F) : ordGo P g (F - k) (pw P g k) k = if pw P g (k + 1) = 1 then k + 1 else ordGo P g (F - (k + 1)) (pw P g (k + 1)) (k + 1) := by
  rw [show F - k = F - (k + 1) + 1 by omega, ordGo]; rfl
set_option maxRecDepth 100000 in
set_option maxHeartbeats 400000 in
theorem order_in (P g : UInt8) (Q : Int) (hQ : Q = 256 + (P.toNat : Int)) (w : World) : Calls Try.prog 68 #[.int .i64 Q, .int .u8 (g.toNat : Int)] w fun e w' => e = .returned (.int .i64 (ordS P g : Nat)) ∧ w' = w := by
  have HC : Hid (∀ k w, Calls Try.prog 81 #[.int .u8 ((pw P g k).toNat : Int), .int .u8 (g.toNat : Int), .int .i64 Q] w fun e w' => e = .returned (.int .u8 ((pw P g (k + 1)).toNat : Int)) ∧ w' = w) := fun k w => carry_in P (pw P g k) g Q hQ w
  have HO : Hid (ordGo P g (255 - 0) (pw P g 0) 0 = ordS P g) := rfl
  have HS := hidD (fun k h => ord_at P g 255 k h)
  generalize ordS P g = O at *
  clear hQ
  go_enter Try.func68, Try.ntmps68
  go_wp2_with fail
  go_loopw [5, 6] (fun x i wr => ∃ k : Nat, k ≤ 255 ∧ i = .int .i64 ((k : Int) + 1) ∧ x = .int .u8 ((pw P g k).toNat : Int) ∧ ordGo P g (255 - k) (pw P g k) k = O ∧ wr = w) (fun _ i _ => 256 - (intOf i).toNat)
  case atStart => exact ⟨0, Nat.zero_le _, rfl, rfl, HO.out, rfl⟩
  case round =>
    obtain ⟨k, hk, rfl, rfl, hord, rfl⟩ := hrel
    have HK := hidD hord
    clear hord
    by_cases hlt : k < 255
    · have hlti : (k : Int) + 1 ≤ 255 := by omega
      have HCk := hidD (HC.out k)
      have HSk : Hid ((if pw P g (k + 1) = 1 then k + 1 else ordGo P g (255 - (k + 1)) (pw P g (k + 1)) (k + 1)) = O) := by
        show _ = _
        rw [← HS.out k hlt]; exact HK.out
      by_cases h1 : pw P g (k + 1) = 1
      · have hv : ((pw P g (k + 1)).toNat : Int) = 1 := by rw [h1]; rfl
        rw [if_pos h1] at HSk
        generalize ((pw P g (k + 1)).toNat : Int) = x at *
        clear h1 HS HK
        go_wp2_with (go_at_call 81; refine (HCk.out _).mono ?_; rintro e w3 ⟨rfl, hb3⟩)
        go_ret
        exact ⟨by rw [← HSk.out]; simp, rfl⟩
      · have hv : ¬ ((pw P g (k + 1)).toNat : Int) = 1 := fun h => h1 (UInt8.toNat.inj (by show _ = 1; omega))
        rw [if_neg h1] at HSk
        clear h1 HS HK
        generalize hx : ((pw P g (k + 1)).toNat : Int) = x at *
        have HX := hidD hx
        clear hx
        go_wp2_with (go_at_call 81; refine (HCk.out _).mono ?_; rintro e w3 ⟨rfl, hb3⟩)
        go_roundw
        case rel => exact ⟨k + 1, by omega, by congr 1 <;> omega, by rw [HX.out], HSk.out, trivial⟩
        case measure => simp [intOf]; omega
    · obtain rfl : k = 255 := by omega
      have h0 : ordGo P g (255 - 255) (pw P g 255) 255 = 0 := rfl
      have HZ : Hid (O = 0) := by show _ = _; rw [← HK.out]; exact h0
      clear h0
      generalize ((pw P g 255).toNat : Int) = x at *
      go_wp2_with fail
      go_ret
      exact ⟨by rw [HZ.out]; rfl, rfl⟩
set_option maxRecDepth 100000 in
set_option maxHeartbeats 400000 in
theorem order_out (Q : Int) (h : ¬ (256 ≤ Q ∧ Q ≤ 511)) (g : UInt8) (w : World) : Calls Try.prog 68 #[.int .i64 Q, .int .u8 (g.toNat : Int)] w fun e w' => e = .returned (.int .i64 0) ∧ w' = w := by
  have HC : Hid (∀ (a : Int) w, a = 0 ∨ a = 1 → Calls Try.prog 81 #[.int .u8 a, .int .u8 (g.toNat : Int), .int .i64 Q] w fun e w' => e = .returned (.int .u8 0) ∧ w' = w) := fun a w ha => by
    rcases ha with rfl | rfl
    · exact carry_out Q h 0 g w
    · exact carry_out Q h 1 g w
  clear h
  go_enter Try.func68, Try.ntmps68
  go_wp2_with fail
  go_loopw [5, 6] (fun x i wr => ∃ k : Nat, k ≤ 255 ∧ i = .int .i64 ((k : Int) + 1) ∧ (∃ y : Int, x = .int .u8 y ∧ (y = 0 ∨ y = 1)) ∧ wr = w) (fun _ i _ => 256 - (intOf i).toNat)
  case atStart => exact ⟨0, Nat.zero_le _, rfl, ⟨1, rfl, .inr rfl⟩, rfl⟩
  case round =>
    obtain ⟨k, hk, rfl, ⟨y, rfl, hy⟩, rfl⟩ := hrel
    have HCk := hidD (fun w => HC.out y w hy)
    clear hy
    by_cases hlt : k < 255
    · have hlti : (k : Int) + 1 ≤ 255 := by omega
      go_wp2_with (go_at_call 81; refine (HCk.out _).mono ?_; rintro e w3 ⟨rfl, hb3⟩)
      go_roundw
      case rel => exact ⟨k + 1, by omega, by congr 1 <;> omega, ⟨0, rfl, .inl rfl⟩, trivial⟩
      case measure => simp [intOf]; omega
    · obtain rfl : k = 255 := by omega
      go_wp2_with fail
      go_ret
      exact ⟨rfl, rfl⟩
end Go.Proofs.Ytdpkeffkpecmjaa
