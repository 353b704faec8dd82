/- What the small calls answer: flags, ones, parity, unlike bits, halves of bytes. -/
import Derived.Test.YtgbjoblojkmdnaaBase
import Derived.Test.YtgbjoblojkmdnaaApl
import Derived.BigQuiet
import Derived.Laws.ShiftsVarLaws
import Derived.Laws.BitsAllLaws
import Derived.Laws.Unary
namespace Go.Proofs.Ytgbjoblojkmdnaa
open Go.RowKit
set_option linter.unusedVariables false

theorem hidD {q : Prop} (h : q) : Hid q := h
theorem bit_nat (v k : Nat) : v / 2 ^ k % 2 = (v.testBit k).toNat := by
  rw [Nat.testBit_eq_decide_div_mod_eq]
  by_cases h : v / 2 ^ k % 2 = 1
  · simp [h]
  · have : v / 2 ^ k % 2 = 0 := by omega
    simp [this]
theorem bit_u32 {v : Nat} (k : Nat) (hv : v < 4294967296) : bits .and .u32 ((v : Int) / 2 ^ k) 1 = ((v.testBit k).toNat : Int) := by
  have h1 : (v : Int) / 2 ^ k = ((v / 2 ^ k : Nat) : Int) := by simp
  have h2 : v / 2 ^ k ≤ v := Nat.div_le_self _ _
  rw [h1, show (1 : Int) = ((1 : Nat) : Int) from rfl, u32_and_nat _ _ (by omega) (by omega), Nat.and_one_is_mod, bit_nat]
theorem and128_ne : ∀ v < 256, (bits .and .u8 ((v : Nat) : Int) 128 != 0) = decide (128 ≤ v) := by decide +kernel
theorem is_zero (v : Nat) : ((v : Int) == 0) = decide (v = 0) := by
  by_cases h : v = 0
  · subst h; rfl
  · rw [decide_eq_false h]; simp; exact h
theorem is_ge (v : Nat) : decide ((v : Int) ≥ 128) = decide (128 ≤ v) := by
  by_cases h : 128 ≤ v
  · rw [decide_eq_true h, decide_eq_true (by omega)]
  · rw [decide_eq_false h, decide_eq_false (by omega)]

/- what a call answers; the world stays -/
def W1 (f : Nat) (args : Array Value) (v : Value) : Prop := ∀ w, Calls Try.prog f args w fun e w' => e = .returned v ∧ w' = w

set_option maxRecDepth 100000 in
theorem with_any (p f : Nat) (on : Bool) (hp : p < 256) (hf : f < 256) : W1 15 #[.int .u8 (p : Int), .int .u8 (f : Int), .bool on] (.int .u8 (wi p f on : Int)) := by
  intro w
  have ho := u8_or_nat p f hp hf
  have ha := u8_andNot_nat p f hp hf
  cases on <;>
  · go_enter Try.func15, Try.ntmps15
    go_wp2_with fail
    go_ret
    exact ⟨rfl, rfl⟩

set_option maxRecDepth 100000 in
theorem flags_any (v p : Nat) (hv : v < 256) (hp : p < 256) : W1 22 #[.int .u8 (v : Int), .int .u8 (p : Int)] (.int .u8 (fl v p : Int)) := by
  intro w
  have H := hidD with_any
  have hw : ∀ b, wi p 128 b < 256 := fun b => wi_lt hp (by decide) b
  have hN := hidD (and128_ne v hv)
  have hG := hidD (is_ge v)
  have hZ := hidD (is_zero v)
  go_enter Try.func22, Try.ntmps22
  go_wp2_with (go_at_call 15; refine (H.out _ _ _ (by first | exact hp | exact hw _) (by decide) _).mono ?_; rintro e w2 ⟨rfl, rfl⟩)
  go_ret
  unfold fl
  exact ⟨by first | (rw [hN.out, hZ.out]; rfl) | (rw [hG.out, hZ.out]; rfl), rfl⟩

set_option maxRecDepth 100000 in
theorem flagged_any (v p : Nat) (hv : v < 256) (hp : p < 256) : W1 19 #[.int .u8 (v : Int), .int .u8 (p : Int)] (.tuple #[.int .u8 (v : Int), .int .u8 (fl v p : Int)]) := by
  intro w
  have H := hidD (flags_any v p hv hp)
  go_enter Try.func19, Try.ntmps19
  go_wp2_with (go_at_call 22; refine (H.out _).mono ?_; rintro e w2 ⟨rfl, rfl⟩)
  go_ret2
  exact ⟨rfl, rfl⟩

set_option maxRecDepth 100000 in
theorem carry_any (p : Nat) (hp : p < 256) : W1 14 #[.int .u8 (p : Int)] (.int .u8 ((p % 2 : Nat) : Int)) := by
  intro w
  have ha : bits .and .u8 (p : Int) 1 = ((p % 2 : Nat) : Int) := by rw [← Nat.and_one_is_mod]; exact u8_and_nat p 1 hp (by decide)
  generalize ((p % 2 : Nat) : Int) = c at *
  go_enter Try.func14, Try.ntmps14
  go_wp2_with fail
  go_ret
  exact ⟨rfl, rfl⟩

set_option maxRecDepth 100000 in
theorem onesOf_any (v n : Nat) (hv : v < 4294967296) (hn : n ≤ 32) (w : World) : Calls Try.prog 25 #[.int .u32 (v : Int), .int .i64 (n : Int)] w fun e w' => e = .returned (.int .i64 (onTo v n : Int)) ∧ w' = w := by
  go_enter Try.func25, Try.ntmps25
  go_wp2_with fail
  go_loopw [5, 8] (fun t i wr => ∃ k : Nat, k ≤ n ∧ i = .int .i64 k ∧ t = .int .i64 (onTo v k : Int) ∧ wr = w) (fun _ i _ => n - (intOf i).toNat)
  case atStart => exact ⟨0, Nat.zero_le _, rfl, rfl, rfl⟩
  case round =>
    obtain ⟨k, hk, rfl, rfl, rfl⟩ := hrel
    have ho := on_le v k
    by_cases hlt : k < n
    · have hlti : (k : Int) < n := by omega
      have hbit := bit_u32 k hv
      have hS : onTo v (k + 1) = onTo v k + (v.testBit k).toNat := rfl
      have HS := hidD hS
      clear hS
      generalize onTo v k = T at *
      generalize v.testBit k = b at *
      cases b
      · go_wp2_with fail
        go_roundw
        case rel => exact ⟨k + 1, by omega, by go_num, by rw [HS.out]; simp, trivial⟩
        case measure => simp [intOf]; omega
      · go_wp2_with fail
        go_roundw
        case rel => exact ⟨k + 1, by omega, by go_num, by rw [HS.out]; simp, trivial⟩
        case measure => simp [intOf]; omega
    · obtain rfl : k = n := by omega
      go_wp2_with fail
      go_ret
      exact ⟨rfl, rfl⟩

set_option maxRecDepth 100000 in
theorem ones_any (c : Nat) (hc : c < 256) : W1 24 #[.int .u8 (c : Int)] (.int .i64 (onTo c 8 : Int)) := by
  intro w
  have H : Hid (∀ w, Calls Try.prog 25 #[.int .u32 (c : Int), .int .i64 8] w fun e w' => e = .returned (.int .i64 (onTo c 8 : Int)) ∧ w' = w) := fun w => onesOf_any c 8 (by omega) (by omega) w
  generalize (onTo c 8 : Int) = R at *
  go_enter Try.func24, Try.ntmps24
  go_wp2_with (go_at_call 25; refine (H.out _).mono ?_; rintro e w2 ⟨rfl, hb2⟩)
  go_ret
  exact ⟨rfl, rfl⟩

set_option maxRecDepth 100000 in
theorem parity_any (c : Nat) (hc : c < 256) : W1 23 #[.int .u8 (c : Int)] (.int .i64 ((onTo c 8 % 2 : Nat) : Int)) := by
  intro w
  have H := hidD (ones_any c hc)
  have h := on_le c 8
  generalize onTo c 8 = R at *
  have ha : bits .and .i64 (R : Int) 1 = ((R % 2 : Nat) : Int) := by
    have : ∀ R ≤ 8, bits .and .i64 ((R : Nat) : Int) 1 = ((R % 2 : Nat) : Int) := by decide +kernel
    exact this R h
  generalize ((R % 2 : Nat) : Int) = R2 at *
  go_enter Try.func23, Try.ntmps23
  go_wp2_with (go_at_call 24; refine (H.out _).mono ?_; rintro e w2 ⟨rfl, hb2⟩)
  go_ret
  exact ⟨rfl, rfl⟩

set_option maxRecDepth 100000 in
theorem unlike_any (a b : Nat) (ha : a < 256) (hb : b < 256) : W1 21 #[.int .u8 (a : Int), .int .u8 (b : Int)] (.bool (unl a b)) := by
  intro w
  have hx : a ^^^ b < 256 := Nat.xor_lt_two_pow (n := 8) ha hb
  have e1 := u8_xor_nat a b ha hb
  have e2 : bits .and .u8 ((a ^^^ b : Nat) : Int) 128 = (((a ^^^ b) &&& 128 : Nat) : Int) := u8_and_nat _ 128 hx (by decide)
  have H := hidD (parity_any ((a ^^^ b) &&& 128) (Nat.lt_of_le_of_lt Nat.and_le_left hx))
  rw [unl_par a b ha hb] at H
  generalize unl a b = U at *
  generalize (a ^^^ b) &&& 128 = c at *
  generalize a ^^^ b = d at *
  cases U <;>
  · go_enter Try.func21, Try.ntmps21
    go_wp2_with (go_at_call 23; refine (H.out _).mono ?_; rintro e w2 ⟨rfl, rfl⟩)
    go_ret
    exact ⟨rfl, rfl⟩

set_option maxRecDepth 100000 in
theorem overflows_any (a b s : Nat) (ha : a < 256) (hb : b < 256) (hs : s < 256) : W1 16 #[.int .u8 (a : Int), .int .u8 (b : Int), .int .u8 (s : Int)] (.bool (ov a b s)) := by
  intro w
  have H := hidD unlike_any
  have hU : unl a b = true ∨ unl a b = false := by cases unl a b <;> simp
  unfold ov
  rcases hU with hU | hU <;> rw [hU]
  · go_enter Try.func16, Try.ntmps16
    go_wp2_with (go_at_call 21; refine (H.out _ _ (by assumption) (by assumption) _).mono ?_; rintro e w2 ⟨rfl, rfl⟩; rw [hU])
    go_ret
    exact ⟨rfl, rfl⟩
  · go_enter Try.func16, Try.ntmps16
    go_wp2_with (go_at_call 21; refine (H.out _ _ (by assumption) (by assumption) _).mono ?_; rintro e w2 ⟨rfl, rfl⟩; first | rw [hU] | skip)
    go_ret
    exact ⟨rfl, rfl⟩

end Go.Proofs.Ytgbjoblojkmdnaa
