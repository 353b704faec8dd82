/- GfField's walk, a not 0. -/
import Derived.Test.YtfngnajjlhnglaaFil
namespace Go.Proofs.Ytfngnajjlhnglaa
open Go.RowKit
set_option linter.unusedVariables false

set_option maxRecDepth 100000 in
set_option maxHeartbeats 2000000 in
theorem field_half (P G c : UInt8) (a : UInt8) (ha : a ≠ 0) (Q : Int) (hQ : Q = 256 + (P.toNat : Int)) (hirr : irrS (256 + P.toNat) = true) (ho : ordS P G = 255) (w : World) :
    Calls Try.prog 7 #[.int .i64 Q, .int .u8 (G.toNat : Int), .int .u8 (a.toNat : Int), .int .u8 0, .int .u8 (c.toNat : Int)] w fun e w' => e = .returned (.bool true) ∧ Below w.heap.size w w' := by
  have HN := hidD (fun w => new_ok P G Q hQ hirr ho w)
  have HA := hidD (fun w => alive_any w)
  have HB : Hid (Below w.heap.size w w) := Below.refl _ _
  have HM0 : Hid (MulIs P G ((a).toNat : Int) 0 0) := by
    have h := mulIs ho (a) ((0 : UInt8))
    rw [bm_zero] at h
    exact h
  have HM1 : Hid (MulIs P G 0 ((a).toNat : Int) 0) := by
    have h := mulIs ho ((0 : UInt8)) (a)
    rw [zero_bm] at h
    exact h
  have HM2 : Hid (MulIs P G 0 ((c).toNat : Int) 0) := by
    have h := mulIs ho ((0 : UInt8)) (c)
    rw [zero_bm] at h
    exact h
  have HM3 : Hid (MulIs P G ((a).toNat : Int) 0 0) := by
    have h := mulIs ho (a) ((0 : UInt8))
    rw [bm_zero] at h
    exact h
  have HM4 : Hid (MulIs P G ((a).toNat : Int) 0 0) := by
    have h := mulIs ho (a) ((0 : UInt8))
    rw [bm_zero] at h
    exact h
  have HM5 : Hid (MulIs P G 0 ((c).toNat : Int) 0) := by
    have h := mulIs ho ((0 : UInt8)) (c)
    rw [zero_bm] at h
    exact h
  have HM6 : Hid (MulIs P G ((a).toNat : Int) ((c).toNat : Int) ((bm P a c).toNat : Int)) := by
    have h := mulIs ho (a) (c)
    exact h
  have HM7 : Hid (MulIs P G ((a).toNat : Int) 0 0) := by
    have h := mulIs ho (a) ((0 : UInt8))
    rw [bm_zero] at h
    exact h
  have HM8 : Hid (MulIs P G ((a).toNat : Int) ((c).toNat : Int) ((bm P a c).toNat : Int)) := by
    have h := mulIs ho (a) (c)
    exact h
  have HM9 : Hid (MulIs P G ((a).toNat : Int) 1 ((a).toNat : Int)) := by
    have h := mulIs ho (a) ((1 : UInt8))
    rw [bm_one] at h
    exact h
  have HM10 : Hid (MulIs P G ((a).toNat : Int) ((inv P a).toNat : Int) 1) := by
    have h := mulIs ho (a) (inv P a)
    rw [bm_inv ho ha] at h
    exact h
  have hx1 : bits .xor .u8 0 (c.toNat : Int) = (c.toNat : Int) := by have h := xor_of 0 c; rw [UInt8.zero_xor] at h; exact h
  have hx2 : bits .xor .u8 0 ((bm P a c).toNat : Int) = ((bm P a c).toNat : Int) := by have h := xor_of 0 (bm P a c); rw [UInt8.zero_xor] at h; exact h
  have HI := hidD (fun w k (h : FdAt w k P G) => inv_some ho a ha w h)
  have HLA := hidD (fun w k (h : FdAt w k P G) => log_some a ha w h)
  have HLB := hidD (fun w k (h : FdAt w k P G) => log_zero (b := k) w)
  have hla := lg_lt P G a
  have HEA : Hid (∀ w k, FdAt w k P G → Calls Try.prog 28 #[.pointer (some ⟨k, 0, none⟩), .int .i64 ((lg P G a : Nat) : Int)] w fun e w' => e = .returned (.int .u8 (a.toNat : Int)) ∧ Below w.heap.size w w') := fun w k h => by
    have := exp_any ((lg P G a : Nat) : Int) w h
    rw [pwI, show (((lg P G a : Nat) : Int) % 255).toNat = lg P G a by omega, pw_lg ho ha] at this
    exact this
  have ha0 := u8_ne ha
  have hab := u8_bne ha
  clear hQ hirr ho ha
  generalize ((bm P a c).toNat : Int) = y0 at *
  generalize ((inv P a).toNat : Int) = y1 at *
  generalize lg P G a = la at *
  generalize (a.toNat : Int) = va at *
  generalize (c.toNat : Int) = vc at *
  go_enter Try.func7, Try.ntmps7
  go_wp2_with (first
    | (go_at_call 15; refine (HA.out _).mono ?_; rintro e w3 ⟨rfl, hb3⟩; have HB := hidD (Below.next HB.out hb3); clear hb3)
    | (go_at_call 16; refine (HN.out _).mono ?_; rintro e w3 ⟨k, rfl, hwb, hfd, hb3⟩; have HF := hidD hfd; have HB := hidD (Below.next HB.out hb3); clear hb3 hwb hfd)
    | (go_at_call 26; refine (HM0.out _ _ HF.out).mono ?_; rintro e w3 ⟨rfl, hb3⟩; clear HM0; have HF := hidD (HF.out.next hb3); have HB := hidD (Below.next HB.out hb3); clear hb3)
    | (go_at_call 26; refine (HM1.out _ _ HF.out).mono ?_; rintro e w3 ⟨rfl, hb3⟩; clear HM1; have HF := hidD (HF.out.next hb3); have HB := hidD (Below.next HB.out hb3); clear hb3)
    | (go_at_call 26; refine (HM2.out _ _ HF.out).mono ?_; rintro e w3 ⟨rfl, hb3⟩; clear HM2; have HF := hidD (HF.out.next hb3); have HB := hidD (Below.next HB.out hb3); clear hb3)
    | (go_at_call 26; refine (HM3.out _ _ HF.out).mono ?_; rintro e w3 ⟨rfl, hb3⟩; clear HM3; have HF := hidD (HF.out.next hb3); have HB := hidD (Below.next HB.out hb3); clear hb3)
    | (go_at_call 26; refine (HM4.out _ _ HF.out).mono ?_; rintro e w3 ⟨rfl, hb3⟩; clear HM4; have HF := hidD (HF.out.next hb3); have HB := hidD (Below.next HB.out hb3); clear hb3)
    | (go_at_call 26; refine (HM5.out _ _ HF.out).mono ?_; rintro e w3 ⟨rfl, hb3⟩; clear HM5; have HF := hidD (HF.out.next hb3); have HB := hidD (Below.next HB.out hb3); clear hb3)
    | (go_at_call 26; refine (HM6.out _ _ HF.out).mono ?_; rintro e w3 ⟨rfl, hb3⟩; clear HM6; have HF := hidD (HF.out.next hb3); have HB := hidD (Below.next HB.out hb3); clear hb3)
    | (go_at_call 26; refine (HM7.out _ _ HF.out).mono ?_; rintro e w3 ⟨rfl, hb3⟩; clear HM7; have HF := hidD (HF.out.next hb3); have HB := hidD (Below.next HB.out hb3); clear hb3)
    | (go_at_call 26; refine (HM8.out _ _ HF.out).mono ?_; rintro e w3 ⟨rfl, hb3⟩; clear HM8; have HF := hidD (HF.out.next hb3); have HB := hidD (Below.next HB.out hb3); clear hb3)
    | (go_at_call 26; refine (HM9.out _ _ HF.out).mono ?_; rintro e w3 ⟨rfl, hb3⟩; clear HM9; have HF := hidD (HF.out.next hb3); have HB := hidD (Below.next HB.out hb3); clear hb3)
    | (go_at_call 26; refine (HM10.out _ _ HF.out).mono ?_; rintro e w3 ⟨rfl, hb3⟩; clear HM10; have HF := hidD (HF.out.next hb3); have HB := hidD (Below.next HB.out hb3); clear hb3)
    | (go_at_call 20; refine (HI.out _ _ HF.out).mono ?_; rintro e w3 ⟨rfl, hb3⟩; have HF := hidD (HF.out.next hb3); have HB := hidD (Below.next HB.out hb3); clear hb3)
    | (go_at_call 24; refine (HLA.out _ _ HF.out).mono ?_; rintro e w3 ⟨rfl, hb3⟩; clear HLA; have HF := hidD (HF.out.next hb3); have HB := hidD (Below.next HB.out hb3); clear hb3)
    | (go_at_call 24; refine (HLB.out _ _ HF.out).mono ?_; rintro e w3 ⟨rfl, hb3⟩; clear HLB; have HF := hidD (HF.out.next hb3); have HB := hidD (Below.next HB.out hb3); clear hb3)
    | (go_at_call 28; refine (HEA.out _ _ HF.out).mono ?_; rintro e w3 ⟨rfl, hb3⟩; clear HEA; have HF := hidD (HF.out.next hb3); have HB := hidD (Below.next HB.out hb3); clear hb3))
  go_ret
  exact ⟨rfl, HB.out⟩
set_option maxRecDepth 100000 in
set_option maxHeartbeats 2000000 in
theorem field_both (P G c : UInt8) (a : UInt8) (ha : a ≠ 0) (b : UInt8) (hb : b ≠ 0) (Q : Int) (hQ : Q = 256 + (P.toNat : Int)) (hirr : irrS (256 + P.toNat) = true) (ho : ordS P G = 255) (w : World) :
    Calls Try.prog 7 #[.int .i64 Q, .int .u8 (G.toNat : Int), .int .u8 (a.toNat : Int), .int .u8 (b.toNat : Int), .int .u8 (c.toNat : Int)] w fun e w' => e = .returned (.bool true) ∧ Below w.heap.size w w' := by
  have HN := hidD (fun w => new_ok P G Q hQ hirr ho w)
  have HA := hidD (fun w => alive_any w)
  have HB : Hid (Below w.heap.size w w) := Below.refl _ _
  have HM0 : Hid (MulIs P G ((a).toNat : Int) ((b).toNat : Int) ((bm P a b).toNat : Int)) := by
    have h := mulIs ho (a) (b)
    exact h
  have HM1 : Hid (MulIs P G ((b).toNat : Int) ((a).toNat : Int) ((bm P a b).toNat : Int)) := by
    have h := mulIs ho (b) (a)
    rw [bm_comm] at h
    exact h
  have HM2 : Hid (MulIs P G ((b).toNat : Int) ((c).toNat : Int) ((bm P b c).toNat : Int)) := by
    have h := mulIs ho (b) (c)
    exact h
  have HM3 : Hid (MulIs P G ((a).toNat : Int) ((bm P b c).toNat : Int) ((bm P (bm P a b) c).toNat : Int)) := by
    have h := mulIs ho (a) (bm P b c)
    rw [← bm_assoc] at h
    exact h
  have HM4 : Hid (MulIs P G ((a).toNat : Int) ((b).toNat : Int) ((bm P a b).toNat : Int)) := by
    have h := mulIs ho (a) (b)
    exact h
  have HM5 : Hid (MulIs P G ((bm P a b).toNat : Int) ((c).toNat : Int) ((bm P (bm P a b) c).toNat : Int)) := by
    have h := mulIs ho (bm P a b) (c)
    exact h
  have HM6 : Hid (MulIs P G ((a).toNat : Int) ((b ^^^ c).toNat : Int) ((bm P a (b ^^^ c)).toNat : Int)) := by
    have h := mulIs ho (a) (b ^^^ c)
    exact h
  have HM7 : Hid (MulIs P G ((a).toNat : Int) ((b).toNat : Int) ((bm P a b).toNat : Int)) := by
    have h := mulIs ho (a) (b)
    exact h
  have HM8 : Hid (MulIs P G ((a).toNat : Int) ((c).toNat : Int) ((bm P a c).toNat : Int)) := by
    have h := mulIs ho (a) (c)
    exact h
  have HM9 : Hid (MulIs P G ((a).toNat : Int) 1 ((a).toNat : Int)) := by
    have h := mulIs ho (a) ((1 : UInt8))
    rw [bm_one] at h
    exact h
  have HM10 : Hid (MulIs P G ((a).toNat : Int) ((inv P a).toNat : Int) 1) := by
    have h := mulIs ho (a) (inv P a)
    rw [bm_inv ho ha] at h
    exact h
  have HM11 : Hid (MulIs P G ((a).toNat : Int) ((b).toNat : Int) ((bm P a b).toNat : Int)) := by
    have h := mulIs ho (a) (b)
    exact h
  have hx1 := xor_of b c
  have hx2 : bits .xor .u8 ((bm P a b).toNat : Int) ((bm P a c).toNat : Int) = ((bm P a (b ^^^ c)).toNat : Int) := by rw [xor_of, bm_xor']
  have HI := hidD (fun w k (h : FdAt w k P G) => inv_some ho a ha w h)
  have HLA := hidD (fun w k (h : FdAt w k P G) => log_some a ha w h)
  have HLB := hidD (fun w k (h : FdAt w k P G) => log_some b hb w h)
  have hla := lg_lt P G a
  have HEA : Hid (∀ w k, FdAt w k P G → Calls Try.prog 28 #[.pointer (some ⟨k, 0, none⟩), .int .i64 ((lg P G a : Nat) : Int)] w fun e w' => e = .returned (.int .u8 (a.toNat : Int)) ∧ Below w.heap.size w w') := fun w k h => by
    have := exp_any ((lg P G a : Nat) : Int) w h
    rw [pwI, show (((lg P G a : Nat) : Int) % 255).toNat = lg P G a by omega, pw_lg ho ha] at this
    exact this
  have hlb := lg_lt P G b
  have HEB : Hid (∀ w k, FdAt w k P G → Calls Try.prog 28 #[.pointer (some ⟨k, 0, none⟩), .int .i64 (((lg P G a : Nat) : Int) + ((lg P G b : Nat) : Int))] w fun e w' => e = .returned (.int .u8 ((bm P a b).toNat : Int)) ∧ Below w.heap.size w w') := fun w k h => by
    have := exp_any (((lg P G a : Nat) : Int) + ((lg P G b : Nat) : Int)) w h
    rw [pwI, show ((((lg P G a : Nat) : Int) + ((lg P G b : Nat) : Int)) % 255).toNat = (lg P G a + lg P G b) % 255 by omega, mul_lg ho ha hb] at this
    exact this
  have hb0 := u8_ne hb
  have hbb := u8_bne hb
  have ha0 := u8_ne ha
  have hab := u8_bne ha
  clear hQ hirr ho ha hb
  generalize ((bm P (bm P a b) c).toNat : Int) = y0 at *
  generalize ((bm P a (b ^^^ c)).toNat : Int) = y1 at *
  generalize ((bm P a c).toNat : Int) = y2 at *
  generalize ((bm P a b).toNat : Int) = y3 at *
  generalize ((bm P b c).toNat : Int) = y4 at *
  generalize ((b ^^^ c).toNat : Int) = y5 at *
  generalize ((inv P a).toNat : Int) = y6 at *
  generalize lg P G a = la at *
  generalize lg P G b = lb at *
  generalize (a.toNat : Int) = va at *
  generalize (b.toNat : Int) = vb at *
  generalize (c.toNat : Int) = vc at *
  go_enter Try.func7, Try.ntmps7
  go_wp2_with (first
    | (go_at_call 15; refine (HA.out _).mono ?_; rintro e w3 ⟨rfl, hb3⟩; have HB := hidD (Below.next HB.out hb3); clear hb3)
    | (go_at_call 16; refine (HN.out _).mono ?_; rintro e w3 ⟨k, rfl, hwb, hfd, hb3⟩; have HF := hidD hfd; have HB := hidD (Below.next HB.out hb3); clear hb3 hwb hfd)
    | (go_at_call 26; refine (HM0.out _ _ HF.out).mono ?_; rintro e w3 ⟨rfl, hb3⟩; clear HM0; have HF := hidD (HF.out.next hb3); have HB := hidD (Below.next HB.out hb3); clear hb3)
    | (go_at_call 26; refine (HM1.out _ _ HF.out).mono ?_; rintro e w3 ⟨rfl, hb3⟩; clear HM1; have HF := hidD (HF.out.next hb3); have HB := hidD (Below.next HB.out hb3); clear hb3)
    | (go_at_call 26; refine (HM2.out _ _ HF.out).mono ?_; rintro e w3 ⟨rfl, hb3⟩; clear HM2; have HF := hidD (HF.out.next hb3); have HB := hidD (Below.next HB.out hb3); clear hb3)
    | (go_at_call 26; refine (HM3.out _ _ HF.out).mono ?_; rintro e w3 ⟨rfl, hb3⟩; clear HM3; have HF := hidD (HF.out.next hb3); have HB := hidD (Below.next HB.out hb3); clear hb3)
    | (go_at_call 26; refine (HM4.out _ _ HF.out).mono ?_; rintro e w3 ⟨rfl, hb3⟩; clear HM4; have HF := hidD (HF.out.next hb3); have HB := hidD (Below.next HB.out hb3); clear hb3)
    | (go_at_call 26; refine (HM5.out _ _ HF.out).mono ?_; rintro e w3 ⟨rfl, hb3⟩; clear HM5; have HF := hidD (HF.out.next hb3); have HB := hidD (Below.next HB.out hb3); clear hb3)
    | (go_at_call 26; refine (HM6.out _ _ HF.out).mono ?_; rintro e w3 ⟨rfl, hb3⟩; clear HM6; have HF := hidD (HF.out.next hb3); have HB := hidD (Below.next HB.out hb3); clear hb3)
    | (go_at_call 26; refine (HM7.out _ _ HF.out).mono ?_; rintro e w3 ⟨rfl, hb3⟩; clear HM7; have HF := hidD (HF.out.next hb3); have HB := hidD (Below.next HB.out hb3); clear hb3)
    | (go_at_call 26; refine (HM8.out _ _ HF.out).mono ?_; rintro e w3 ⟨rfl, hb3⟩; clear HM8; have HF := hidD (HF.out.next hb3); have HB := hidD (Below.next HB.out hb3); clear hb3)
    | (go_at_call 26; refine (HM9.out _ _ HF.out).mono ?_; rintro e w3 ⟨rfl, hb3⟩; clear HM9; have HF := hidD (HF.out.next hb3); have HB := hidD (Below.next HB.out hb3); clear hb3)
    | (go_at_call 26; refine (HM10.out _ _ HF.out).mono ?_; rintro e w3 ⟨rfl, hb3⟩; clear HM10; have HF := hidD (HF.out.next hb3); have HB := hidD (Below.next HB.out hb3); clear hb3)
    | (go_at_call 26; refine (HM11.out _ _ HF.out).mono ?_; rintro e w3 ⟨rfl, hb3⟩; clear HM11; have HF := hidD (HF.out.next hb3); have HB := hidD (Below.next HB.out hb3); clear hb3)
    | (go_at_call 20; refine (HI.out _ _ HF.out).mono ?_; rintro e w3 ⟨rfl, hb3⟩; have HF := hidD (HF.out.next hb3); have HB := hidD (Below.next HB.out hb3); clear hb3)
    | (go_at_call 24; refine (HLA.out _ _ HF.out).mono ?_; rintro e w3 ⟨rfl, hb3⟩; clear HLA; have HF := hidD (HF.out.next hb3); have HB := hidD (Below.next HB.out hb3); clear hb3)
    | (go_at_call 24; refine (HLB.out _ _ HF.out).mono ?_; rintro e w3 ⟨rfl, hb3⟩; clear HLB; have HF := hidD (HF.out.next hb3); have HB := hidD (Below.next HB.out hb3); clear hb3)
    | (go_at_call 28; refine (HEA.out _ _ HF.out).mono ?_; rintro e w3 ⟨rfl, hb3⟩; clear HEA; have HF := hidD (HF.out.next hb3); have HB := hidD (Below.next HB.out hb3); clear hb3)
    | (go_at_call 28; refine (HEB.out _ _ HF.out).mono ?_; rintro e w3 ⟨rfl, hb3⟩; clear HEB; have HF := hidD (HF.out.next hb3); have HB := hidD (Below.next HB.out hb3); clear hb3))
  go_ret
  exact ⟨rfl, HB.out⟩
theorem gfField_any (Q : Int) (ng na nb nc : Nat) (hg : ng < 256) (ha : na < 256) (hb : nb < 256) (hc : nc < 256) (w : World) : Calls Try.prog 7 #[.int .i64 Q, .int .u8 ng, .int .u8 na, .int .u8 nb, .int .u8 nc] w fun e w' => e = .returned (.bool true) ∧ Below w.heap.size w w' := by
  obtain ⟨G, rfl⟩ := u8_of ng hg
  obtain ⟨a, rfl⟩ := u8_of na ha
  obtain ⟨b, rfl⟩ := u8_of nb hb
  obtain ⟨c, rfl⟩ := u8_of nc hc
  by_cases h : 256 ≤ Q ∧ Q ≤ 511
  · obtain ⟨P, hQ⟩ := poly_of Q h
    by_cases hk : irrS (256 + P.toNat) = true ∧ ordS P G = 255
    · by_cases h0 : a = 0
      · subst h0
        exact field_zero P G c b Q hQ hk.1 hk.2 w
      · by_cases h1 : b = 0
        · subst h1
          exact field_half P G c a h0 Q hQ hk.1 hk.2 w
        · exact field_both P G c a h0 b h1 Q hQ hk.1 hk.2 w
    · have hP := u8_lt P
      have e : Q = ((256 + P.toNat : Nat) : Int) := by omega
      refine field_bad Q G a b c w (irrS (256 + P.toNat)) ((ordS P G : Nat) : Int) ?_ (fun w => new_bad P G Q hQ hk w) (fun w => ?_) (fun w => order_in P G Q hQ w)
      · by_cases h1 : irrS (256 + P.toNat) = true
        · exact .inr fun h2 => hk ⟨h1, by omega⟩
        · exact .inl (by simpa using h1)
      · rw [e]; exact irr_in (256 + P.toNat) (by omega) (by omega) w
  · exact field_bad Q G a b c w false 0 (.inl rfl) (fun w => new_out Q h G w) (fun w => irr_out Q h w) (fun w => order_out Q h G w)
end Go.Proofs.Ytfngnajjlhnglaa
