/- GfOrders' walk. -/
import Derived.Test.YtfngnajjlhnglabAlv
namespace Go.Proofs.Ytfngnajjlhnglab
open Go.RowKit
set_option linter.unusedVariables false

theorem u8_of (n : Nat) (h : n < 256) : ∃ a : UInt8, a.toNat = n := ⟨UInt8.ofNat n, by rw [UInt8.toNat_ofNat']; exact Nat.mod_eq_of_lt h⟩
theorem poly_of (Q : Int) (h : 256 ≤ Q ∧ Q ≤ 511) : ∃ P : UInt8, Q = 256 + (P.toNat : Int) := by
  obtain ⟨P, hP⟩ := u8_of (Q - 256).toNat (by omega)
  exact ⟨P, by omega⟩
theorem ord_le (P g : UInt8) : ordS P g ≤ 255 := by
  rcases ord_spec P g with h | h
  · rw [h.1]; omega
  · exact h.2.1
theorem tmod_zero (n : Int) : n.tmod 255 = 0 ↔ n % 255 = 0 := by
  have h3 := Int.emod_nonneg n (show (255 : Int) ≠ 0 by omega)
  have h4 := Int.emod_lt_of_pos n (show (0 : Int) < 255 by omega)
  by_cases hn : n.tmod 255 < 0
  · have := tmod_neg hn
    have h5 := tmod_lo n
    generalize n.tmod 255 = t at *
    generalize n % 255 = m at *
    exact ⟨fun h => by omega, fun h => by omega⟩
  · rw [tmod_nonneg hn]
theorem pwI_one {P g : UInt8} (ho : ordS P g = 255) (n : Int) : pwI P g n = 1 ↔ n % 255 = 0 := by
  have h3 := Int.emod_nonneg n (show (255 : Int) ≠ 0 by omega)
  have h4 := Int.emod_lt_of_pos n (show (0 : Int) < 255 by omega)
  unfold pwI
  constructor
  · intro h
    have := pw_inj ho (i := (n % 255).toNat) (j := 0) (by omega) (by omega) h
    omega
  · intro h
    rw [h]; rfl
theorem pwI_more (P g : UInt8) (n : Int) : pwI P g (n.tmod 255 + 255) = pwI P g n := by
  unfold pwI
  congr 2
  by_cases hn : n.tmod 255 < 0
  · have := tmod_neg hn; omega
  · have := tmod_nonneg hn; omega

set_option maxRecDepth 100000 in
set_option maxHeartbeats 1000000 in
theorem orders_red (Q O : Int) (G : UInt8) (n : Int) (w : World) (h0 : 0 ≤ O) (h1 : O ≤ 256) (hO : ∀ w, Calls Try.prog 5 #[.int .i64 Q, .int .u8 (G.toNat : Int)] w fun e w' => e = .returned (.int .i64 O) ∧ w' = w)
    (hI : ∀ w, Calls Try.prog 6 #[.int .i64 Q] w fun e w' => e = .returned (.bool false) ∧ w' = w) : Calls Try.prog 3 #[.int .i64 Q, .int .u8 (G.toNat : Int), .int .i64 n] w fun e w' => e = .returned (.bool true) ∧ Below w.heap.size w w' := by
  have HO := hidD hO
  have HI := hidD hI
  have HA := hidD (fun w => alive_any w)
  clear hO hI
  go_enter Try.func3, Try.ntmps3
  go_wp2_with (first
    | (go_at_call 4; refine (HA.out _).mono ?_; rintro e w3 ⟨rfl, hb3⟩; have HB := hidD hb3; clear hb3)
    | (go_at_call 5; refine (HO.out _).mono ?_; rintro e w4 ⟨rfl, hb4⟩)
    | (go_at_call 6; refine (HI.out _).mono ?_; rintro e w4 ⟨rfl, hb4⟩))
  go_ret
  exact ⟨rfl, HB.out⟩
set_option maxRecDepth 100000 in
set_option maxHeartbeats 1000000 in
theorem orders_zero (Q : Int) (n : Int) (w : World) (hO : ∀ w, Calls Try.prog 5 #[.int .i64 Q, .int .u8 0] w fun e w' => e = .returned (.int .i64 0) ∧ w' = w)
    (hI : ∀ w, Calls Try.prog 6 #[.int .i64 Q] w fun e w' => e = .returned (.bool true) ∧ w' = w) : Calls Try.prog 3 #[.int .i64 Q, .int .u8 0, .int .i64 n] w fun e w' => e = .returned (.bool true) ∧ Below w.heap.size w w' := by
  have HO := hidD hO
  have HI := hidD hI
  have HA := hidD (fun w => alive_any w)
  clear hO hI
  go_enter Try.func3, Try.ntmps3
  go_wp2_with (first
    | (go_at_call 4; refine (HA.out _).mono ?_; rintro e w3 ⟨rfl, hb3⟩; have HB := hidD hb3; clear hb3)
    | (go_at_call 5; refine (HO.out _).mono ?_; rintro e w4 ⟨rfl, hb4⟩)
    | (go_at_call 6; refine (HI.out _).mono ?_; rintro e w4 ⟨rfl, hb4⟩))
  go_ret
  exact ⟨rfl, HB.out⟩
set_option maxRecDepth 100000 in
set_option maxHeartbeats 1000000 in
theorem orders_small (Q O : Int) (G : UInt8) (hG : G ≠ 0) (n : Int) (w : World) (h0 : 1 ≤ O) (h1 : O ≠ 255) (h2 : Int.tmod 255 O = 0) (hO : ∀ w, Calls Try.prog 5 #[.int .i64 Q, .int .u8 (G.toNat : Int)] w fun e w' => e = .returned (.int .i64 O) ∧ w' = w)
    (hI : ∀ w, Calls Try.prog 6 #[.int .i64 Q] w fun e w' => e = .returned (.bool true) ∧ w' = w) (hN : ∀ w, Calls Try.prog 7 #[.int .i64 Q, .int .u8 (G.toNat : Int)] w fun e w' => e = .returned (.tuple #[.pointer none, .int .i64 50]) ∧ Below w.heap.size w w') : Calls Try.prog 3 #[.int .i64 Q, .int .u8 (G.toNat : Int), .int .i64 n] w fun e w' => e = .returned (.bool true) ∧ Below w.heap.size w w' := by
  have HO := hidD hO
  have HI := hidD hI
  have HN := hidD hN
  have HA := hidD (fun w => alive_any w)
  have hg0 := u8_ne hG
  have hgb := u8_bne hG
  have h1b : (O == 255) = false := by simpa using h1
  have hlt : ¬ O < 1 := by omega
  have hne : ¬ O = 0 := by omega
  have hneb : (O == 0) = false := by simpa using hne
  clear hO hI hN hG
  generalize (G.toNat : Int) = g at *
  go_enter Try.func3, Try.ntmps3
  go_wp2_with (first
    | (go_at_call 4; refine (HA.out _).mono ?_; rintro e w3 ⟨rfl, hb3⟩; have HB := hidD hb3; clear hb3)
    | (go_at_call 5; refine (HO.out _).mono ?_; rintro e w4 ⟨rfl, hb4⟩)
    | (go_at_call 6; refine (HI.out _).mono ?_; rintro e w4 ⟨rfl, hb4⟩)
    | (go_at_call 7; refine (HN.out _).mono ?_; rintro e w3 ⟨rfl, hb3⟩; have HB := hidD (Below.next HB.out hb3); clear hb3))
  go_ret
  exact ⟨rfl, HB.out⟩
set_option maxRecDepth 100000 in
set_option maxHeartbeats 1000000 in
theorem orders_full {P G : UInt8} (Q : Int) (hQ : Q = 256 + (P.toNat : Int)) (hirr : irrS (256 + P.toNat) = true) (ho : ordS P G = 255) (n : Int) (w : World) (hI : ∀ w, Calls Try.prog 6 #[.int .i64 Q] w fun e w' => e = .returned (.bool true) ∧ w' = w) : Calls Try.prog 3 #[.int .i64 Q, .int .u8 (G.toNat : Int), .int .i64 n] w fun e w' => e = .returned (.bool true) ∧ Below w.heap.size w w' := by
  have HO : Hid (∀ w, Calls Try.prog 5 #[.int .i64 Q, .int .u8 (G.toNat : Int)] w fun e w' => e = .returned (.int .i64 255) ∧ w' = w) := fun w => by
    have := order_in P G Q hQ w
    rw [ho] at this
    exact this
  have HI := hidD hI
  have HN := hidD (fun w => new_ok P G Q hQ hirr ho w)
  have HA := hidD (fun w => alive_any w)
  have HE := hidD (fun w k (h : FdAt w k P G) => exp_any n w h)
  have HE2 := hidD (fun w k (h : FdAt w k P G) => exp_any (n.tmod 255 + 255) w h)
  rw [pwI_more] at HE2
  have hG : G ≠ 0 := fun h => by rw [h, zero_ord] at ho; omega
  have hg0 := u8_ne hG
  have hgb := u8_bne hG
  have hx : pwI P G n ≠ 0 := pw_ne ho _
  have hx0 := u8_ne hx
  have hxb := u8_bne hx
  have h1 := tmod_lo n
  have h2 := tmod_hi n
  have hw1 : IntKind.i64.wrap (n.tmod 255 + 255) = n.tmod 255 + 255 := by rw [IntKind.wrap_i64]; omega
  have hw2 : wrap64 (n.tmod 255 + 255) = n.tmod 255 + 255 := by unfold wrap64; omega
  have hq := (pwI_one ho n).trans (tmod_zero n).symm
  by_cases hn : n.tmod 255 = 0
  · have hX : ((pwI P G n).toNat : Int) = 1 := by rw [hq.mpr hn]; rfl
    rw [hX] at HE HE2
    rw [hn, Int.zero_add] at HE2
    clear hQ hirr ho hI hG hx hx0 hxb hq hX hw1 hw2 h1 h2
    generalize (G.toNat : Int) = g at *
    go_enter Try.func3, Try.ntmps3
    go_wp2_with (first
      | (go_at_call 4; refine (HA.out _).mono ?_; rintro e w3 ⟨rfl, hb3⟩; have HB := hidD hb3; clear hb3)
      | (go_at_call 5; refine (HO.out _).mono ?_; rintro e w4 ⟨rfl, hb4⟩)
      | (go_at_call 6; refine (HI.out _).mono ?_; rintro e w4 ⟨rfl, hb4⟩)
      | (go_at_call 7; refine (HN.out _).mono ?_; rintro e w3 ⟨k, rfl, hwb, hfd, hb3⟩; have HF := hidD hfd; have HB := hidD (Below.next HB.out hb3); have HEa := hidD (HE.out); have HEb := hidD HE.out; have HEc := hidD HE.out; clear hb3 hfd hwb HE)
      | (go_at_call 8; refine (HEa.out _ _ HF.out).mono ?_; rintro e w3 ⟨rfl, hb3⟩; have HF := hidD (HF.out.next hb3); have HB := hidD (Below.next HB.out hb3); clear hb3 HEa)
      | (go_at_call 8; refine (HE2.out _ _ HF.out).mono ?_; rintro e w3 ⟨rfl, hb3⟩; have HF := hidD (HF.out.next hb3); have HB := hidD (Below.next HB.out hb3); clear hb3 HE2)
      | (go_at_call 8; refine (HEb.out _ _ HF.out).mono ?_; rintro e w3 ⟨rfl, hb3⟩; have HF := hidD (HF.out.next hb3); have HB := hidD (Below.next HB.out hb3); clear hb3 HEb)
      | (go_at_call 8; refine (HEc.out _ _ HF.out).mono ?_; rintro e w3 ⟨rfl, hb3⟩; have HF := hidD (HF.out.next hb3); have HB := hidD (Below.next HB.out hb3); clear hb3 HEc))
    go_ret
    exact ⟨by simp, HB.out⟩
  · have hX : ¬ ((pwI P G n).toNat : Int) = 1 := fun h => hn (hq.mp (UInt8.toNat.inj (by show _ = 1; omega)))
    have hXb : (((pwI P G n).toNat : Int) == 1) = false := by simpa using hX
    have hnb : (n.tmod 255 == 0) = false := by simpa using hn
    clear hQ hirr ho hI hG hx hq
    generalize (G.toNat : Int) = g at *
    generalize ((pwI P G n).toNat : Int) = X at *
    go_enter Try.func3, Try.ntmps3
    go_wp2_with (first
      | (go_at_call 4; refine (HA.out _).mono ?_; rintro e w3 ⟨rfl, hb3⟩; have HB := hidD hb3; clear hb3)
      | (go_at_call 5; refine (HO.out _).mono ?_; rintro e w4 ⟨rfl, hb4⟩)
      | (go_at_call 6; refine (HI.out _).mono ?_; rintro e w4 ⟨rfl, hb4⟩)
      | (go_at_call 7; refine (HN.out _).mono ?_; rintro e w3 ⟨k, rfl, hwb, hfd, hb3⟩; have HF := hidD hfd; have HB := hidD (Below.next HB.out hb3); have HEa := hidD (HE.out); have HEb := hidD HE.out; have HEc := hidD HE.out; clear hb3 hfd hwb HE)
      | (go_at_call 8; refine (HEa.out _ _ HF.out).mono ?_; rintro e w3 ⟨rfl, hb3⟩; have HF := hidD (HF.out.next hb3); have HB := hidD (Below.next HB.out hb3); clear hb3 HEa)
      | (go_at_call 8; refine (HE2.out _ _ HF.out).mono ?_; rintro e w3 ⟨rfl, hb3⟩; have HF := hidD (HF.out.next hb3); have HB := hidD (Below.next HB.out hb3); clear hb3 HE2)
      | (go_at_call 8; refine (HEb.out _ _ HF.out).mono ?_; rintro e w3 ⟨rfl, hb3⟩; have HF := hidD (HF.out.next hb3); have HB := hidD (Below.next HB.out hb3); clear hb3 HEb)
      | (go_at_call 8; refine (HEc.out _ _ HF.out).mono ?_; rintro e w3 ⟨rfl, hb3⟩; have HF := hidD (HF.out.next hb3); have HB := hidD (Below.next HB.out hb3); clear hb3 HEc))
    go_ret
    exact ⟨by simp [hx0], HB.out⟩
theorem gfOrders_any (Q : Int) (ng : Nat) (hg : ng < 256) (n : Int) (w : World) : Calls Try.prog 3 #[.int .i64 Q, .int .u8 ng, .int .i64 n] w fun e w' => e = .returned (.bool true) ∧ Below w.heap.size w w' := by
  obtain ⟨G, rfl⟩ := u8_of ng hg
  by_cases h : 256 ≤ Q ∧ Q ≤ 511
  · obtain ⟨P, hQ⟩ := poly_of Q h
    have hP := u8_lt P
    have e : Q = ((256 + P.toNat : Nat) : Int) := by omega
    have hI : ∀ w, Calls Try.prog 6 #[.int .i64 Q] w fun e w' => e = .returned (.bool (irrS (256 + P.toNat))) ∧ w' = w := fun w => by
      rw [e]; exact irr_in (256 + P.toNat) (by omega) (by omega) w
    have hle := ord_le P G
    by_cases hi : irrS (256 + P.toNat) = true
    · rw [hi] at hI
      by_cases h0 : G = 0
      · subst h0
        refine orders_zero Q n w (fun w => ?_) hI
        have := order_in P 0 Q hQ w
        rw [zero_ord] at this
        exact this
      · have hd := ord_divides hi h0
        by_cases ho : ordS P G = 255
        · exact orders_full Q hQ hi ho n w hI
        · refine orders_small Q ((ordS P G : Nat) : Int) G h0 n w (by omega) (by omega) ?_ (fun w => order_in P G Q hQ w) hI (fun w => new_bad P G Q hQ (fun h => ho h.2) w)
          rw [Int.tmod_eq_emod_of_nonneg (by omega)]
          rw [show (255 : Int) % ((ordS P G : Nat) : Int) = ((255 % ordS P G : Nat) : Int) by simp, hd.2]; rfl
    · rw [show irrS (256 + P.toNat) = false by simpa using hi] at hI
      exact orders_red Q ((ordS P G : Nat) : Int) G n w (by omega) (by omega) (fun w => order_in P G Q hQ w) hI
  · exact orders_red Q 0 G n w (by omega) (by omega) (fun w => order_out Q h G w) (fun w => irr_out Q h w)
end Go.Proofs.Ytfngnajjlhnglab
