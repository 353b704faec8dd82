/- GfFields' walk. -/
import Derived.Test.YtfngnajjlhnglaaCrs
namespace Go.Proofs.Ytfngnajjlhnglaa
open Go.RowKit
set_option linter.unusedVariables false

/-- Of two calls, the program's and the document's, in worlds that hold a field: one answer. -/
def Same2 (K : World → Prop) (f g : Nat) (xs ys : Array Value) (v : Value) : Prop :=
  (∀ w, K w → Calls Try.prog f xs w fun e w' => e = .returned v ∧ Below w.heap.size w w') ∧ (∀ w, K w → Calls Try.prog g ys w fun e w' => e = .returned v ∧ Below w.heap.size w w')
theorem same_below {f : Nat} {xs : Array Value} {w : World} {v : Value} (h : Calls Try.prog f xs w fun e w' => e = .returned v ∧ w' = w) : Calls Try.prog f xs w fun e w' => e = .returned v ∧ Below w.heap.size w w' :=
  h.mono fun e w' ⟨h1, h2⟩ => ⟨h1, by rw [h2]; exact Below.refl _ _⟩
/-- Both fields lie in memory. -/
def Two (P g : UInt8) (b c : Nat) (w : World) : Prop := FdAt w b P g ∧ RfAt w c P g
theorem Two.next {P g : UInt8} {b c : Nat} {w w' : World} (h : Two P g b c w) (hb : Below w.heap.size w w') : Two P g b c w' := ⟨h.1.next hb, h.2.next hb⟩
theorem mul_two {P g : UInt8} (ho : ordS P g = 255) (b c : Nat) (x y : UInt8) : ∃ X : Int, Same2 (Two P g b c) 26 27 #[.pointer (some ⟨b, 0, none⟩), .int .u8 (x.toNat : Int), .int .u8 (y.toNat : Int)] #[.pointer (some ⟨c, 0, none⟩), .int .u8 (x.toNat : Int), .int .u8 (y.toNat : Int)] (.int .u8 X) :=
  ⟨_, fun w h => mul_any ho x y w h.1, fun w h => same_below (refMul_any x y w h.2)⟩
theorem exp_two {P g : UInt8} (ho : ordS P g = 255) (b c : Nat) (n : Int) : ∃ X : Int, Same2 (Two P g b c) 28 29 #[.pointer (some ⟨b, 0, none⟩), .int .i64 n] #[.pointer (some ⟨c, 0, none⟩), .int .i64 n] (.int .u8 X) :=
  ⟨_, fun w h => exp_any n w h.1, fun w h => same_below (refExp_any n w h.2)⟩
theorem div_two {P g : UInt8} (ho : ordS P g = 255) (b c : Nat) (x y : UInt8) : ∃ X E : Int, Same2 (Two P g b c) 18 19 #[.pointer (some ⟨b, 0, none⟩), .int .u8 (x.toNat : Int), .int .u8 (y.toNat : Int)] #[.pointer (some ⟨c, 0, none⟩), .int .u8 (x.toNat : Int), .int .u8 (y.toNat : Int)] (.tuple #[.int .u8 X, .int .i64 E]) := by
  by_cases hy : y = 0
  · subst hy
    exact ⟨0, 51, fun w h => div_zero x w, fun w h => same_below (refDiv_zero x w)⟩
  · exact ⟨_, _, fun w h => div_any ho x y hy w h.1, fun w h => same_below (refDiv_some x y hy w h.2)⟩
theorem inv_two {P g : UInt8} (ho : ordS P g = 255) (b c : Nat) (x : UInt8) : ∃ X E : Int, Same2 (Two P g b c) 20 21 #[.pointer (some ⟨b, 0, none⟩), .int .u8 (x.toNat : Int)] #[.pointer (some ⟨c, 0, none⟩), .int .u8 (x.toNat : Int)] (.tuple #[.int .u8 X, .int .i64 E]) := by
  by_cases hx : x = 0
  · subst hx
    exact ⟨0, 51, fun w h => inv_zero w, fun w h => same_below (refInv_zero w)⟩
  · exact ⟨_, _, fun w h => inv_some ho x hx w h.1, fun w h => same_below (refInv_some x hx w h.2)⟩
theorem pow_two {P g : UInt8} (ho : ordS P g = 255) (b c : Nat) (x : UInt8) (n : Int) : ∃ X E : Int, Same2 (Two P g b c) 22 23 #[.pointer (some ⟨b, 0, none⟩), .int .u8 (x.toNat : Int), .int .i64 n] #[.pointer (some ⟨c, 0, none⟩), .int .u8 (x.toNat : Int), .int .i64 n] (.tuple #[.int .u8 X, .int .i64 E]) := by
  by_cases hn : n = 0
  · subst hn
    exact ⟨1, 0, fun w h => pow_one x w, fun w h => same_below (refPow_one x w)⟩
  · by_cases hx : x = 0
    · subst hx
      exact ⟨0, _, fun w h => pow_zero n hn w, fun w h => same_below (refPow_zero n hn w)⟩
    · exact ⟨_, _, fun w h => pow_any ho x hx n hn w h.1, fun w h => same_below (refPow_any x hx n hn w h.2)⟩
theorem log_two {P g : UInt8} (ho : ordS P g = 255) (b c : Nat) (x : UInt8) : ∃ X E : Int, Same2 (Two P g b c) 24 25 #[.pointer (some ⟨b, 0, none⟩), .int .u8 (x.toNat : Int)] #[.pointer (some ⟨c, 0, none⟩), .int .u8 (x.toNat : Int)] (.tuple #[.int .i64 X, .int .i64 E]) := by
  refine ⟨if x = 0 then 0 else ((lg P g x : Nat) : Int), if x = 0 then 51 else 0, fun w h => ?_, fun w h => same_below (refLog_any ho x w h.2)⟩
  by_cases hx : x = 0
  · subst hx
    rw [if_pos rfl, if_pos rfl]
    exact log_zero w
  · rw [if_neg hx, if_neg hx]
    exact log_some x hx w h.1

set_option maxRecDepth 100000 in
set_option maxHeartbeats 1000000 in
theorem fields_ok {P G : UInt8} (Q : Int) (hQ : Q = 256 + (P.toNat : Int)) (hirr : irrS (256 + P.toNat) = true) (ho : ordS P G = 255) (a b : UInt8) (n : Int) (w : World) : Calls Try.prog 4 #[.int .i64 Q, .int .u8 (G.toNat : Int), .int .u8 (a.toNat : Int), .int .u8 (b.toNat : Int), .int .i64 n] w fun e w' => e = .returned (.bool true) ∧ Below w.heap.size w w' := by
  have HN := hidD (fun w => new_ok P G Q hQ hirr ho w)
  have HR := hidD (fun w => refNew_ok P G Q hQ hirr ho w)
  have HA := hidD (fun w => alive_any w)
  have HD := hidD (fun k c => div_two ho k c a b)
  have HI := hidD (fun k c => inv_two ho k c a)
  have HP := hidD (fun k c => pow_two ho k c a n)
  have HL := hidD (fun k c => log_two ho k c a)
  have HM := hidD (fun k c => mul_two ho k c a b)
  have HE := hidD (fun k c => exp_two ho k c n)
  clear hQ hirr ho
  go_enter Try.func4, Try.ntmps4
  go_wp2_with (first
    | (go_at_call 16; refine (HN.out _).mono ?_; rintro e w1 ⟨kf, rfl, hwb, hfd, hb1⟩; have HF := hidD hfd; have HB := hidD hb1; clear hfd hb1 hwb)
    | (go_at_call 17; refine (HR.out _).mono ?_; rintro e w2 ⟨kr, rfl, hwb, hrf, hb2⟩; have HT : Hid (Two P G kf kr w2) := ⟨HF.out.next hb2, hrf⟩; have HB := hidD (Below.next HB.out hb2); clear hrf hb2 hwb HF; obtain ⟨X1, E1, HD⟩ := HD.out kf kr; have HD := hidD HD; obtain ⟨X2, E2, HI⟩ := HI.out kf kr; have HI := hidD HI; obtain ⟨X3, E3, HP⟩ := HP.out kf kr; have HP := hidD HP; obtain ⟨X4, E4, HL⟩ := HL.out kf kr; have HL := hidD HL; obtain ⟨X5, HM⟩ := HM.out kf kr; have HM := hidD HM; obtain ⟨X6, HE⟩ := HE.out kf kr; have HE := hidD HE)
    | (go_at_call 15; refine (HA.out _).mono ?_; rintro e w3 ⟨rfl, hb3⟩; have HT := hidD (HT.out.next hb3); have HB := hidD (Below.next HB.out hb3); clear hb3)
    | (go_at_call 18; refine (HD.out.1 _ HT.out).mono ?_; rintro e w3 ⟨rfl, hb3⟩; have HT := hidD (HT.out.next hb3); have HB := hidD (Below.next HB.out hb3); clear hb3)
    | (go_at_call 19; refine (HD.out.2 _ HT.out).mono ?_; rintro e w3 ⟨rfl, hb3⟩; have HT := hidD (HT.out.next hb3); have HB := hidD (Below.next HB.out hb3); clear hb3)
    | (go_at_call 20; refine (HI.out.1 _ HT.out).mono ?_; rintro e w3 ⟨rfl, hb3⟩; have HT := hidD (HT.out.next hb3); have HB := hidD (Below.next HB.out hb3); clear hb3)
    | (go_at_call 21; refine (HI.out.2 _ HT.out).mono ?_; rintro e w3 ⟨rfl, hb3⟩; have HT := hidD (HT.out.next hb3); have HB := hidD (Below.next HB.out hb3); clear hb3)
    | (go_at_call 22; refine (HP.out.1 _ HT.out).mono ?_; rintro e w3 ⟨rfl, hb3⟩; have HT := hidD (HT.out.next hb3); have HB := hidD (Below.next HB.out hb3); clear hb3)
    | (go_at_call 23; refine (HP.out.2 _ HT.out).mono ?_; rintro e w3 ⟨rfl, hb3⟩; have HT := hidD (HT.out.next hb3); have HB := hidD (Below.next HB.out hb3); clear hb3)
    | (go_at_call 24; refine (HL.out.1 _ HT.out).mono ?_; rintro e w3 ⟨rfl, hb3⟩; have HT := hidD (HT.out.next hb3); have HB := hidD (Below.next HB.out hb3); clear hb3)
    | (go_at_call 25; refine (HL.out.2 _ HT.out).mono ?_; rintro e w3 ⟨rfl, hb3⟩; have HT := hidD (HT.out.next hb3); have HB := hidD (Below.next HB.out hb3); clear hb3)
    | (go_at_call 26; refine (HM.out.1 _ HT.out).mono ?_; rintro e w3 ⟨rfl, hb3⟩; have HT := hidD (HT.out.next hb3); have HB := hidD (Below.next HB.out hb3); clear hb3)
    | (go_at_call 27; refine (HM.out.2 _ HT.out).mono ?_; rintro e w3 ⟨rfl, hb3⟩; have HT := hidD (HT.out.next hb3); have HB := hidD (Below.next HB.out hb3); clear hb3)
    | (go_at_call 28; refine (HE.out.1 _ HT.out).mono ?_; rintro e w3 ⟨rfl, hb3⟩; have HT := hidD (HT.out.next hb3); have HB := hidD (Below.next HB.out hb3); clear hb3)
    | (go_at_call 29; refine (HE.out.2 _ HT.out).mono ?_; rintro e w3 ⟨rfl, hb3⟩; have HT := hidD (HT.out.next hb3); have HB := hidD (Below.next HB.out hb3); clear hb3))
  go_ret
  exact ⟨rfl, HB.out⟩
set_option maxRecDepth 100000 in
set_option maxHeartbeats 1000000 in
theorem fields_nil (Q : Int) (G a b : UInt8) (n : Int) (w : World) (hN : ∀ w, Calls Try.prog 16 #[.int .i64 Q, .int .u8 (G.toNat : Int)] w fun e w' => e = .returned (.tuple #[.pointer none, .int .i64 50]) ∧ Below w.heap.size w w') (hR : ∀ w, Calls Try.prog 17 #[.int .i64 Q, .int .u8 (G.toNat : Int)] w fun e w' => e = .returned (.tuple #[.pointer none, .int .i64 50]) ∧ Below w.heap.size w w') : Calls Try.prog 4 #[.int .i64 Q, .int .u8 (G.toNat : Int), .int .u8 (a.toNat : Int), .int .u8 (b.toNat : Int), .int .i64 n] w fun e w' => e = .returned (.bool true) ∧ Below w.heap.size w w' := by
  have HN := hidD hN
  have HR := hidD hR
  have HA := hidD (fun w => alive_any w)
  clear hN hR
  have H18 := hidD (fun w => div_nil a b w)
  have H19 := hidD (fun w => refDiv_nil a b w)
  have H20 := hidD (fun w => inv_nil a w)
  have H21 := hidD (fun w => refInv_nil a w)
  have H22 := hidD (fun w => pow_nil a n w)
  have H23 := hidD (fun w => refPow_nil a n w)
  have H24 := hidD (fun w => log_nil a w)
  have H25 := hidD (fun w => refLog_nil a w)
  have H26 := hidD (fun w => mul_nil a b w)
  have H27 := hidD (fun w => refMul_nil a b w)
  have H28 := hidD (fun w => exp_nil n w)
  have H29 := hidD (fun w => refExp_nil n w)
  have HB : Hid (Below w.heap.size w w) := Below.refl _ _
  go_enter Try.func4, Try.ntmps4
  go_wp2_with (first
    | (go_at_call 16; refine (HN.out _).mono ?_; rintro e w3 ⟨rfl, hb3⟩; have HB := hidD (Below.next HB.out hb3); clear hb3)
    | (go_at_call 17; refine (HR.out _).mono ?_; rintro e w3 ⟨rfl, hb3⟩; have HB := hidD (Below.next HB.out hb3); clear hb3)
    | (go_at_call 15; refine (HA.out _).mono ?_; rintro e w3 ⟨rfl, hb3⟩; have HB := hidD (Below.next HB.out hb3); clear hb3)
    | (go_at_call 18; refine (H18.out _).mono ?_; rintro e w3 ⟨rfl, hb3⟩; have HB := hidD (Below.next HB.out hb3); clear hb3)
    | (go_at_call 19; refine (H19.out _).mono ?_; rintro e w3 ⟨rfl, hb3⟩; have HB := hidD (Below.next HB.out hb3); clear hb3)
    | (go_at_call 20; refine (H20.out _).mono ?_; rintro e w3 ⟨rfl, hb3⟩; have HB := hidD (Below.next HB.out hb3); clear hb3)
    | (go_at_call 21; refine (H21.out _).mono ?_; rintro e w3 ⟨rfl, hb3⟩; have HB := hidD (Below.next HB.out hb3); clear hb3)
    | (go_at_call 22; refine (H22.out _).mono ?_; rintro e w3 ⟨rfl, hb3⟩; have HB := hidD (Below.next HB.out hb3); clear hb3)
    | (go_at_call 23; refine (H23.out _).mono ?_; rintro e w3 ⟨rfl, hb3⟩; have HB := hidD (Below.next HB.out hb3); clear hb3)
    | (go_at_call 24; refine (H24.out _).mono ?_; rintro e w3 ⟨rfl, hb3⟩; have HB := hidD (Below.next HB.out hb3); clear hb3)
    | (go_at_call 25; refine (H25.out _).mono ?_; rintro e w3 ⟨rfl, hb3⟩; have HB := hidD (Below.next HB.out hb3); clear hb3)
    | (go_at_call 26; refine (H26.out _).mono ?_; rintro e w3 ⟨rfl, hb3⟩; have HB := hidD (Below.next HB.out hb3); clear hb3)
    | (go_at_call 27; refine (H27.out _).mono ?_; rintro e w3 ⟨rfl, hb3⟩; have HB := hidD (Below.next HB.out hb3); clear hb3)
    | (go_at_call 28; refine (H28.out _).mono ?_; rintro e w3 ⟨rfl, hb3⟩; have HB := hidD (Below.next HB.out hb3); clear hb3)
    | (go_at_call 29; refine (H29.out _).mono ?_; rintro e w3 ⟨rfl, hb3⟩; have HB := hidD (Below.next HB.out hb3); clear hb3))
  go_ret
  exact ⟨rfl, HB.out⟩
theorem gfFields_any (Q : Int) (ng na nb : Nat) (hg : ng < 256) (ha : na < 256) (hb : nb < 256) (n : Int) (w : World) : Calls Try.prog 4 #[.int .i64 Q, .int .u8 ng, .int .u8 na, .int .u8 nb, .int .i64 n] w fun e w' => e = .returned (.bool true) ∧ Below w.heap.size w w' := by
  obtain ⟨G, rfl⟩ := u8_of ng hg
  obtain ⟨a, rfl⟩ := u8_of na ha
  obtain ⟨b, rfl⟩ := u8_of nb hb
  by_cases h : 256 ≤ Q ∧ Q ≤ 511
  · obtain ⟨P, hQ⟩ := poly_of Q h
    by_cases hk : irrS (256 + P.toNat) = true ∧ ordS P G = 255
    · exact fields_ok Q hQ hk.1 hk.2 a b n w
    · exact fields_nil Q G a b n w (fun w => new_bad P G Q hQ hk w) (fun w => refNew_bad P G Q hQ hk w)
  · exact fields_nil Q G a b n w (fun w => new_out Q h G w) (fun w => refNew_out Q h G w)
end Go.Proofs.Ytfngnajjlhnglaa
