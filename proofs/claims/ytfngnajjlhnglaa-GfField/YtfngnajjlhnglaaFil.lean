/- GfField's walk. -/
import Derived.Test.YtfngnajjlhnglaaAlv
import Derived.Test.YtfngnajjlhnglaaCrs
namespace Go.Proofs.Ytfngnajjlhnglaa
open Go.RowKit
set_option linter.unusedVariables false

/-- A call of a field's Mul, whatever the world that holds the field. -/
def MulIs (P G : UInt8) (A B X : Int) : Prop := ∀ w k, FdAt w k P G → Calls Try.prog 26 #[.pointer (some ⟨k, 0, none⟩), .int .u8 A, .int .u8 B] w fun e w' => e = .returned (.int .u8 X) ∧ Below w.heap.size w w'
theorem mulIs {P G : UInt8} (ho : ordS P G = 255) (x y : UInt8) : MulIs P G (x.toNat : Int) (y.toNat : Int) ((bm P x y).toNat : Int) := fun w k h => mul_any ho x y w h
theorem xor_of (x y : UInt8) : bits .xor .u8 (x.toNat : Int) (y.toNat : Int) = ((x ^^^ y).toNat : Int) := by rw [u8_xor_nat _ _ (u8_lt x) (u8_lt y), UInt8.toNat_xor]
set_option maxRecDepth 100000 in
set_option maxHeartbeats 1000000 in
theorem field_bad (Q : Int) (G a b c : UInt8) (w : World) (I : Bool) (O : Int) (hio : I = false ∨ O ≠ 255) (hN : ∀ w, Calls Try.prog 16 #[.int .i64 Q, .int .u8 (G.toNat : Int)] w fun e w' => e = .returned (.tuple #[.pointer none, .int .i64 50]) ∧ Below w.heap.size w w')
    (hI : ∀ w, Calls Try.prog 11 #[.int .i64 Q] w fun e w' => e = .returned (.bool I) ∧ w' = w) (hO : ∀ w, Calls Try.prog 13 #[.int .i64 Q, .int .u8 (G.toNat : Int)] w fun e w' => e = .returned (.int .i64 O) ∧ w' = w) :
    Calls Try.prog 7 #[.int .i64 Q, .int .u8 (G.toNat : Int), .int .u8 (a.toNat : Int), .int .u8 (b.toNat : Int), .int .u8 (c.toNat : Int)] w fun e w' => e = .returned (.bool true) ∧ Below w.heap.size w w' := by
  have HN := hidD hN
  have HI := hidD hI
  have HO := hidD hO
  have HA := hidD (fun w => alive_any w)
  have HB : Hid (Below w.heap.size w w) := Below.refl _ _
  clear hN hI hO
  cases I
  · clear hio
    go_enter Try.func7, Try.ntmps7
    go_wp2_with (first
      | (go_at_call 15; refine (HA.out _).mono ?_; rintro e w3 ⟨rfl, hb3⟩; have HB := hidD (Below.next HB.out hb3); clear hb3)
      | (go_at_call 16; refine (HN.out _).mono ?_; rintro e w3 ⟨rfl, hb3⟩; have HB := hidD (Below.next HB.out hb3); clear hb3)
      | (go_at_call 11; refine (HI.out _).mono ?_; rintro e w4 ⟨rfl, hb4⟩))
    go_ret
    exact ⟨rfl, HB.out⟩
  · have ho : ¬ O = 255 := by rcases hio with h | h; cases h; exact h
    have hob : (O == 255) = false := by simpa using ho
    clear hio
    go_enter Try.func7, Try.ntmps7
    go_wp2_with (first
      | (go_at_call 15; refine (HA.out _).mono ?_; rintro e w3 ⟨rfl, hb3⟩; have HB := hidD (Below.next HB.out hb3); clear hb3)
      | (go_at_call 16; refine (HN.out _).mono ?_; rintro e w3 ⟨rfl, hb3⟩; have HB := hidD (Below.next HB.out hb3); clear hb3)
      | (go_at_call 11; refine (HI.out _).mono ?_; rintro e w4 ⟨rfl, hb4⟩)
      | (go_at_call 13; refine (HO.out _).mono ?_; rintro e w4 ⟨rfl, hb4⟩))
    go_ret
    exact ⟨by simp [ho], HB.out⟩
set_option maxRecDepth 100000 in
set_option maxHeartbeats 2000000 in
theorem field_zero (P G c : UInt8) (b : UInt8) (Q : Int) (hQ : Q = 256 + (P.toNat : Int)) (hirr : irrS (256 + P.toNat) = true) (ho : ordS P G = 255) (w : World) :
    Calls Try.prog 7 #[.int .i64 Q, .int .u8 (G.toNat : Int), .int .u8 0, .int .u8 (b.toNat : Int), .int .u8 (c.toNat : Int)] w fun e w' => e = .returned (.bool true) ∧ Below w.heap.size w w' := by
  have HN := hidD (fun w => new_ok P G Q hQ hirr ho w)
  have HA := hidD (fun w => alive_any w)
  have HB : Hid (Below w.heap.size w w) := Below.refl _ _
  have HM0 : Hid (MulIs P G 0 ((b).toNat : Int) 0) := by
    have h := mulIs ho ((0 : UInt8)) (b)
    rw [zero_bm] at h
    exact h
  have HM1 : Hid (MulIs P G ((b).toNat : Int) 0 0) := by
    have h := mulIs ho (b) ((0 : UInt8))
    rw [bm_zero] at h
    exact h
  have HM2 : Hid (MulIs P G ((b).toNat : Int) ((c).toNat : Int) ((bm P b c).toNat : Int)) := by
    have h := mulIs ho (b) (c)
    exact h
  have HM3 : Hid (MulIs P G 0 ((bm P b c).toNat : Int) 0) := by
    have h := mulIs ho ((0 : UInt8)) (bm P b c)
    rw [zero_bm] at h
    exact h
  have HM4 : Hid (MulIs P G 0 ((b).toNat : Int) 0) := by
    have h := mulIs ho ((0 : UInt8)) (b)
    rw [zero_bm] at h
    exact h
  have HM5 : Hid (MulIs P G 0 ((c).toNat : Int) 0) := by
    have h := mulIs ho ((0 : UInt8)) (c)
    rw [zero_bm] at h
    exact h
  have HM6 : Hid (MulIs P G 0 ((b ^^^ c).toNat : Int) 0) := by
    have h := mulIs ho ((0 : UInt8)) (b ^^^ c)
    rw [zero_bm] at h
    exact h
  have HM7 : Hid (MulIs P G 0 ((b).toNat : Int) 0) := by
    have h := mulIs ho ((0 : UInt8)) (b)
    rw [zero_bm] at h
    exact h
  have HM8 : Hid (MulIs P G 0 ((c).toNat : Int) 0) := by
    have h := mulIs ho ((0 : UInt8)) (c)
    rw [zero_bm] at h
    exact h
  have HM9 : Hid (MulIs P G 0 1 0) := by
    have h := mulIs ho ((0 : UInt8)) ((1 : UInt8))
    rw [bm_one] at h
    exact h
  have HM10 : Hid (MulIs P G 0 ((b).toNat : Int) 0) := by
    have h := mulIs ho ((0 : UInt8)) (b)
    rw [zero_bm] at h
    exact h
  have hx1 := xor_of b c
  have hx2 : bits .xor .u8 0 0 = 0 := by decide
  have HI := hidD (fun w k (h : FdAt w k P G) => inv_zero (b := k) w)
  clear hQ hirr ho
  generalize ((bm P b c).toNat : Int) = y0 at *
  generalize ((b ^^^ c).toNat : Int) = y1 at *
  generalize (b.toNat : Int) = vb at *
  generalize (c.toNat : Int) = vc at *
  go_enter Try.func7, Try.ntmps7
  go_wp2_with (first
    | (go_at_call 15; refine (HA.out _).mono ?_; rintro e w3 ⟨rfl, hb3⟩; have HB := hidD (Below.next HB.out hb3); clear hb3)
    | (go_at_call 16; refine (HN.out _).mono ?_; rintro e w3 ⟨k, rfl, hwb, hfd, hb3⟩; have HF := hidD hfd; have HB := hidD (Below.next HB.out hb3); clear hb3 hwb hfd)
    | (go_at_call 26; refine (HM0.out _ _ HF.out).mono ?_; rintro e w3 ⟨rfl, hb3⟩; clear HM0; have HF := hidD (HF.out.next hb3); have HB := hidD (Below.next HB.out hb3); clear hb3)
    | (go_at_call 26; refine (HM1.out _ _ HF.out).mono ?_; rintro e w3 ⟨rfl, hb3⟩; clear HM1; have HF := hidD (HF.out.next hb3); have HB := hidD (Below.next HB.out hb3); clear hb3)
    | (go_at_call 26; refine (HM2.out _ _ HF.out).mono ?_; rintro e w3 ⟨rfl, hb3⟩; clear HM2; have HF := hidD (HF.out.next hb3); have HB := hidD (Below.next HB.out hb3); clear hb3)
    | (go_at_call 26; refine (HM3.out _ _ HF.out).mono ?_; rintro e w3 ⟨rfl, hb3⟩; clear HM3; have HF := hidD (HF.out.next hb3); have HB := hidD (Below.next HB.out hb3); clear hb3)
    | (go_at_call 26; refine (HM4.out _ _ HF.out).mono ?_; rintro e w3 ⟨rfl, hb3⟩; clear HM4; have HF := hidD (HF.out.next hb3); have HB := hidD (Below.next HB.out hb3); clear hb3)
    | (go_at_call 26; refine (HM5.out _ _ HF.out).mono ?_; rintro e w3 ⟨rfl, hb3⟩; clear HM5; have HF := hidD (HF.out.next hb3); have HB := hidD (Below.next HB.out hb3); clear hb3)
    | (go_at_call 26; refine (HM6.out _ _ HF.out).mono ?_; rintro e w3 ⟨rfl, hb3⟩; clear HM6; have HF := hidD (HF.out.next hb3); have HB := hidD (Below.next HB.out hb3); clear hb3)
    | (go_at_call 26; refine (HM7.out _ _ HF.out).mono ?_; rintro e w3 ⟨rfl, hb3⟩; clear HM7; have HF := hidD (HF.out.next hb3); have HB := hidD (Below.next HB.out hb3); clear hb3)
    | (go_at_call 26; refine (HM8.out _ _ HF.out).mono ?_; rintro e w3 ⟨rfl, hb3⟩; clear HM8; have HF := hidD (HF.out.next hb3); have HB := hidD (Below.next HB.out hb3); clear hb3)
    | (go_at_call 26; refine (HM9.out _ _ HF.out).mono ?_; rintro e w3 ⟨rfl, hb3⟩; clear HM9; have HF := hidD (HF.out.next hb3); have HB := hidD (Below.next HB.out hb3); clear hb3)
    | (go_at_call 26; refine (HM10.out _ _ HF.out).mono ?_; rintro e w3 ⟨rfl, hb3⟩; clear HM10; have HF := hidD (HF.out.next hb3); have HB := hidD (Below.next HB.out hb3); clear hb3)
    | (go_at_call 20; refine (HI.out _ _ HF.out).mono ?_; rintro e w3 ⟨rfl, hb3⟩; have HF := hidD (HF.out.next hb3); have HB := hidD (Below.next HB.out hb3); clear hb3))
  go_ret
  exact ⟨rfl, HB.out⟩
end Go.Proofs.Ytfngnajjlhnglaa
