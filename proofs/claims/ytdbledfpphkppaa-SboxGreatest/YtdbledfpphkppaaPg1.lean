/- What the program's Affine, Sub, Unsub answer. -/
import Derived.Test.YtdbledfpphkppaaPq1
namespace Go.Proofs.Ytdbledfpphkppaa
open Go.RowKit
set_option linter.unusedVariables false

theorem turned_any (b k : Nat) (hb : b < 256) (hk1 : 1 ≤ k) (hk2 : k ≤ 7) (w : World) : Calls Try.prog 42 #[.int .u8 (b : Int), .int .i64 (k : Int)] w fun e w' => e = .returned (.int .u8 ((rolS b k : Nat) : Int)) ∧ Below w.heap.size w w' := by
  have HS := hidD (rol_walk (b := b) (k := k) hb)
  have hk8 : (8 : Int) - k = ((8 - k : Nat) : Int) := by omega
  have hwr : IntKind.i64.wrap ((8 : Int) - k) = ((8 - k : Nat) : Int) := by rw [IntKind.wrap_i64]; omega
  have hd : 1 ≤ 8 - k := by omega
  have hd2 : 8 - k ≤ 8 := by omega
  generalize 8 - k = d at *
  clear hk8
  go_enter Try.func42, Try.ntmps42
  go_wp2_with fail
  go_quiet (fail)
  go_wp2_with fail
  refine bodyPost_ret (v := .int .u8 ((rolS b k : Nat) : Int)) (by simp [results, Try.results42, go_sem]; exact HS.out) rfl ?_
  exact ⟨rfl, below_drewN (Below.refl _ _) _⟩
set_option maxRecDepth 100000 in
set_option maxHeartbeats 400000 in
theorem pAffine_any (b : UInt8) (w : World) : Calls Try.prog 9 #[.int .u8 (b.toNat : Int)] w fun e w' => e = .returned (.int .u8 ((affS b).toNat : Int)) ∧ Below w.heap.size w w' := by
  have hb : b.toNat < 256 := b.toNat_lt
  have HE : Hid (bits .xor .u8 (bits .xor .u8 (bits .xor .u8 (bits .xor .u8 (bits .xor .u8 (b.toNat : Int) ((rolS b.toNat 1 : Nat) : Int)) ((rolS b.toNat 2 : Nat) : Int)) ((rolS b.toNat 3 : Nat) : Int)) ((rolS b.toNat 4 : Nat) : Int)) 99 = ((affS b).toNat : Int)) := by
    show _ = _
    have h1 := rol_lt (k := 1) hb
    have h2 := rol_lt (k := 2) hb
    have h3 := rol_lt (k := 3) hb
    have h4 := rol_lt (k := 4) hb
    rw [u8_xor_nat _ _ hb h1, u8_xor_nat _ _ (xor256 hb h1) h2, u8_xor_nat _ _ (xor256 (xor256 hb h1) h2) h3, u8_xor_nat _ _ (xor256 (xor256 (xor256 hb h1) h2) h3) h4]
    rw [show (99 : Int) = ((99 : Nat) : Int) from rfl, u8_xor_nat _ _ (xor256 (xor256 (xor256 (xor256 hb h1) h2) h3) h4) (by omega), aff_turns hb]
    congr 2
    rw [UInt8.ofNat_toNat]
  have HT1 : Hid (∀ w, Calls Try.prog 42 #[.int .u8 (b.toNat : Int), .int .i64 1] w fun e w' => e = .returned (.int .u8 ((rolS b.toNat 1 : Nat) : Int)) ∧ Below w.heap.size w w') := fun w => turned_any b.toNat 1 hb (by omega) (by omega) w
  have HT2 : Hid (∀ w, Calls Try.prog 42 #[.int .u8 (b.toNat : Int), .int .i64 2] w fun e w' => e = .returned (.int .u8 ((rolS b.toNat 2 : Nat) : Int)) ∧ Below w.heap.size w w') := fun w => turned_any b.toNat 2 hb (by omega) (by omega) w
  have HT3 : Hid (∀ w, Calls Try.prog 42 #[.int .u8 (b.toNat : Int), .int .i64 3] w fun e w' => e = .returned (.int .u8 ((rolS b.toNat 3 : Nat) : Int)) ∧ Below w.heap.size w w') := fun w => turned_any b.toNat 3 hb (by omega) (by omega) w
  have HT4 : Hid (∀ w, Calls Try.prog 42 #[.int .u8 (b.toNat : Int), .int .i64 4] w fun e w' => e = .returned (.int .u8 ((rolS b.toNat 4 : Nat) : Int)) ∧ Below w.heap.size w w') := fun w => turned_any b.toNat 4 hb (by omega) (by omega) w
  generalize ((rolS b.toNat 1 : Nat) : Int) = r1 at *
  generalize ((rolS b.toNat 2 : Nat) : Int) = r2 at *
  generalize ((rolS b.toNat 3 : Nat) : Int) = r3 at *
  generalize ((rolS b.toNat 4 : Nat) : Int) = r4 at *
  generalize ((affS b).toNat : Int) = R at *
  generalize (b.toNat : Int) = B at *
  clear hb
  go_enter Try.func9, Try.ntmps9
  go_wp2_with (first | (go_at_call 42; refine (HT1.out _).mono ?_; rintro e w1 ⟨rfl, hb1⟩; clear HT1) | (go_at_call 42; refine (HT2.out _).mono ?_; rintro e w2 ⟨rfl, hb2⟩; clear HT2) | (go_at_call 42; refine (HT3.out _).mono ?_; rintro e w3 ⟨rfl, hb3⟩; clear HT3) | (go_at_call 42; refine (HT4.out _).mono ?_; rintro e w4 ⟨rfl, hb4⟩; clear HT4))
  refine bodyPost_ret (v := .int .u8 R) (by simp [results, Try.results9, go_sem]; exact HE.out) rfl ?_
  exact ⟨rfl, ((Below.next (Below.next (Below.next hb1 hb2) hb3) hb4))⟩

set_option maxRecDepth 100000 in
set_option maxHeartbeats 400000 in
theorem pUna_any (b : Nat) (hb : b < 256) (w : World) : Calls Try.prog 45 #[.int .u8 (b : Int)] w fun e w' => e = .returned (.int .u8 ((unaS b : Nat) : Int)) ∧ Below w.heap.size w w' := by
  have HE : Hid (bits .xor .u8 (bits .xor .u8 (bits .xor .u8 ((rolS b 1 : Nat) : Int) ((rolS b 3 : Nat) : Int)) ((rolS b 6 : Nat) : Int)) 5 = ((unaS b : Nat) : Int)) := by
    show _ = _
    have h1 := rol_lt (k := 1) hb
    have h3 := rol_lt (k := 3) hb
    have h6 := rol_lt (k := 6) hb
    rw [u8_xor_nat _ _ h1 h3, u8_xor_nat _ _ (xor256 h1 h3) h6]
    rw [show (5 : Int) = ((5 : Nat) : Int) from rfl, u8_xor_nat _ _ (xor256 (xor256 h1 h3) h6) (by omega)]
    rfl
  have HT1 : Hid (∀ w, Calls Try.prog 42 #[.int .u8 (b : Int), .int .i64 1] w fun e w' => e = .returned (.int .u8 ((rolS b 1 : Nat) : Int)) ∧ Below w.heap.size w w') := fun w => turned_any b 1 hb (by omega) (by omega) w
  have HT3 : Hid (∀ w, Calls Try.prog 42 #[.int .u8 (b : Int), .int .i64 3] w fun e w' => e = .returned (.int .u8 ((rolS b 3 : Nat) : Int)) ∧ Below w.heap.size w w') := fun w => turned_any b 3 hb (by omega) (by omega) w
  have HT6 : Hid (∀ w, Calls Try.prog 42 #[.int .u8 (b : Int), .int .i64 6] w fun e w' => e = .returned (.int .u8 ((rolS b 6 : Nat) : Int)) ∧ Below w.heap.size w w') := fun w => turned_any b 6 hb (by omega) (by omega) w
  generalize ((rolS b 1 : Nat) : Int) = r1 at *
  generalize ((rolS b 3 : Nat) : Int) = r3 at *
  generalize ((rolS b 6 : Nat) : Int) = r6 at *
  generalize ((unaS b : Nat) : Int) = R at *
  generalize (b : Int) = B at *
  clear hb
  go_enter Try.func45, Try.ntmps45
  go_wp2_with (first | (go_at_call 42; refine (HT1.out _).mono ?_; rintro e w1 ⟨rfl, hb1⟩; clear HT1) | (go_at_call 42; refine (HT3.out _).mono ?_; rintro e w3 ⟨rfl, hb3⟩; clear HT3) | (go_at_call 42; refine (HT6.out _).mono ?_; rintro e w6 ⟨rfl, hb6⟩; clear HT6))
  refine bodyPost_ret (v := .int .u8 R) (by simp [results, Try.results45, go_sem]; exact HE.out) rfl ?_
  exact ⟨rfl, Below.next (Below.next hb1 hb3) hb6⟩

theorem pSub_any (b : UInt8) (w : World) : Calls Try.prog 11 #[.int .u8 (b.toNat : Int)] w fun e w' => e = .returned (.int .u8 ((subS b).toNat : Int)) ∧ Below w.heap.size w w' := by
  have HI := hidD (fun w => inverse_any b w)
  have HA := hidD (fun w => pAffine_any (inv 27 b) w)
  rw [show affS (inv 27 b) = subS b from rfl] at HA
  generalize ((inv 27 b).toNat : Int) = X at *
  generalize ((subS b).toNat : Int) = R at *
  go_enter Try.func11, Try.ntmps11
  go_wp2_with (first | (go_at_call 43; refine (HI.out _).mono ?_; rintro e w2 ⟨rfl, rfl⟩; clear HI) | (go_at_call 9; refine (HA.out _).mono ?_; rintro e w3 ⟨rfl, hb3⟩))
  go_ret
  exact ⟨rfl, hb3⟩
theorem pUnsub_any (b : UInt8) (w : World) : Calls Try.prog 13 #[.int .u8 (b.toNat : Int)] w fun e w' => e = .returned (.int .u8 (unsS b : Int)) ∧ Below w.heap.size w w' := by
  have hu := una_at b.toNat_lt
  have HA := hidD (fun w => pUna_any b.toNat b.toNat_lt w)
  have HI : Hid (∀ w, Calls Try.prog 43 #[.int .u8 ((unaS b.toNat : Nat) : Int)] w fun e w' => e = .returned (.int .u8 (unsS b : Int)) ∧ w' = w) := fun w => by
    have := inverse_any (UInt8.ofNat (unaS b.toNat)) w
    rw [u8_nat hu.1, hu.2] at this
    exact this
  clear hu
  generalize ((unaS b.toNat : Nat) : Int) = X at *
  generalize (unsS b : Int) = R at *
  go_enter Try.func13, Try.ntmps13
  go_wp2_with (first | (go_at_call 45; refine (HA.out _).mono ?_; rintro e w3 ⟨rfl, hb3⟩) | (go_at_call 43; refine (HI.out _).mono ?_; rintro e w2 ⟨rfl, rfl⟩; clear HI))
  go_ret
  exact ⟨rfl, hb3⟩
end Go.Proofs.Ytdbledfpphkppaa
