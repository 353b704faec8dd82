/- What the document's Unsub, Round, Parity and Lines answer. -/
import Derived.Test.YtdbledfpphkppaaRf2
namespace Go.Proofs.Ytdbledfpphkppaa
open Go.RowKit
set_option linter.unusedVariables false

theorem Below.next {w w1 w2 : World} (h : Below w.heap.size w w1) (k : Below w1.heap.size w1 w2) : Below w.heap.size w w2 := h.trans (k.mono h.size)
def unsS (b : UInt8) : Nat := usN b.toNat
theorem uns_first (b : UInt8) {x : Nat} (hx : x < 256) : (subS (UInt8.ofNat x) = b) ↔ x = unsS b := by
  have h := us_sb hx
  have h2 := us_sb b.toNat_lt
  unfold unsS
  constructor
  · intro he; rw [← he, sub_sb, u8_nat hx, h.1]
  · intro he; apply UInt8.toNat.inj; rw [sub_sb, u8_nat hx, he, h2.2.1]
set_option maxRecDepth 100000 in
set_option maxHeartbeats 400000 in
theorem refUnsub_any (b : UInt8) (w : World) : Calls Try.prog 14 #[.int .u8 (b.toNat : Int)] w fun e w' => e = .returned (.int .u8 (unsS b : Int)) ∧ Below w.heap.size w w' := by
  have HS : Hid (∀ x : Nat, x < 256 → ∀ w, Calls Try.prog 12 #[.int .u8 (x : Int)] w fun e w' => e = .returned (.int .u8 ((subS (UInt8.ofNat x)).toNat : Int)) ∧ Below w.heap.size w w') := fun x hx w => by
    have := refSub_any (UInt8.ofNat x) w
    rw [u8_nat hx] at this; exact this
  have HF : Hid (∀ x : Nat, x < 256 → (((subS (UInt8.ofNat x)).toNat : Int) = (b.toNat : Int) ↔ x = unsS b)) := fun x hx => by
    rw [← uns_first b hx]
    constructor
    · intro h; exact UInt8.toNat.inj (by omega)
    · intro h; rw [h]
  have hu : unsS b < 256 := (us_sb b.toNat_lt).2.2.1
  generalize (b.toNat : Int) = B at *
  generalize unsS b = U at *
  go_enter Try.func14, Try.ntmps14
  go_wp2_with fail
  go_loopw [3] (fun i wr => ∃ k : Nat, k ≤ U ∧ i = .int .i64 k ∧ Below w.heap.size w wr) (fun i _ => 256 - (intOf i).toNat)
  case atStart => exact ⟨0, Nat.zero_le _, rfl, Below.refl _ _⟩
  case round =>
    obtain ⟨k, hk, rfl, hbel⟩ := hrel
    have hlti : (k : Int) < 256 := by omega
    have HK := hidD (HS.out k (by omega))
    have HE := hidD (HF.out k (by omega))
    generalize ((subS (UInt8.ofNat k)).toNat : Int) = X at *
    have HBL := hidD hbel
    clear hbel
    by_cases he : k = U
    · subst he
      obtain rfl : X = B := HE.out.2 rfl
      go_wp2_with (go_at_call 12; refine (HK.out _).mono ?_; rintro e w2 ⟨rfl, hb2⟩; clear HK; have HB2 := hidD hb2; clear hb2)
      go_ret
      exact ⟨rfl, Below.next HBL.out HB2.out⟩
    · have hne : ¬ X = B := fun h => he (HE.out.1 h)
      have hb' : (X == B) = false := by simpa using hne
      go_wp2_with (go_at_call 12; refine (HK.out _).mono ?_; rintro e w2 ⟨rfl, hb2⟩; clear HK; have HB2 := hidD hb2; clear hb2)
      go_roundw
      case rel => exact ⟨k + 1, by omega, by go_num, Below.next HBL.out HB2.out⟩
      case measure => simp [intOf]; omega

def rndS (n : Int) : Nat := if n < 1 then 0 else (pw 27 2 ((n - 1) % 51).toNat).toNat
set_option maxRecDepth 100000 in
set_option maxHeartbeats 400000 in
theorem refRound_low (n : Int) (h : n < 1) (w : World) : Calls Try.prog 22 #[.int .i64 n] w fun e w' => e = .returned (.int .u8 0) ∧ w' = w := by
  go_enter Try.func22, Try.ntmps22
  go_wp2_with fail
  go_ret
  exact ⟨rfl, rfl⟩
set_option maxRecDepth 100000 in
set_option maxHeartbeats 400000 in
theorem refRound_any (n : Int) (h : n < 9223372036854775808) (w : World) : Calls Try.prog 22 #[.int .i64 n] w fun e w' => e = .returned (.int .u8 (rndS n : Int)) ∧ w' = w := by
  by_cases h1 : n < 1
  · have := refRound_low n h1 w
    unfold rndS; rw [if_pos h1]; exact this
  · obtain ⟨M, hM⟩ : ∃ M : Nat, (n - 1) % 51 = (M : Int) := ⟨((n - 1) % 51).toNat, by omega⟩
    have hMl : M < 51 := by omega
    have ht : (n - 1).tmod 51 = (M : Int) := by rw [Int.tmod_eq_emod_of_nonneg (by omega)]; exact hM
    have HR : Hid (rndS n = (pw 27 2 M).toNat) := by unfold rndS; rw [if_neg h1, hM]; rfl
    have HC : Hid (∀ k w, Calls Try.prog 49 #[.int .u8 ((pw 27 2 k).toNat : Int), .int .u8 2, .int .i64 283] w fun e w' => e = .returned (.int .u8 ((pw 27 2 (k + 1)).toNat : Int)) ∧ w' = w) := fun k w => refCarry_in 27 (pw 27 2 k) 2 283 rfl w
    generalize rndS n = R at *
    clear hM
    go_enter Try.func22, Try.ntmps22
    go_wp2_with fail
    go_loopw [3, 4] (fun x i wr => ∃ k : Nat, k ≤ M ∧ i = .int .i64 k ∧ x = .int .u8 ((pw 27 2 k).toNat : Int) ∧ wr = w) (fun _ i _ => M - (intOf i).toNat)
    case atStart => exact ⟨0, Nat.zero_le _, rfl, rfl, rfl⟩
    case round =>
      obtain ⟨k, hk, rfl, rfl, rfl⟩ := hrel
      by_cases hlt : k < M
      · have hlti : (k : Int) < M := by omega
        have HCk := hidD (HC.out k)
        generalize hx : ((pw 27 2 (k + 1)).toNat : Int) = X at *
        have HX := hidD hx
        clear hx
        generalize ((pw 27 2 k).toNat : Int) = Y at *
        go_wp2_with (go_at_call 49; refine (HCk.out _).mono ?_; rintro e w3 ⟨rfl, hb3⟩)
        go_roundw
        case rel => exact ⟨k + 1, by omega, by go_num, by rw [HX.out], by first | trivial | exact hb3⟩
        case measure => simp [intOf]; omega
      · obtain rfl : k = M := by omega
        rw [← HR.out]
        go_wp2_with fail
        go_ret
        exact ⟨rfl, rfl⟩

set_option maxRecDepth 100000 in
set_option maxHeartbeats 400000 in
theorem refParity_any (v : Nat) (hv : v < 256) (w : World) : Calls Try.prog 53 #[.int .u8 (v : Int)] w fun e w' => e = .returned (.int .i64 (parS v : Nat)) ∧ w' = w := by
  have HR : Hid (parS v = onesTo v 8 % 2) := rfl
  generalize parS v = R at *
  go_enter Try.func53, Try.ntmps53
  go_wp2_with fail
  go_loopw [3, 4] (fun n i wr => ∃ k : Nat, k ≤ 8 ∧ i = .int .i64 k ∧ n = .int .i64 ((onesTo v k : Nat) : Int) ∧ wr = w) (fun _ i _ => 8 - (intOf i).toNat)
  case atStart => exact ⟨0, Nat.zero_le _, rfl, rfl, rfl⟩
  case round =>
    obtain ⟨k, hk, rfl, rfl, rfl⟩ := hrel
    by_cases hlt : k < 8
    · have hlti : (k : Int) < 8 := by omega
      have hbit := bit_u8 k hv
      have hn := ones_le v k
      have hbt := Bool.toNat_le (v.testBit k)
      have HS : Hid (onesTo v (k + 1) = onesTo v k + (v.testBit k).toNat) := rfl
      generalize (v.testBit k).toNat = B at *
      generalize hN : onesTo v k = N at *
      clear hN
      go_wp2_with fail
      go_roundw
      case rel => exact ⟨k + 1, by omega, by go_num, by rw [HS.out]; go_num, trivial⟩
      case measure => simp [intOf]; omega
    · obtain rfl : k = 8 := by omega
      have hn := ones_le v 8
      have hR := HR.out
      generalize onesTo v 8 = N at *
      have ht : (N : Int).tmod 2 = (R : Int) := by rw [Int.tmod_eq_emod_of_nonneg (by omega)]; omega
      clear hR
      go_wp2_with fail
      go_ret
      exact ⟨rfl, rfl⟩
end Go.Proofs.Ytdbledfpphkppaa
