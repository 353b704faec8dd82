/- What the document's Affine, Inverse, Sub and Unsub answer. -/
import Derived.Test.YtdbledfpphkppaaOwn5
import Derived.Test.YtdbledfpphkppaaSbx
namespace Go.Proofs.Ytdbledfpphkppaa
open Go.RowKit
set_option linter.unusedVariables false

def rolS (b k : Nat) : Nat := b * 2 ^ k % 256 ||| b / 2 ^ (8 - k)
def affTo (b : Nat) : Nat → Nat
  | 0 => 99
  | k + 1 => affTo b k ^^^ rolS b k
theorem rol_lt {b k : Nat} (hb : b < 256) : rolS b k < 256 := Nat.or_lt_two_pow (n := 8) (Nat.mod_lt _ (by omega)) (Nat.lt_of_le_of_lt (Nat.div_le_self _ _) hb)
theorem affTo_lt {b : Nat} (hb : b < 256) : ∀ k, affTo b k < 256
  | 0 => by show 99 < 256; decide
  | k + 1 => xor256 (affTo_lt hb k) (rol_lt hb)
def affP (b : UInt8) : Bool := affTo b.toNat 5 == (affS b).toNat
theorem aff_all : ((List.range 256).all fun x => affP (UInt8.ofNat x)) = true := by decide +kernel
theorem aff_to (b : UInt8) : affTo b.toNat 5 = (affS b).toNat := eq_of_beq (u8_all (p := affP) aff_all b)
theorem rol_walk {b k : Nat} (hb : b < 256) : bits .or .u8 ((b : Int) * 2 ^ k % 256) ((b : Int) / 2 ^ (8 - k)) = ((rolS b k : Nat) : Int) := by
  have h1 : (b : Int) * 2 ^ k % 256 = ((b * 2 ^ k % 256 : Nat) : Int) := by
    rw [show (b : Int) * 2 ^ k = ((b * 2 ^ k : Nat) : Int) by simp]
    simp
  have h2 : (b : Int) / 2 ^ (8 - k) = ((b / 2 ^ (8 - k) : Nat) : Int) := by simp
  rw [h1, h2, u8_or_nat _ _ (Nat.mod_lt _ (by omega)) (Nat.lt_of_le_of_lt (Nat.div_le_self _ _) hb)]
  rfl

set_option maxRecDepth 100000 in
set_option maxHeartbeats 400000 in
theorem refAffine_any (b : UInt8) (w : World) : Calls Try.prog 10 #[.int .u8 (b.toNat : Int)] w fun e w' => e = .returned (.int .u8 ((affS b).toNat : Int)) ∧ w' = w := by
  have hb : b.toNat < 256 := b.toNat_lt
  have HR := hidD (aff_to b)
  generalize (affS b).toNat = R at *
  generalize b.toNat = B at *
  go_enter Try.func10, Try.ntmps10
  go_wp2_with fail
  go_loopw [3, 4] (fun x i wr => ∃ k : Nat, k ≤ 5 ∧ i = .int .i64 k ∧ x = .int .u8 ((affTo B k : Nat) : Int) ∧ wr = w) (fun _ i _ => 5 - (intOf i).toNat)
  case atStart => exact ⟨0, Nat.zero_le _, rfl, rfl, rfl⟩
  case round =>
    obtain ⟨k, hk, rfl, rfl, rfl⟩ := hrel
    by_cases hlt : k < 5
    · have hlti : (k : Int) < 5 := by omega
      have hk8 : (8 : Int) - k = ((8 - k : Nat) : Int) := by omega
      have hd : 3 ≤ 8 - k := by omega
      have hd2 : 8 - k ≤ 8 := by omega
      have hX := affTo_lt hb k
      have HS : Hid (bits .xor .u8 ((affTo B k : Nat) : Int) (bits .or .u8 ((B : Int) * 2 ^ k % 256) ((B : Int) / 2 ^ (8 - k))) = ((affTo B (k + 1) : Nat) : Int)) := by
        show _ = _; rw [rol_walk hb, u8_xor_nat _ _ hX (rol_lt hb)]; rfl
      generalize ((affTo B k : Nat) : Int) = X at *
      generalize 8 - k = d at *
      go_wp2_with fail
      go_roundw
      case rel => exact ⟨k + 1, by omega, by go_num, by rw [HS.out], trivial⟩
      case measure => simp [intOf]; omega
    · obtain rfl : k = 5 := by omega
      rw [HR.out]
      go_wp2_with fail
      go_ret
      exact ⟨rfl, rfl⟩

set_option maxRecDepth 100000 in
set_option maxHeartbeats 400000 in
theorem refInverse_any (b : UInt8) (w : World) : Calls Try.prog 44 #[.int .u8 (b.toNat : Int)] w fun e w' => e = .returned (.int .u8 ((inv 27 b).toNat : Int)) ∧ Below w.heap.size w w' := by
  have HP : Hid (∀ w', RfAt w' w.heap.size 27 3 → Calls Try.prog 65 #[.pointer (some ⟨w.heap.size, 0, none⟩), .int .u8 (b.toNat : Int), .int .i64 254] w' fun e w2 => e = .returned (.int .u8 ((inv 27 b).toNat : Int)) ∧ w2 = w') := fun w' h => power_any b 254 (by omega) w' h
  have HN := hidD (fun t => RfAt.new w 27 3 283 rfl t)
  generalize ((inv 27 b).toNat : Int) = R at *
  go_enter Try.func44, Try.ntmps44
  go_wp2_with (go_at_call 65; refine (HP.out _ (HN.out _)).mono ?_; rintro e w2 ⟨rfl, rfl⟩)
  go_ret
  exact ⟨rfl, (Below.refl _ _).alloc (Nat.le_refl _) _⟩
set_option maxRecDepth 100000 in
set_option maxHeartbeats 400000 in
theorem refSub_any (b : UInt8) (w : World) : Calls Try.prog 12 #[.int .u8 (b.toNat : Int)] w fun e w' => e = .returned (.int .u8 ((subS b).toNat : Int)) ∧ Below w.heap.size w w' := by
  have HI := hidD (fun w => refInverse_any b w)
  have HA := hidD (fun w => refAffine_any (inv 27 b) w)
  rw [show affS (inv 27 b) = subS b from rfl] at HA
  generalize ((inv 27 b).toNat : Int) = X at *
  generalize ((subS b).toNat : Int) = R at *
  go_enter Try.func12, Try.ntmps12
  go_wp2_with (first | (go_at_call 44; refine (HI.out _).mono ?_; rintro e w2 ⟨rfl, hb2⟩; clear HI) | (go_at_call 10; refine (HA.out _).mono ?_; rintro e w3 ⟨rfl, rfl⟩))
  go_ret
  exact ⟨rfl, hb2⟩
end Go.Proofs.Ytdbledfpphkppaa
