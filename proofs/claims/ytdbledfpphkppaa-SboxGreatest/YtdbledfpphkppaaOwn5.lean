/- What Mul and Inverse of the program and Bytes of the statements answer. -/
import Derived.Test.YtdbledfpphkppaaRow
import Derived.Laws.IdiomStrings
namespace Go.Proofs.Ytdbledfpphkppaa
open Go.RowKit
set_option linter.unusedVariables false

set_option maxRecDepth 100000 in
set_option maxHeartbeats 400000 in
theorem gmul_any (a b : UInt8) (w : World) : Calls Try.prog 48 #[.int .u8 (a.toNat : Int), .int .u8 (b.toNat : Int)] w fun e w' => e = .returned (.int .u8 ((bm 27 a b).toNat : Int)) ∧ w' = w := by
  have HC := hidD (fun w => carry_in 27 a b 283 rfl w)
  generalize ((bm 27 a b).toNat : Int) = R at *
  go_enter Try.func48, Try.ntmps48
  go_wp2_with (go_at_call 63; refine (HC.out _).mono ?_; rintro e w2 ⟨rfl, hb2⟩)
  go_ret
  exact ⟨rfl, by first | rfl | exact hb2⟩
theorem inv_sq (a : UInt8) (k : Nat) : bm 27 (pw 27 a (2 ^ k)) (pw 27 a (2 ^ k)) = pw 27 a (2 ^ (k + 1)) := by rw [← pw_add]; congr 1; omega
theorem inv_next (a : UInt8) (k : Nat) : bm 27 (pw 27 a (2 ^ (k + 1) - 2)) (pw 27 a (2 ^ (k + 1))) = pw 27 a (2 ^ (k + 1 + 1) - 2) := by
  have : 2 ≤ 2 ^ (k + 1) := by have := Nat.two_pow_pos k; omega
  rw [← pw_add]; congr 1; omega
set_option maxRecDepth 100000 in
set_option maxHeartbeats 400000 in
theorem inverse_any (a : UInt8) (w : World) : Calls Try.prog 43 #[.int .u8 (a.toNat : Int)] w fun e w' => e = .returned (.int .u8 ((inv 27 a).toNat : Int)) ∧ w' = w := by
  have HA := hidD (fun k w => gmul_any (pw 27 a (2 ^ k)) (pw 27 a (2 ^ k)) w)
  simp only [inv_sq] at HA
  have HB := hidD (fun k w => gmul_any (pw 27 a (2 ^ (k + 1) - 2)) (pw 27 a (2 ^ (k + 1))) w)
  simp only [inv_next] at HB
  have HS : Hid ((a.toNat : Int) = ((pw 27 a (2 ^ 0)).toNat : Int)) := by show _ = _; rw [Nat.pow_zero, pw_one]
  have HR : Hid (((inv 27 a).toNat : Int) = ((pw 27 a (2 ^ (7 + 1) - 2)).toNat : Int)) := rfl
  generalize ((inv 27 a).toNat : Int) = R at *
  have HA := hidD HA.out
  go_enter Try.func43, Try.ntmps43
  go_wp2_with fail
  go_loopw [0, 3, 4] (fun x y i wr => ∃ k : Nat, k ≤ 7 ∧ i = .int .i64 k ∧ x = .int .u8 ((pw 27 a (2 ^ k)).toNat : Int) ∧ y = .int .u8 ((pw 27 a (2 ^ (k + 1) - 2)).toNat : Int) ∧ wr = w) (fun _ _ i _ => 7 - (intOf i).toNat)
  case atStart => exact ⟨0, Nat.zero_le _, rfl, by rw [HS.out], rfl, rfl⟩
  case round =>
    obtain ⟨k, hk, rfl, rfl, rfl, rfl⟩ := hrel
    by_cases hlt : k < 7
    · have hlti : (k : Int) < 7 := by omega
      have HAk := hidD (HA.out k)
      have HBk := hidD (HB.out k)
      generalize hx : ((pw 27 a (2 ^ (k + 1))).toNat : Int) = X at *
      generalize hy : ((pw 27 a (2 ^ (k + 1 + 1) - 2)).toNat : Int) = Y at *
      have HX := hidD hx
      have HY := hidD hy
      clear hx hy
      generalize ((pw 27 a (2 ^ k)).toNat : Int) = X0 at *
      generalize ((pw 27 a (2 ^ (k + 1) - 2)).toNat : Int) = Y0 at *
      go_wp2_with (first | (go_at_call 48; refine (HAk.out _).mono ?_; rintro e w3 ⟨rfl, hb3⟩; clear HAk) | (go_at_call 48; refine (HBk.out _).mono ?_; rintro e w3 ⟨rfl, hb3⟩; clear HBk))
      go_roundw
      case rel => exact ⟨k + 1, by omega, by go_num, by rw [HX.out], by rw [HY.out], trivial⟩
      case measure => simp [intOf]; omega
    · obtain rfl : k = 7 := by omega
      rw [← HR.out]
      generalize ((pw 27 a (2 ^ 7)).toNat : Int) = X0 at *
      go_wp2_with fail
      go_ret
      exact ⟨rfl, rfl⟩

theorem conv_by {w : World} {v : Value} {l : List UInt8} (h : ByAt w v l) : (convert 30 9 v).run Try.prog w = .ok (.string ⟨l.toArray⟩) w := by
  rcases h with ⟨rfl, a, cap, rfl, hc⟩ | ⟨g, off, cap, rfl, hg, hc⟩
  · cases a with
    | none =>
      rw [run_convert_bytes_string w 30 9 5 none 0 cap Try.underlying30 Try.underlying5 Try.underlying9]
      simp [Conv.bytesToString]
      rfl
    | some a => exact run_convert_bytes_back w 30 9 5 a cap [] Try.underlying30 Try.underlying5 Try.underlying9 (fun j hj => by simp at hj)
  · refine run_convert_bytes_back w 30 9 5 _ cap l Try.underlying30 Try.underlying5 Try.underlying9 fun j hj => ?_
    rw [Go.WideShapes.add_plain, hc j hj, List.getD_eq_getElem?_getD, List.getElem?_eq_getElem hj]; rfl
end Go.Proofs.Ytdbledfpphkppaa
