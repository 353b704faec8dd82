/- What the document's total and digit answer. -/
import Derived.Test.YtpemajghaceegaaGreatDoorHxe
namespace Go.Proofs.YtpemajghaceegaaGreatDoor
open Go.RowKit
set_option linter.unusedVariables false

set_option maxRecDepth 100000 in
set_option maxHeartbeats 800000 in
theorem refTotal_any (v : Value) (l : List UInt8) (hl : l.length ≤ 140737488355000) (w : World) (h : ByAt w v l) : Calls Tryz.prog 41 #[v] w fun e w' => e = .returned (.int .i64 (totS l : Int)) ∧ w' = w := by
  obtain ⟨a, cap, rfl, h1, h2, h3, h4⟩ := h
  have H4 := hidD h4
  clear h3 h4
  obtain ⟨N, HN⟩ : ∃ N, Hid (l.length = N) := ⟨_, rfl⟩
  rw [HN.out] at h1 hl H4 ⊢
  have HT : Hid (∀ k, k < N → totS (l.take (k + 1)) = totS (l.take k) + (l.getD k 0).toNat) := fun k hk => tot_take (by rw [HN.out]; exact hk)
  have HL : Hid (∀ k, k ≤ N → totS (l.take k) ≤ 255 * k) := fun k hk => by have := tot_le (l.take k); rw [List.length_take] at this; omega
  have HE : Hid (l.take N = l) := by show _ = _; rw [← HN.out]; exact List.take_length
  go_enter Tryz.func41, Tryz.ntmps41
  go_wp2_with fail
  go_loopw [3, 4] (fun s i wr => ∃ k : Nat, k ≤ N ∧ i = .int .i64 k ∧ s = .int .i64 (totS (l.take k) : Int) ∧ wr = w) (fun _ i _ => N - (intOf i).toNat)
  case atStart => exact ⟨0, Nat.zero_le _, rfl, rfl, rfl⟩
  case round =>
    obtain ⟨k, hk, rfl, rfl, rfl⟩ := hrel
    by_cases hlt : k < N
    · have hlti : (k : Int) < N := by omega
      obtain ⟨g, o, rfl, hg, hc⟩ := H4.out k hlt
      have HS := hidD (HT.out k hlt)
      have hb := HL.out k hk
      have hx := (l.getD k 0).toNat_lt
      have h2' : ((255 : Int) * k) ≤ 35888059530530000 := by omega
      generalize (l.getD k 0).toNat = x at *
      generalize totS (l.take k) = s0 at *
      go_wp2_with fail
      go_roundw
      case rel => exact ⟨k + 1, by omega, by go_num, by rw [HS.out]; go_num, trivial⟩
      case measure => simp [intOf]; omega
    · obtain rfl : k = N := by omega
      rw [HE.out]
      have hlt' : ¬ (k : Int) < k := by omega
      go_wp2_with fail
      go_ret
      exact ⟨rfl, rfl⟩
/- a digit's worth, -1 where there is none -/
def dgV (c : Nat) : Int := if 48 ≤ c ∧ c ≤ 57 then c - 48 else if 97 ≤ c ∧ c ≤ 102 then c - 87 else if 65 ≤ c ∧ c ≤ 70 then c - 55 else -1
set_option maxRecDepth 100000 in
set_option maxHeartbeats 800000 in
theorem refDigit_any (c : Nat) (hc : c < 256) (w : World) : Calls Tryz.prog 82 #[.int .u8 (c : Int)] w fun e w' => e = .returned (.int .i64 (dgV c)) ∧ w' = w := by
  unfold dgV
  by_cases h1 : 48 ≤ c
  · by_cases h2 : c ≤ 57
    · rw [if_pos ⟨h1, h2⟩]
      have i1 : (c : Int) ≥ 48 := by omega
      have i2 : (c : Int) ≤ 57 := by omega
      go_enter Tryz.func82, Tryz.ntmps82
      go_wp2_with fail
      go_ret
      exact ⟨rfl, rfl⟩
    · rw [if_neg (fun h => h2 h.2)]
      have i1 : (c : Int) ≥ 48 := by omega
      have i2 : ¬ (c : Int) ≤ 57 := by omega
      by_cases h3 : 97 ≤ c
      · have i3 : (c : Int) ≥ 97 := by omega
        by_cases h4 : c ≤ 102
        · rw [if_pos ⟨h3, h4⟩]
          have i4 : (c : Int) ≤ 102 := by omega
          go_enter Tryz.func82, Tryz.ntmps82
          go_wp2_with fail
          go_ret
          exact ⟨by go_num, rfl⟩
        · rw [if_neg (fun h => h4 h.2), if_neg (fun h => by omega)]
          have i4 : ¬ (c : Int) ≤ 102 := by omega
          have i5 : (c : Int) ≥ 65 := by omega
          have i6 : ¬ (c : Int) ≤ 70 := by omega
          go_enter Tryz.func82, Tryz.ntmps82
          go_wp2_with fail
          go_ret
          exact ⟨rfl, rfl⟩
      · rw [if_neg (fun h => h3 h.1)]
        have i3 : ¬ (c : Int) ≥ 97 := by omega
        by_cases h5 : 65 ≤ c
        · have i5 : (c : Int) ≥ 65 := by omega
          by_cases h6 : c ≤ 70
          · rw [if_pos ⟨h5, h6⟩]
            have i6 : (c : Int) ≤ 70 := by omega
            go_enter Tryz.func82, Tryz.ntmps82
            go_wp2_with fail
            go_ret
            exact ⟨by go_num, rfl⟩
          · rw [if_neg (fun h => h6 h.2)]
            have i6 : ¬ (c : Int) ≤ 70 := by omega
            go_enter Tryz.func82, Tryz.ntmps82
            go_wp2_with fail
            go_ret
            exact ⟨rfl, rfl⟩
        · rw [if_neg (fun h => h5 h.1)]
          have i5 : ¬ (c : Int) ≥ 65 := by omega
          go_enter Tryz.func82, Tryz.ntmps82
          go_wp2_with fail
          go_ret
          exact ⟨rfl, rfl⟩
  · rw [if_neg (fun h => h1 h.1), if_neg (fun h => by omega), if_neg (fun h => by omega)]
    have i1 : ¬ (c : Int) ≥ 48 := by omega
    have i3 : ¬ (c : Int) ≥ 97 := by omega
    have i5 : ¬ (c : Int) ≥ 65 := by omega
    go_enter Tryz.func82, Tryz.ntmps82
    go_wp2_with fail
    go_ret
    exact ⟨rfl, rfl⟩
end Go.Proofs.YtpemajghaceegaaGreatDoor
