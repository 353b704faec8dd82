/- What the document's LuhnRight answers. -/
import Derived.Test.YtjmaejdkdpiigaaR1
namespace Go.Proofs.Ytjmaejdkdpiigaa
open Go.RowKit
set_option linter.unusedVariables false

set_option maxRecDepth 100000 in
set_option maxHeartbeats 1600000 in
theorem refLuhnRight_any (s : List UInt8) (hs : s.length ≤ 140737488355328) (w : World) : Calls Try.prog 29 #[.string ⟨s.toArray⟩] w fun e w' => e = .returned (.bool (decide (lrP s))) ∧ w' = w := by
  by_cases h0 : s = []
  · subst h0
    rw [decide_eq_false (show ¬ lrP [] from fun h => h.1 rfl)]
    go_enter Try.func29, Try.ntmps29
    go_wp2_with fail
    go_ret
    exact ⟨rfl, rfl⟩
  · have hlen : 0 < s.length := by cases s; exact absurd rfl h0; simp
    have hz := ba_size s
    by_cases hd : AllD s
    · have HA : Hid (∀ w, Calls Try.prog 45 #[.string ⟨s.toArray⟩] w fun e w' => e = .returned (.bool true) ∧ w' = w) := fun w => by have := refDigits_any s hs w; rw [decide_eq_true hd] at this; exact this
      have HE : Hid (decide (lrP s) = ((suTo (dgS s) 0 s.length : Int) == 0)) := by
        show _ = _
        by_cases hz : suTo (dgS s) 0 s.length = 0
        · rw [decide_eq_true (show lrP s from ⟨h0, hd, hz⟩), hz]; rfl
        · rw [decide_eq_false (show ¬ lrP s from fun h => hz h.2.2)]; exact (beq_eq_false_iff_ne.mpr (by omega)).symm
      have hg := dg_dgs hd
      have HD := hidD hd
      rw [HE.out]
      have hs2 : ((({ data := s.toArray } : ByteArray).size : Nat) : Int) ≤ 140737488355328 := by rw [hz]; omega
      have hs3 : (1 : Int) ≤ ((({ data := s.toArray } : ByteArray).size : Nat) : Int) := by rw [hz]; omega
      have hs4 : ((({ data := s.toArray } : ByteArray).size : Int) == 0) = false := beq_eq_false_iff_ne.mpr (by omega)
      have HZ := hidD hz
      clear hd h0 hz
      go_enter Try.func29, Try.ntmps29
      go_wp2_with (go_at_call 45; refine (HA.out _).mono ?_; rintro e w2 ⟨rfl, hb2⟩)
      go_loopw [3, 4] (fun t i wr => ∃ k : Nat, k ≤ s.length ∧ i = .int .i64 k ∧ t = .int .i64 (suTo (dgS s) 0 k : Int) ∧ wr = w) (fun _ i _ => s.length - (intOf i).toNat)
      case atStart => exact ⟨0, Nat.zero_le _, rfl, rfl, rfl⟩
      case round =>
        obtain ⟨k, hk, rfl, rfl, rfl⟩ := hrel
        have hsu := su_lt (dgS s) 0 k
        by_cases hlt : k < s.length
        · have hki : (k : Int) < ({ data := s.toArray } : ByteArray).size := by rw [HZ.out]; omega
          have hdk := hg k
          have HS : Hid (suTo (dgS s) 0 (k + 1) = (suTo (dgS s) 0 k + luS k (dgS s k)) % 10) := (rfl : _ = _)
          have hkb : (k : Int).tmod 2 = ((k % 2 : Nat) : Int) := rfl
          have hodd := lu_odd k (dgS s k)
          have hev := lu_even k (dgS s k)
          have HR : Hid (dgS s k = byteAt s (s.length - 1 - k) - 48) := by show _ = _; unfold dgS; rw [if_pos hlt]
          have hs1 : ((({ data := s.toArray } : ByteArray).size : Nat) : Int) - 1 - (k : Int) = ((s.length - 1 - k : Nat) : Int) := by rw [HZ.out]; omega
          have hlt2 : s.length - 1 - k < s.length := by omega
          have hlt' : s.length - 1 - k < ({ data := s.toArray } : ByteArray).size := by rw [ba_size]; exact hlt2
          have ek := ba_nat s _ hlt'
          obtain ⟨g1, g2⟩ := HD.out (s.length - 1 - k) hlt2
          generalize s.length - 1 - k = j at *
          generalize byteAt s j = c at *
          rw [HR.out] at HS hodd hev hdk
          have hci : ((c - 48 : Nat) : Int) = (c : Int) - 48 := by omega
          have hcm : ((c : Int) - 48) % 256 = ((c - 48 : Nat) : Int) := by omega
          generalize c - 48 = d at *
          have hcd : (c : Int) - 48 = (d : Int) := hci.symm
          clear hci HR
          generalize suTo (dgS s) 0 k = T at *
          have hm2 : k % 2 < 2 := Nat.mod_lt _ (by decide)
          by_cases hp : k % 2 = 1
          · rw [hp] at hkb
            have HL := hidD (hodd hp)
            have q1 : (2 * (d : Int)).tdiv 10 = ((d * 2 / 10 : Nat) : Int) := by rw [show 2 * (d : Int) = ((d * 2 : Nat) : Int) by omega]; rfl
            have q2 : (2 * (d : Int)).tmod 10 = ((d * 2 % 10 : Nat) : Int) := by rw [show 2 * (d : Int) = ((d * 2 : Nat) : Int) by omega]; rfl
            have q3 : d * 2 / 10 < 2 := by omega
            have q4 : d * 2 % 10 < 10 := Nat.mod_lt _ (by decide)
            clear hodd hev hp
            generalize d * 2 / 10 = U at *
            generalize d * 2 % 10 = V at *
            have q5 : ((T : Int) + ((U : Int) + (V : Int))).tmod 10 = (((T + (U + V)) % 10 : Nat) : Int) := by rw [← Int.natCast_add, ← Int.natCast_add]; rfl
            have q6 : (T + (U + V)) % 10 < 10 := Nat.mod_lt _ (by decide)
            go_wp2_with fail
            go_roundw
            case rel => exact ⟨k + 1, by omega, by go_num, by rw [HS.out, HL.out]; simp, trivial⟩
            case measure => simp [intOf]; omega
          · have hp0 : k % 2 = 0 := by omega
            rw [hp0] at hkb
            have HL := hidD (hev hp)
            clear hodd hev hp hp0
            have q5 : ((T : Int) + (d : Int)).tmod 10 = (((T + d) % 10 : Nat) : Int) := by rw [← Int.natCast_add]; rfl
            have q6 : (T + d) % 10 < 10 := Nat.mod_lt _ (by decide)
            go_wp2_with fail
            go_roundw
            case rel => exact ⟨k + 1, by omega, by go_num, by rw [HS.out, HL.out]; simp, trivial⟩
            case measure => simp [intOf]; omega
        · have HK : Hid (s.length = k) := (show s.length = k by omega)
          have hki : ¬ (k : Int) < ({ data := s.toArray } : ByteArray).size := by rw [HZ.out]; omega
          clear hk hlt
          go_wp2_with fail
          go_ret
          exact ⟨by rw [HK.out]; rfl, rfl⟩
    · have HA : Hid (∀ w, Calls Try.prog 45 #[.string ⟨s.toArray⟩] w fun e w' => e = .returned (.bool false) ∧ w' = w) := fun w => by have := refDigits_any s hs w; rw [decide_eq_false hd] at this; exact this
      rw [decide_eq_false (show ¬ lrP s from fun h => hd h.2.1)]
      have hs4 : ((({ data := s.toArray } : ByteArray).size : Int) == 0) = false := beq_eq_false_iff_ne.mpr (by rw [hz]; omega)
      clear hd h0 hz
      go_enter Try.func29, Try.ntmps29
      go_wp2_with (go_at_call 45; refine (HA.out _).mono ?_; rintro e w2 ⟨rfl, hb2⟩)
      go_ret
      exact ⟨rfl, rfl⟩
end Go.Proofs.Ytjmaejdkdpiigaa
