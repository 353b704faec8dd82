/- What the document's VerhoeffRight answers. -/
import Derived.Test.YtjmaejdkdpiigaaR3
namespace Go.Proofs.Ytjmaejdkdpiigaa
open Go.RowKit
set_option linter.unusedVariables false

set_option maxRecDepth 100000 in
set_option maxHeartbeats 1600000 in
theorem refVerhoeffRight_any (s : List UInt8) (hs : s.length ≤ 140737488355328) (w : World) : Calls Try.prog 31 #[.string ⟨s.toArray⟩] w fun e w' => e = .returned (.bool (decide (vrP s))) ∧ Below w.heap.size w w' := by
  by_cases h0 : s = []
  · subst h0
    rw [decide_eq_false (show ¬ vrP [] from fun h => h.1 rfl)]
    go_enter Try.func31, Try.ntmps31
    go_wp2_with fail
    go_ret
    exact ⟨rfl, Below.refl _ _⟩
  · have hlen : 0 < s.length := by cases s; exact absurd rfl h0; simp
    have hz := ba_size s
    by_cases hd : AllD s
    · have HA : Hid (∀ w, Calls Try.prog 45 #[.string ⟨s.toArray⟩] w fun e w' => e = .returned (.bool true) ∧ w' = w) := fun w => by have := refDigits_any s hs w; rw [decide_eq_true hd] at this; exact this
      have HE : Hid (decide (vrP s) = ((veTo (dgS s) 0 s.length : Int) == 0)) := by
        show _ = _
        by_cases hz : veTo (dgS s) 0 s.length = 0
        · rw [decide_eq_true (show vrP s from ⟨h0, hd, hz⟩), hz]; rfl
        · rw [decide_eq_false (show ¬ vrP s from fun h => hz h.2.2)]; exact (beq_eq_false_iff_ne.mpr (by omega)).symm
      have hg := dg_dgs hd
      have HD := hidD hd
      rw [HE.out]
      have hs2 : ((({ data := s.toArray } : ByteArray).size : Nat) : Int) ≤ 140737488355328 := by rw [hz]; omega
      have hs3 : (1 : Int) ≤ ((({ data := s.toArray } : ByteArray).size : Nat) : Int) := by rw [hz]; omega
      have hs4 : ((({ data := s.toArray } : ByteArray).size : Int) == 0) = false := beq_eq_false_iff_ne.mpr (by omega)
      have HZ := hidD hz
      clear hd h0 hz
      go_enter Try.func31, Try.ntmps31
      go_wp2_with (go_at_call 45; refine (HA.out _).mono ?_; rintro e w2 ⟨rfl, hb2⟩)
      go_loopw [3, 4] (fun t i wr => ∃ k : Nat, k ≤ s.length ∧ i = .int .i64 k ∧ t = .int .i64 (veTo (dgS s) 0 k : Int) ∧ Hid (Below w.heap.size w wr)) (fun _ i _ => s.length - (intOf i).toNat)
      case atStart => exact ⟨0, Nat.zero_le _, rfl, rfl, Below.refl _ _⟩
      case round =>
        obtain ⟨k, hk, rfl, rfl, hbel⟩ := hrel
        have hve := ve_lt hg 0 k
        by_cases hlt : k < s.length
        · have hki : (k : Int) < ({ data := s.toArray } : ByteArray).size := by rw [HZ.out]; omega
          have hdk := hg k
          have HS : Hid (veTo (dgS s) 0 (k + 1) = prS (veTo (dgS s) 0 k) (peS (k % 8) (dgS s k))) := (rfl : _ = _)
          have hk8 : (k : Int).tmod 8 = ((k % 8 : Nat) : Int) := rfl
          have hpe := pe_lt (k % 8) _ hdk
          have HPm : Hid (∀ w, Calls Try.prog 48 #[.int .i64 ((k % 8 : Nat) : Int), .int .i64 (dgS s k : Int)] w fun e w' => e = .returned (.int .i64 (peS (k % 8) (dgS s k) : Int)) ∧ Below w.heap.size w w') := fun w => by
            have := refPermuted_any ((k % 8 : Nat) : Int) (dgS s k : Int) w
            rw [md_nat _ 10 hdk, md_nat _ 8 (Nat.mod_lt _ (by decide))] at this
            exact this
          have HPr : Hid (∀ w, Calls Try.prog 47 #[.int .i64 (veTo (dgS s) 0 k : Int), .int .i64 (peS (k % 8) (dgS s k) : Int)] w fun e w' => e = .returned (.int .i64 (prS (veTo (dgS s) 0 k) (peS (k % 8) (dgS s k)) : Int)) ∧ w' = w) := fun w => by
            have := refProduct_any (veTo (dgS s) 0 k : Int) (peS (k % 8) (dgS s k) : Int) w
            rw [md_nat _ 10 hve, md_nat _ 10 hpe] at this
            exact this
          have HR : Hid (dgS s k = byteAt s (s.length - 1 - k) - 48) := by show _ = _; unfold dgS; rw [if_pos hlt]
          have hs1 : ((({ data := s.toArray } : ByteArray).size : Nat) : Int) - 1 - (k : Int) = ((s.length - 1 - k : Nat) : Int) := by rw [HZ.out]; omega
          have hlt2 : s.length - 1 - k < s.length := by omega
          have hlt' : s.length - 1 - k < ({ data := s.toArray } : ByteArray).size := by rw [ba_size]; exact hlt2
          have ek := ba_nat s _ hlt'
          obtain ⟨g1, g2⟩ := HD.out (s.length - 1 - k) hlt2
          generalize s.length - 1 - k = j at *
          generalize byteAt s j = c at *
          generalize hB : prS (veTo (dgS s) 0 k) (peS (k % 8) (dgS s k)) = R at *
          generalize peS (k % 8) (dgS s k) = Q at *
          generalize veTo (dgS s) 0 k = T at *
          clear hB
          rw [HR.out] at HPm
          have hci : ((c - 48 : Nat) : Int) = (c : Int) - 48 := by omega
          have hcm : ((c : Int) - 48) % 256 = ((c - 48 : Nat) : Int) := by omega
          clear HR hdk
          generalize c - 48 = d at *
          have hcd : (c : Int) - 48 = (d : Int) := hci.symm
          clear hci
          have h8 : k % 8 < 8 := Nat.mod_lt _ (by decide)
          generalize k % 8 = k8 at *
          go_wp2_with (first | (go_at_call 48; refine (HPm.out _).mono ?_; rintro e w2 ⟨rfl, hb2⟩) | (go_at_call 47; refine (HPr.out _).mono ?_; rintro e w3 ⟨rfl, hb3⟩))
          go_roundw
          case rel => exact ⟨k + 1, by omega, by go_num, by rw [HS.out], Below.next hbel.out hb2⟩
          case measure => simp [intOf]; omega
        · have HK : Hid (s.length = k) := (show s.length = k by omega)
          have hki : ¬ (k : Int) < ({ data := s.toArray } : ByteArray).size := by rw [HZ.out]; omega
          clear hk hlt
          go_wp2_with fail
          go_ret
          exact ⟨by rw [HK.out]; rfl, hbel.out⟩
    · have HA : Hid (∀ w, Calls Try.prog 45 #[.string ⟨s.toArray⟩] w fun e w' => e = .returned (.bool false) ∧ w' = w) := fun w => by have := refDigits_any s hs w; rw [decide_eq_false hd] at this; exact this
      rw [decide_eq_false (show ¬ vrP s from fun h => hd h.2.1)]
      have hs4 : ((({ data := s.toArray } : ByteArray).size : Int) == 0) = false := beq_eq_false_iff_ne.mpr (by rw [hz]; omega)
      clear hd h0 hz
      go_enter Try.func31, Try.ntmps31
      go_wp2_with (go_at_call 45; refine (HA.out _).mono ?_; rintro e w2 ⟨rfl, hb2⟩)
      go_ret
      exact ⟨rfl, Below.refl _ _⟩
end Go.Proofs.Ytjmaejdkdpiigaa
