/- What the document's hex answers. -/
import Derived.Test.YtpemajghaceegaaGreatDoorRfa
import Derived.Test.YtpemajghaceegaaGreatDoorHxg
namespace Go.Proofs.YtpemajghaceegaaGreatDoor
open Go.RowKit
set_option linter.unusedVariables false

theorem and15 : ∀ n < 256, bits BinOp.and IntKind.u8 ((n : Nat) : Int) 15 = ((n % 16 : Nat) : Int) := by decide +kernel
def hexT : ByteArray := ⟨#[48, 49, 50, 51, 52, 53, 54, 55, 56, 57, 65, 66, 67, 68, 69, 70]⟩
theorem hex_one : ∀ n : Nat, n < 16 → hexT.extract n (n + 1) = bA [dgS (UInt8.ofNat n)] := by decide +kernel
set_option maxRecDepth 100000 in
set_option maxHeartbeats 800000 in
theorem refHex_any (v : Value) (l : List UInt8) (hl : l.length ≤ 1048576) (w : World) (h : ByAt w v l) : Calls Tryz.prog 40 #[v] w fun e w' => e = .returned (.string (bA (hexS l))) ∧ Below w.heap.size w w' := by
  obtain ⟨a, cap, rfl, h1, h2, h3, h4⟩ := h
  have H4 := hidD h4
  clear h3 h4
  obtain ⟨N, HN⟩ : ∃ N, Hid (l.length = N) := ⟨_, rfl⟩
  rw [HN.out] at h1 hl H4 ⊢
  have HT : Hid (∀ k, k < N → hexS (l.take (k + 1)) = (hexS (l.take k) ++ [dgS (l.getD k 0 / 16)]) ++ [dgS (l.getD k 0 % 16)]) := fun k hk => hex_take (by rw [HN.out]; exact hk)
  have HL : Hid (∀ k, k ≤ N → (bA (hexS (l.take k))).size = 2 * k) := fun k hk => by show _ = _; rw [ba_size, hex_len, List.length_take, HN.out]; omega
  have HE : Hid (l.take N = l) := by show _ = _; rw [← HN.out]; exact List.take_length
  go_enter Tryz.func40, Tryz.ntmps40
  go_wp2_with fail
  go_loopw [4, 5] (fun s i wr => ∃ k : Nat, k ≤ N ∧ i = .int .i64 k ∧ s = .string (bA (hexS (l.take k))) ∧ ∃ n, wr = w.drewN n) (fun _ i _ => N - (intOf i).toNat)
  case atStart => exact ⟨0, Nat.zero_le _, rfl, rfl, 0, rfl⟩
  case round =>
    obtain ⟨k, hk, rfl, rfl, n, rfl⟩ := hrel
    by_cases hlt : k < N
    · have hlti : (k : Int) < N := by omega
      obtain ⟨g, o, rfl, hg, hc⟩ := H4.out k hlt
      have HS := hidD (HT.out k hlt)
      have hx := (l.getD k 0).toNat_lt
      have hand := and15 (l.getD k 0).toNat hx
      have hz := HL.out k hk
      obtain ⟨y, HY⟩ : ∃ y, Hid (l.getD k 0 = y) := ⟨_, rfl⟩
      rw [HY.out] at hc hx hand HS
      have e1 : ∀ i : KB (w.drewN n) [g], i.v.cell? ⟨g, o + k, none⟩ = some (.int .u8 (y.toNat : Int)) := fun i => (i.cell (b := g) (by simp) _).trans hc
      clear hc
      have HXT : Hid (bA (hexS (l.take k)) ++ hexT.extract (y.toNat / 16) (y.toNat / 16 + 1) ++ hexT.extract (y.toNat % 16) (y.toNat % 16 + 1) = bA (hexS (l.take (k + 1)))) := by
        show _ = _
        rw [hex_one _ (by omega), hex_one _ (by omega), ba_cat, ba_cat, HS.out]
        congr 4
        · congr 2
          apply UInt8.toNat_inj.1
          rw [UInt8.toNat_div, of_nat]
          show y.toNat / 16 % 256 = y.toNat / 16
          omega
        · congr 1
          apply UInt8.toNat_inj.1
          rw [UInt8.toNat_mod, of_nat]
          show y.toNat % 16 % 256 = y.toNat % 16
          omega
      generalize bA (hexS (l.take k)) = s at *
      generalize y.toNat = x at *
      go_wp2_with fail
      refine wp_region_seg [0, 0, 0, 0, 0, 0, 0, 0, 0, 0, 0, 0, 0, 0, 0, 0, 0, 0, 0, 0, 0, 0, 0, 0, 0, 0, 0, 0, 0, 99] 0 29 [g] (by kernel_rfl) (by kernel_rfl) (by kernel_rfl) (by kernel_rfl) (by kernel_rfl) (by kernel_rfl) (by kernel_rfl) (by kernel_rfl) (fun _ _ _ _ _ h => h) ?_
      simp only [SegW, pk, Nat.reduceMul, Nat.reduceBEq, cond_true, cond_false]
      repeat (go_big_quiet_step (fail))
      refine wpQuiet_nil ?_
      go_wp2_with fail
      go_roundw
      case rel => exact ⟨k + 1, by omega, by go_num, congrArg Value.string HXT.out, n + 1, rfl⟩
      case measure => simp [intOf]; omega
    · obtain rfl : k = N := by omega
      rw [HE.out]
      have hlt' : ¬ (k : Int) < k := by omega
      go_wp2_with fail
      go_ret
      exact ⟨rfl, below_drewN (Below.refl _ _) n⟩
end Go.Proofs.YtpemajghaceegaaGreatDoor
