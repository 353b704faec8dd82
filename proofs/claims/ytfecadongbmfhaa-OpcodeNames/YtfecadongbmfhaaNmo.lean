/- What Modes answers: the document's. -/
import Derived.Test.YtfecadongbmfhaaApn
import Derived.Test.YtfecadongbmfhaaNmp
import Derived.Test.YtfecadongbmfhaaNmc
namespace Go.Proofs.Ytfecadongbmfhaa
open Go.RowKit
set_option linter.unusedVariables false

def encI (x : Int) : Value := .int .i64 x
theorem code_none (x : Int) : coV 0 x = .tuple #[.int .u8 0, .bool false] := if_pos (Or.inl rfl)
theorem rcode_has (s : List UInt8) (x : Int) : ∃ c : Nat, ∀ w, Calls Try.prog 21 #[.string (bA s), .int .i64 x] w fun e w' => e = .returned (.tuple #[.int .u8 (c : Int), .bool (!(fiS s == 0) && hcS (fiS s) x)]) ∧ Below w.heap.size w w' := by
  have h := refCode_any s x
  by_cases h0 : fiS s = 0
  · rw [h0, code_none] at h
    rw [h0]
    exact ⟨0, h⟩
  · unfold coV at h
    unfold hcS
    rw [beq_eq_false_iff_ne.2 h0]
    by_cases hc : coS (fiS s) x = 256
    · rw [if_pos (Or.inr hc)] at h
      rw [beq_iff_eq.2 hc]
      exact ⟨0, h⟩
    · rw [if_neg (by omega)] at h
      rw [beq_eq_false_iff_ne.2 hc]
      exact ⟨_, h⟩
def rmL (s : List UInt8) (m : Nat) : List Int := if fiS s = 0 then [] else mdT (fiS s) m
theorem rmL_step (s : List UInt8) (m : Nat) : rmL s (m + 1) = rmL s m ++ (if (!(fiS s == 0) && hcS (fiS s) (m : Int)) = true then [(m : Int)] else []) := by
  unfold rmL
  by_cases h0 : fiS s = 0
  · rw [if_pos h0, if_pos h0, h0]; simp
  · rw [if_neg h0, if_neg h0, beq_eq_false_iff_ne.2 h0, mdT, Bool.not_false, Bool.true_and]
theorem rmL_len (s : List UInt8) (m : Nat) : (rmL s m).length ≤ m := by
  unfold rmL
  split
  · simp
  · exact mdT_len _ m
set_option maxRecDepth 100000 in
set_option maxHeartbeats 3200000 in
theorem refModes_any (s : List UInt8) (w : World) : Calls Try.prog 30 #[.string (bA s)] w fun e w' => ∃ v, e = .returned v ∧ w'.ownsRow w.heap.size 3 1 v (rmL s 13).length ((rmL s 13).map encI) ∧ Below w.heap.size w w' := by
  have HC : Hid (∀ m : Nat, ∃ c : Nat, ∀ w, Calls Try.prog 21 #[.string (bA s), .int .i64 (m : Int)] w fun e w' => e = .returned (.tuple #[.int .u8 (c : Int), .bool (!(fiS s == 0) && hcS (fiS s) (m : Int))]) ∧ Below w.heap.size w w') := fun m => rcode_has s m
  have HW : Hid (Below w.heap.size w w) := Below.refl _ _
  have HR0 : Hid (rmL s 0 = []) := by show _ = _; unfold rmL; split <;> rfl
  generalize bA s = SS at *
  go_enter Try.func30, Try.ntmps30
  go_wp2_with fail
  go_loopw [3, 4, 5, 6] (fun v i _ _ wr => ∃ k : Nat, k ≤ 13 ∧ i = .int .i64 k ∧ wr.ownsRow w.heap.size 3 1 v (rmL s k).length ((rmL s k).map encI) ∧ Below w.heap.size w wr) (fun _ i _ _ _ => 13 - (intOf i).toNat)
  case atStart => exact ⟨0, Nat.zero_le _, rfl, by rw [HR0.out]; exact ⟨rfl, .inl ⟨rfl, rfl⟩⟩, HW.out⟩
  case round =>
    obtain ⟨k, hk, rfl, how, hbel⟩ := hrel
    have HOW := hidD how
    have HBL := hidD hbel
    clear how hbel HR0 HW
    by_cases hlt : k < 13
    · have hlti : (k : Int) < 13 := by omega
      obtain ⟨c, hc⟩ := HC.out k
      have HC1 := hidD hc
      have HST := hidD (rmL_step s k)
      have HLN : Hid ((rmL s k).length ≤ 13) := Nat.le_trans (rmL_len s k) hk
      clear HC hc
      cases hB : (!(fiS s == 0) && hcS (fiS s) (k : Int))
      · rw [hB] at HC1 HST
        have HS2 : Hid (rmL s (k + 1) = rmL s k) := by show _ = _; rw [HST.out]; simp
        clear HST hB
        go_wp2_with (go_at_call 21; refine (HC1.out _).mono ?_; rintro e w1 ⟨rfl, b1⟩)
        go_roundw
        case rel => exact ⟨k + 1, by omega, by go_num, by rw [HS2.out]; exact row_below HOW.out b1, Below.next HBL.out b1⟩
        case measure => simp [intOf]; omega
      · rw [hB] at HC1 HST
        have HS2 : Hid ((rmL s (k + 1)).map encI = (rmL s k).map encI ++ [.int .i64 (k : Int)] ∧ (rmL s (k + 1)).length = (rmL s k).length + 1) := by
          show _ ∧ _
          rw [HST.out]
          refine ⟨by simp [encI], by simp⟩
        clear HST hB
        go_wp2_with (first | (at_builtin; refine wpList_append_i rfl _ _ rfl w.heap.size u3 (rmL s k).length ((rmL s k).map encI) rfl ((row_below HOW.out b1).alloc _) w1.heap.size (k : Int) rfl (new_one _ _ _) (by have := HLN.out; omega) (by have := (Below.next HBL.out b1).size; simp; omega) ?_; intro v8 w8 hown8 hg8; have HO8 := hidD hown8; have HB8 := hidD (row_grown (a := w) ((row_below HOW.out b1).alloc _) ((Below.next HBL.out b1).alloc (Below.next HBL.out b1).size _) hg8 (by have := (Below.next HBL.out b1).size; simp; omega)); clear hown8 hg8) | (go_at_call 21; refine (HC1.out _).mono ?_; rintro e w1 ⟨rfl, b1⟩))
        go_roundw
        case rel => exact ⟨k + 1, by omega, by go_num, by rw [HS2.out.1, HS2.out.2]; exact HO8.out, HB8.out⟩
        case measure => simp [intOf]; omega
    · obtain rfl : k = 13 := by omega
      clear HC
      go_wp2_with fail
      go_ret
      exact ⟨_, rfl, HOW.out, HBL.out⟩
end Go.Proofs.Ytfecadongbmfhaa
