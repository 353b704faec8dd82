/- What Hash and nameOf answer. -/
import Derived.Test.YtfecadongbmfhaaOp6
import Derived.Laws.DeepStrings4
namespace Go.Proofs.Ytfecadongbmfhaa
open Go.RowKit
set_option linter.unusedVariables false

theorem fac_nat {x : Int} (h : facB x = true) : ∃ p : Nat, x = (p : Int) ∧ p < 256 := by
  have := of_decide_eq_true h
  exact ⟨x.toNat, by omega, by omega⟩
/- what Hash answers: the hash, the error -/
def haS (s : List UInt8) (p q : Int) : Nat × Nat := if Cap s ∧ facB p = true ∧ facB q = true then (hsS s p.toNat q.toNat, 0) else (0, 1)
set_option maxRecDepth 100000 in
set_option maxHeartbeats 800000 in
theorem hash_any (s : List UInt8) (hs : s.length ≤ 140737488355328) (p q : Int) (w : World) : Calls Try.prog 31 #[.string ⟨s.toArray⟩, .int .i64 p, .int .i64 q] w fun e w' => e = .returned (.tuple #[.int .i64 ((haS s p q).1 : Int), .int .i64 ((haS s p q).2 : Int)]) ∧ Below w.heap.size w w' := by
  have HI : Hid (∀ w, Calls Try.prog 52 #[.string ⟨s.toArray⟩] w fun e w' => e = .returned (.bool (decide (Cap s))) ∧ w' = w) := fun w => isThree_any s hs w
  have HP : Hid (∀ w, Calls Try.prog 53 #[.int .i64 p] w fun e w' => e = .returned (.bool (facB p)) ∧ w' = w) := fun w => isFactor_any p w
  have HQ : Hid (∀ w, Calls Try.prog 53 #[.int .i64 q] w fun e w' => e = .returned (.bool (facB q)) ∧ w' = w) := fun w => isFactor_any q w
  have HH : Hid (Cap s → facB p = true → facB q = true → ∀ w, Calls Try.prog 54 #[.string ⟨s.toArray⟩, .int .i64 p, .int .i64 q] w fun e w' => e = .returned (.int .i64 (hsS s p.toNat q.toNat : Int)) ∧ Below w.heap.size w w') := fun h1 h2 h3 w => by
    obtain ⟨p', rfl, hp⟩ := fac_nat h2
    obtain ⟨q', rfl, hq⟩ := fac_nat h3
    exact hashOf_any s h1 p' q' hp hq w
  have HN : Hid (¬ (Cap s ∧ facB p = true ∧ facB q = true) → haS s p q = (0, 1)) := fun h => if_neg h
  have HY : Hid (Cap s → facB p = true → facB q = true → haS s p q = (hsS s p.toNat q.toNat, 0)) := fun h1 h2 h3 => if_pos ⟨h1, h2, h3⟩
  generalize haS s p q = R at *
  generalize hsS s p.toNat q.toNat = X at *
  by_cases hc : Cap s
  · rw [decide_eq_true hc] at HI
    cases hp : facB p
    · have hR := HN.out (fun h => by rw [hp] at h; exact absurd h.2.1 (by decide))
      subst hR
      rw [hp] at HP
      clear HQ HH HN HY
      go_enter Try.func31, Try.ntmps31
      go_wp2_with (first | (go_at_call 53; refine (HP.out _).mono ?_; rintro e w2 ⟨rfl, rfl⟩) | (go_at_call 52; refine (HI.out _).mono ?_; rintro e w1 ⟨rfl, rfl⟩))
      go_ret2
      exact ⟨rfl, Below.refl _ _⟩
    · cases hq : facB q
      · have hR := HN.out (fun h => by rw [hq] at h; exact absurd h.2.2 (by decide))
        subst hR
        rw [hp] at HP
        rw [hq] at HQ
        clear HH HN HY
        go_enter Try.func31, Try.ntmps31
        go_wp2_with (first | (go_at_call 53; refine (HP.out _).mono ?_; clear HP; rintro e w2 ⟨rfl, rfl⟩) | (go_at_call 53; refine (HQ.out _).mono ?_; rintro e w2 ⟨rfl, rfl⟩) | (go_at_call 52; refine (HI.out _).mono ?_; rintro e w1 ⟨rfl, rfl⟩))
        go_ret2
        exact ⟨rfl, Below.refl _ _⟩
      · have hR := HY.out hc hp hq
        subst hR
        replace HH := hidD (HH.out hc hp hq)
        rw [hp] at HP
        rw [hq] at HQ
        clear HN HY
        go_enter Try.func31, Try.ntmps31
        go_wp2_with (first | (go_at_call 54; refine (HH.out _).mono ?_; rintro e w3 ⟨rfl, hb⟩) | (go_at_call 53; refine (HP.out _).mono ?_; clear HP; rintro e w2 ⟨rfl, rfl⟩) | (go_at_call 53; refine (HQ.out _).mono ?_; rintro e w2 ⟨rfl, rfl⟩) | (go_at_call 52; refine (HI.out _).mono ?_; rintro e w1 ⟨rfl, rfl⟩))
        go_ret2
        exact ⟨rfl, hb⟩
  · rw [decide_eq_false hc] at HI
    have hR := HN.out (fun h => hc h.1)
    subst hR
    clear HP HQ HH HN HY
    go_enter Try.func31, Try.ntmps31
    go_wp2_with (go_at_call 52; refine (HI.out _).mono ?_; rintro e w1 ⟨rfl, rfl⟩)
    go_ret2
    exact ⟨rfl, Below.refl _ _⟩

/- the names, four bytes each -/
def nam4 : List UInt8 := [65, 68, 67, 32, 65, 78, 68, 32, 65, 83, 76, 32, 66, 67, 67, 32, 66, 67, 83, 32, 66, 69, 81, 32, 66, 73, 84, 32, 66, 77, 73, 32, 66, 78, 69, 32, 66, 80, 76, 32, 66, 82, 75, 32, 66, 86, 67, 32, 66, 86, 83, 32, 67, 76, 67, 32, 67, 76, 68, 32, 67, 76, 73, 32, 67, 76, 86, 32, 67, 77, 80, 32, 67, 80, 88, 32, 67, 80, 89, 32, 68, 69, 67, 32, 68, 69, 88, 32, 68, 69, 89, 32, 69, 79, 82, 32, 73, 78, 67, 32, 73, 78, 88, 32, 73, 78, 89, 32, 74, 77, 80, 32, 74, 83, 82, 32, 76, 68, 65, 32, 76, 68, 88, 32, 76, 68, 89, 32, 76, 83, 82, 32, 78, 79, 80, 32, 79, 82, 65, 32, 80, 72, 65, 32, 80, 72, 80, 32, 80, 76, 65, 32, 80, 76, 80, 32, 82, 79, 76, 32, 82, 79, 82, 32, 82, 84, 73, 32, 82, 84, 83, 32, 83, 66, 67, 32, 83, 69, 67, 32, 83, 69, 68, 32, 83, 69, 73, 32, 83, 84, 65, 32, 83, 84, 88, 32, 83, 84, 89, 32, 84, 65, 88, 32, 84, 65, 89, 32, 84, 83, 88, 32, 84, 88, 65, 32, 84, 88, 83, 32, 84, 89, 65, 32]
theorem nam_at : ∀ k ≤ 56, 0 < k → (nam4.drop (4 * (k - 1))).take 3 = nmS k := by decide +kernel
theorem ba_extract (l : List UInt8) (i j : Nat) : (⟨l.toArray⟩ : ByteArray).extract i j = ⟨((l.drop i).take (j - i)).toArray⟩ := by
  apply ByteArray.ext
  simp
theorem slice_str (l : List UInt8) (i j : Nat) (h1 : i ≤ j) (h2 : j ≤ l.length) (w : World) : (Instr.slice 9 (.string ⟨l.toArray⟩) (some (.int .i64 (i : Int))) (some (.int .i64 (j : Int))) none).run Try.prog w = .ok (.string ⟨((l.drop i).take (j - i)).toArray⟩) w := by
  rw [run_slice_string_if (P := Try.prog) w 9 _ .i64 .i64 (i : Int) (j : Int) Try.underlying9, if_pos ⟨by omega, by rw [ba_size]; omega⟩, if_pos ⟨by omega, by omega⟩, Int.toNat_natCast, Int.toNat_natCast, ba_extract]
set_option maxRecDepth 100000 in
theorem nam_slice (k : Nat) (h0 : 0 < k) (hk : k ≤ 56) (w : World) : (Instr.slice 9 (.string ⟨#[65, 68, 67, 32, 65, 78, 68, 32, 65, 83, 76, 32, 66, 67, 67, 32, 66, 67, 83, 32, 66, 69, 81, 32, 66, 73, 84, 32, 66, 77, 73, 32, 66, 78, 69, 32, 66, 80, 76, 32, 66, 82, 75, 32, 66, 86, 67, 32, 66, 86, 83, 32, 67, 76, 67, 32, 67, 76, 68, 32, 67, 76, 73, 32, 67, 76, 86, 32, 67, 77, 80, 32, 67, 80, 88, 32, 67, 80, 89, 32, 68, 69, 67, 32, 68, 69, 88, 32, 68, 69, 89, 32, 69, 79, 82, 32, 73, 78, 67, 32, 73, 78, 88, 32, 73, 78, 89, 32, 74, 77, 80, 32, 74, 83, 82, 32, 76, 68, 65, 32, 76, 68, 88, 32, 76, 68, 89, 32, 76, 83, 82, 32, 78, 79, 80, 32, 79, 82, 65, 32, 80, 72, 65, 32, 80, 72, 80, 32, 80, 76, 65, 32, 80, 76, 80, 32, 82, 79, 76, 32, 82, 79, 82, 32, 82, 84, 73, 32, 82, 84, 83, 32, 83, 66, 67, 32, 83, 69, 67, 32, 83, 69, 68, 32, 83, 69, 73, 32, 83, 84, 65, 32, 83, 84, 88, 32, 83, 84, 89, 32, 84, 65, 88, 32, 84, 65, 89, 32, 84, 83, 88, 32, 84, 88, 65, 32, 84, 88, 83, 32, 84, 89, 65, 32]⟩) (some (.int .i64 ((4 * (k - 1) : Nat) : Int))) (some (.int .i64 ((4 * (k - 1) + 3 : Nat) : Int))) none).run Try.prog w = .ok (.string ⟨(nmS k).toArray⟩) w := by
  have h := slice_str nam4 (4 * (k - 1)) (4 * (k - 1) + 3) (by omega) (by rw [show nam4.length = 224 from by decide +kernel]; omega) w
  rw [show 4 * (k - 1) + 3 - 4 * (k - 1) = 3 by omega, nam_at k hk h0] at h
  exact h
set_option maxRecDepth 100000 in
theorem nameOf_any (k : Nat) (hk : k ≤ 56) (w : World) : Calls Try.prog 41 #[.int .i64 (k : Int)] w fun e w' => e = .returned (.string ⟨(nmS k).toArray⟩) ∧ w' = w := by
  by_cases h0 : k = 0
  · subst h0
    go_enter Try.func41, Try.ntmps41
    go_wp2_with fail
    go_ret
    exact ⟨rfl, rfl⟩
  · have hsl := nam_slice k (by omega) hk
    have hk0 : ¬ (k : Int) = 0 := by omega
    have e1 : (k : Int) - 1 = ((k - 1 : Nat) : Int) := by omega
    have e2 : ((k - 1 : Nat) : Int) * 4 = ((4 * (k - 1) : Nat) : Int) := by omega
    have e3 : ((4 * (k - 1) : Nat) : Int) + 3 = ((4 * (k - 1) + 3 : Nat) : Int) := by omega
    have b1 : k - 1 < 56 := by omega
    have b2 : 4 * (k - 1) + 3 < 224 := by omega
    have b3 : 4 * (k - 1) < 224 := by omega
    generalize 4 * (k - 1) + 3 = E at *
    generalize 4 * (k - 1) = A at *
    generalize k - 1 = J at *
    generalize nmS k = N at *
    go_enter Try.func41, Try.ntmps41
    go_wp2_with fail
    go_ret
    exact ⟨rfl, rfl⟩
end Go.Proofs.Ytfecadongbmfhaa
