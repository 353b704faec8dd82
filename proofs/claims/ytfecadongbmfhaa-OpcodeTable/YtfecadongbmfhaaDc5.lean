/- What the document's Number, among and Class answer. -/
import Derived.Test.YtfecadongbmfhaaDc0
namespace Go.Proofs.Ytfecadongbmfhaa
open Go.RowKit
set_option linter.unusedVariables false

def allB : List UInt8 := [65, 68, 67, 65, 78, 68, 65, 83, 76, 66, 67, 67, 66, 67, 83, 66, 69, 81, 66, 73, 84, 66, 77, 73, 66, 78, 69, 66, 80, 76, 66, 82, 75, 66, 86, 67, 66, 86, 83, 67, 76, 67, 67, 76, 68, 67, 76, 73, 67, 76, 86, 67, 77, 80, 67, 80, 88, 67, 80, 89, 68, 69, 67, 68, 69, 88, 68, 69, 89, 69, 79, 82, 73, 78, 67, 73, 78, 88, 73, 78, 89, 74, 77, 80, 74, 83, 82, 76, 68, 65, 76, 68, 88, 76, 68, 89, 76, 83, 82, 78, 79, 80, 79, 82, 65, 80, 72, 65, 80, 72, 80, 80, 76, 65, 80, 76, 80, 82, 79, 76, 82, 79, 82, 82, 84, 73, 82, 84, 83, 83, 66, 67, 83, 69, 67, 83, 69, 68, 83, 69, 73, 83, 84, 65, 83, 84, 88, 83, 84, 89, 84, 65, 88, 84, 65, 89, 84, 83, 88, 84, 88, 65, 84, 88, 83, 84, 89, 65]
theorem pk_all : ∀ k < 56, pkS allB k = nmS (k + 1) := by decide +kernel
theorem pickAll_any (k : Nat) (hk : k < 56) (w : World) : Calls Try.prog 36 #[.string ⟨#[65, 68, 67, 65, 78, 68, 65, 83, 76, 66, 67, 67, 66, 67, 83, 66, 69, 81, 66, 73, 84, 66, 77, 73, 66, 78, 69, 66, 80, 76, 66, 82, 75, 66, 86, 67, 66, 86, 83, 67, 76, 67, 67, 76, 68, 67, 76, 73, 67, 76, 86, 67, 77, 80, 67, 80, 88, 67, 80, 89, 68, 69, 67, 68, 69, 88, 68, 69, 89, 69, 79, 82, 73, 78, 67, 73, 78, 88, 73, 78, 89, 74, 77, 80, 74, 83, 82, 76, 68, 65, 76, 68, 88, 76, 68, 89, 76, 83, 82, 78, 79, 80, 79, 82, 65, 80, 72, 65, 80, 72, 80, 80, 76, 65, 80, 76, 80, 82, 79, 76, 82, 79, 82, 82, 84, 73, 82, 84, 83, 83, 66, 67, 83, 69, 67, 83, 69, 68, 83, 69, 73, 83, 84, 65, 83, 84, 88, 83, 84, 89, 84, 65, 88, 84, 65, 89, 84, 83, 88, 84, 88, 65, 84, 88, 83, 84, 89, 65]⟩, .int .i64 (k : Int)] w fun e w' => e = .returned (.string (bA (nmS (k + 1)))) ∧ w' = w := by
  have h := pick_any allB k (by rw [show allB.length = 168 from by decide +kernel]; omega) (by decide +kernel) w
  rw [pk_all k hk] at h
  exact h
theorem bA_beq2 (a b : List UInt8) : ((bA a).toList == (bA b).toList) = (a == b) := by rw [bA_list, bA_list]
/- the place of a text among the names, 56 of none -/
def plS (s : List UInt8) : Nat := if fiS s = 0 then 56 else fiS s - 1
theorem pl_spec (s : List UInt8) : plS s ≤ 56 ∧ (∀ k < plS s, nmS (k + 1) ≠ s) ∧ (plS s < 56 → nmS (plS s + 1) = s) := by
  have hle := fi_le s
  unfold plS
  by_cases h : fiS s = 0
  · rw [if_pos h]
    exact ⟨Nat.le_refl _, fun k hk => fi_none h _ (by omega) (by omega), fun h => absurd h (Nat.lt_irrefl _)⟩
  · rw [if_neg h]
    refine ⟨by omega, fun k hk he => ?_, fun _ => ?_⟩
    · have := fi_of (k + 1) (by omega) (by omega)
      rw [he] at this
      omega
    · rw [show fiS s - 1 + 1 = fiS s by omega]; exact fi_name h
set_option maxRecDepth 100000 in
set_option maxHeartbeats 1600000 in
theorem refNumber_any (s : List UInt8) (w : World) : Calls Try.prog 19 #[.string (bA s)] w fun e w' => e = .returned (nuV (fiS s)) ∧ w' = w := by
  have HP : Hid (∀ k : Nat, k < 56 → ∀ w, Calls Try.prog 36 #[.string ⟨#[65, 68, 67, 65, 78, 68, 65, 83, 76, 66, 67, 67, 66, 67, 83, 66, 69, 81, 66, 73, 84, 66, 77, 73, 66, 78, 69, 66, 80, 76, 66, 82, 75, 66, 86, 67, 66, 86, 83, 67, 76, 67, 67, 76, 68, 67, 76, 73, 67, 76, 86, 67, 77, 80, 67, 80, 88, 67, 80, 89, 68, 69, 67, 68, 69, 88, 68, 69, 89, 69, 79, 82, 73, 78, 67, 73, 78, 88, 73, 78, 89, 74, 77, 80, 74, 83, 82, 76, 68, 65, 76, 68, 88, 76, 68, 89, 76, 83, 82, 78, 79, 80, 79, 82, 65, 80, 72, 65, 80, 72, 80, 80, 76, 65, 80, 76, 80, 82, 79, 76, 82, 79, 82, 82, 84, 73, 82, 84, 83, 83, 66, 67, 83, 69, 67, 83, 69, 68, 83, 69, 73, 83, 84, 65, 83, 84, 88, 83, 84, 89, 84, 65, 88, 84, 65, 89, 84, 83, 88, 84, 88, 65, 84, 88, 83, 84, 89, 65]⟩, .int .i64 (k : Int)] w fun e w' => e = .returned (.string (bA (nmS (k + 1)))) ∧ w' = w) := fun k hk w => pickAll_any k hk w
  obtain ⟨hA, hb, hc⟩ := pl_spec s
  have HG := hidD hb
  have HA := hidD hc
  have HV : Hid (nuV (fiS s) = if plS s = 56 then .tuple #[.int .i64 0, .bool false] else .tuple #[.int .i64 (plS s : Int), .bool true]) := by
    show _ = _
    have hle := fi_le s
    unfold nuV plS
    by_cases h : fiS s = 0
    · rw [if_pos h, if_pos h, if_pos rfl]
    · rw [if_neg h, if_neg h, if_neg (by omega)]
  clear hb hc
  generalize plS s = A at *
  generalize nuV (fiS s) = V at *
  go_enter Try.func19, Try.ntmps19
  go_wp2_with fail
  go_loopw [4] (fun i wr => ∃ k : Nat, k ≤ A ∧ i = .int .i64 k ∧ wr = w) (fun i _ => 56 - (intOf i).toNat)
  case atStart => exact ⟨0, Nat.zero_le _, rfl, rfl⟩
  case round =>
    obtain ⟨k, hk, rfl, rfl⟩ := hrel
    have e3 : (3 : Int) * (k : Int) = ((3 * k : Nat) : Int) := by omega
    have q3 : 3 * k ≤ 168 := by omega
    by_cases hlt : k < 56
    · have hlti : ((3 * k : Nat) : Int) < 168 := by omega
      have hltn : 3 * k < 168 := by omega
      have HP1 := hidD (HP.out k hlt)
      clear HP
      generalize 3 * k = M at *
      have hbq := bA_beq2 (nmS (k + 1)) s
      by_cases hkA : k < A
      · rw [beq_eq_false_iff_ne.2 (HG.out k hkA)] at hbq
        generalize bA (nmS (k + 1)) = NM at *
        generalize bA s = SS at *
        go_wp2_with (go_at_call 36; refine (HP1.out _).mono ?_; rintro e w1 ⟨rfl, rfl⟩)
        go_roundw
        case rel => exact ⟨k + 1, by omega, by go_num, trivial⟩
        case measure => simp [intOf]; omega
      · obtain rfl : k = A := by omega
        rw [beq_iff_eq.2 (HA.out hlt)] at hbq
        have hV := HV.out
        rw [if_neg (by omega)] at hV
        subst hV
        generalize bA (nmS (k + 1)) = NM at *
        generalize bA s = SS at *
        go_wp2_with (go_at_call 36; refine (HP1.out _).mono ?_; rintro e w1 ⟨rfl, rfl⟩)
        go_ret2
        exact ⟨rfl, rfl⟩
    · have hV := HV.out
      rw [if_pos (by omega)] at hV
      subst hV
      have hk3 : ¬ ((3 * k : Nat) : Int) < 168 := by omega
      have hk4 : ¬ 3 * k < 168 := by omega
      clear HP HV
      generalize 3 * k = M at *
      go_wp2_with fail
      go_ret2
      exact ⟨rfl, rfl⟩
/- is a text one of a list's? -/
theorem first_in (l s : List UInt8) : ∀ n, ∃ A, A ≤ n ∧ (∀ i < A, pkS l i ≠ s) ∧ (A < n → pkS l A = s)
  | 0 => ⟨0, Nat.le_refl _, fun i h => absurd h (Nat.not_lt_zero _), fun h => absurd h (Nat.lt_irrefl _)⟩
  | n + 1 => by
    obtain ⟨A, h1, h2, h3⟩ := first_in l s n
    by_cases hA : A < n
    · exact ⟨A, by omega, h2, fun _ => h3 hA⟩
    · obtain rfl : A = n := by omega
      by_cases hc : pkS l A = s
      · exact ⟨A, by omega, h2, fun _ => hc⟩
      · refine ⟨A + 1, Nat.le_refl _, ?_, fun h => by omega⟩
        intro i hi
        rcases Nat.lt_or_ge i A with h | h
        · exact h2 i h
        · obtain rfl : i = A := by omega
          exact hc
def amP (l s : List UInt8) (n : Nat) : Prop := ∃ k, k < n ∧ pkS l k = s
instance (l s : List UInt8) (n : Nat) : Decidable (amP l s n) := by unfold amP; infer_instance
set_option maxRecDepth 100000 in
set_option maxHeartbeats 1600000 in
theorem among_any (l s : List UInt8) (n : Nat) (hl : l.length = 3 * n) (hn : n ≤ 100) (w : World) : Calls Try.prog 50 #[.string (bA l), .string (bA s)] w fun e w' => e = .returned (.bool (decide (amP l s n))) ∧ w' = w := by
  have HP : Hid (∀ k : Nat, k < n → ∀ w, Calls Try.prog 36 #[.string (bA l), .int .i64 (k : Int)] w fun e w' => e = .returned (.string (bA (pkS l k))) ∧ w' = w) := fun k hk w => pick_any l k (by omega) (by omega) w
  obtain ⟨A, hA, hb, hc⟩ := first_in l s n
  have HG := hidD hb
  have HA := hidD hc
  have HD : Hid (decide (amP l s n) = !(A == n)) := by
    show _ = _
    by_cases h : A = n
    · rw [beq_iff_eq.2 h, decide_eq_false (fun ⟨k, h1, h2⟩ => hb k (by omega) h2)]; rfl
    · rw [beq_eq_false_iff_ne.2 h, decide_eq_true ⟨A, by omega, hc (by omega)⟩]; rfl
  rw [HD.out]
  have hsz : (bA l).size = 3 * n := by rw [← hl]; exact ba_size l
  clear hb hc HD hl
  generalize bA l = LL at *
  go_enter Try.func50, Try.ntmps50
  go_wp2_with fail
  go_loopw [5] (fun i wr => ∃ k : Nat, k ≤ A ∧ i = .int .i64 k ∧ wr = w) (fun i _ => n - (intOf i).toNat)
  case atStart => exact ⟨0, Nat.zero_le _, rfl, rfl⟩
  case round =>
    obtain ⟨k, hk, rfl, rfl⟩ := hrel
    have e3 : (3 : Int) * (k : Int) = ((3 * k : Nat) : Int) := by omega
    have q3 : 3 * k ≤ 300 := by omega
    have q4 : 3 * n ≤ 300 := by omega
    by_cases hlt : k < n
    · have hltn : 3 * k < 3 * n := by omega
      have HP1 := hidD (HP.out k hlt)
      have hbq := bA_beq2 (pkS l k) s
      have hM : Hid (3 * k < 3 * n) := hltn
      clear HP
      generalize hMM : 3 * k = M at *
      generalize hNN : 3 * n = Q at *
      have hlti : (M : Int) < (Q : Int) := by omega
      have HMM := hidD hMM
      have HNN := hidD hNN
      clear hMM hNN
      by_cases hkA : k < A
      · rw [beq_eq_false_iff_ne.2 (HG.out k hkA)] at hbq
        generalize bA (pkS l k) = NM at *
        generalize bA s = SS at *
        go_wp2_with (go_at_call 36; refine (HP1.out _).mono ?_; rintro e w1 ⟨rfl, rfl⟩)
        go_roundw
        case rel => exact ⟨k + 1, by omega, by go_num, trivial⟩
        case measure => simp [intOf]; omega
      · obtain rfl : k = A := by omega
        rw [beq_iff_eq.2 (HA.out hlt)] at hbq
        have hne : (k == n) = false := beq_eq_false_iff_ne.2 (by omega)
        have HNE := hidD hne
        clear hne
        generalize bA (pkS l k) = NM at *
        generalize bA s = SS at *
        go_wp2_with (go_at_call 36; refine (HP1.out _).mono ?_; rintro e w1 ⟨rfl, rfl⟩)
        go_ret
        exact ⟨by rw [HNE.out]; rfl, rfl⟩
    · have HE : Hid ((A == n) = true) := beq_iff_eq.2 (by omega)
      have hk4 : ¬ 3 * k < 3 * n := by omega
      clear HP
      generalize hMM : 3 * k = M at *
      generalize hNN : 3 * n = Q at *
      have hk3 : ¬ (M : Int) < (Q : Int) := by omega
      clear hMM hNN
      go_wp2_with fail
      go_ret
      exact ⟨by rw [HE.out]; rfl, rfl⟩

theorem am_1 : ∀ f ≤ 56, 0 < f → decide (amP [79, 82, 65, 65, 78, 68, 69, 79, 82, 65, 68, 67, 76, 68, 65, 67, 77, 80, 83, 66, 67, 76, 68, 88, 76, 68, 89, 67, 80, 88, 67, 80, 89, 66, 73, 84] (nmS f) 12) = decide (clS f = 1) := by decide +kernel
theorem am_2 : ∀ f ≤ 56, 0 < f → decide (amP [83, 84, 65, 83, 84, 88, 83, 84, 89] (nmS f) 3) = decide (clS f = 2) := by decide +kernel
theorem am_3 : ∀ f ≤ 56, 0 < f → decide (amP [65, 83, 76, 82, 79, 76, 76, 83, 82, 82, 79, 82, 68, 69, 67, 73, 78, 67] (nmS f) 6) = decide (clS f = 3) := by decide +kernel
theorem am_4 : ∀ f ≤ 56, 0 < f → decide (amP [66, 80, 76, 66, 77, 73, 66, 86, 67, 66, 86, 83, 66, 67, 67, 66, 67, 83, 66, 78, 69, 66, 69, 81] (nmS f) 8) = decide (clS f = 4) := by decide +kernel
set_option maxRecDepth 100000 in
set_option maxHeartbeats 3200000 in
theorem refClass_any (s : List UInt8) (w : World) : Calls Try.prog 27 #[.string (bA s)] w fun e w' => e = .returned (.int .i64 (clS (fiS s) : Int)) ∧ w' = w := by
  have HN : Hid (∀ w, Calls Try.prog 19 #[.string (bA s)] w fun e w' => e = .returned (nuV (fiS s)) ∧ w' = w) := fun w => refNumber_any s w
  by_cases h0 : fiS s = 0
  · rw [h0] at HN
    rw [h0]
    change Hid (∀ w, Calls Try.prog 19 #[.string (bA s)] w fun e w' => e = .returned (.tuple #[.int .i64 0, .bool false]) ∧ w' = w) at HN
    clear h0
    generalize bA s = SS at *
    go_enter Try.func27, Try.ntmps27
    go_wp2_with (go_at_call 19; refine (HN.out _).mono ?_; rintro e w1 ⟨rfl, rfl⟩)
    go_ret
    exact ⟨rfl, rfl⟩
  have HN' : Hid (∀ w, Calls Try.prog 19 #[.string (bA s)] w fun e w' => e = .returned (.tuple #[.int .i64 ((fiS s - 1 : Nat) : Int), .bool true]) ∧ w' = w) := fun w => by
    have h := refNumber_any s w
    unfold nuV at h
    rw [if_neg h0] at h
    exact h
  clear HN
  have HM1 : Hid (∀ w, Calls Try.prog 50 #[.string ⟨#[79, 82, 65, 65, 78, 68, 69, 79, 82, 65, 68, 67, 76, 68, 65, 67, 77, 80, 83, 66, 67, 76, 68, 88, 76, 68, 89, 67, 80, 88, 67, 80, 89, 66, 73, 84]⟩, .string (bA s)] w fun e w' => e = .returned (.bool (decide (clS (fiS s) = 1))) ∧ w' = w) := fun w => by
    have h := among_any [79, 82, 65, 65, 78, 68, 69, 79, 82, 65, 68, 67, 76, 68, 65, 67, 77, 80, 83, 66, 67, 76, 68, 88, 76, 68, 89, 67, 80, 88, 67, 80, 89, 66, 73, 84] s 12 (by decide) (by decide) w
    have h2 := am_1 (fiS s) (fi_le s) (by omega)
    rw [fi_name h0] at h2
    rw [h2] at h
    exact h
  have HM2 : Hid (∀ w, Calls Try.prog 50 #[.string ⟨#[83, 84, 65, 83, 84, 88, 83, 84, 89]⟩, .string (bA s)] w fun e w' => e = .returned (.bool (decide (clS (fiS s) = 2))) ∧ w' = w) := fun w => by
    have h := among_any [83, 84, 65, 83, 84, 88, 83, 84, 89] s 3 (by decide) (by decide) w
    have h2 := am_2 (fiS s) (fi_le s) (by omega)
    rw [fi_name h0] at h2
    rw [h2] at h
    exact h
  have HM3 : Hid (∀ w, Calls Try.prog 50 #[.string ⟨#[65, 83, 76, 82, 79, 76, 76, 83, 82, 82, 79, 82, 68, 69, 67, 73, 78, 67]⟩, .string (bA s)] w fun e w' => e = .returned (.bool (decide (clS (fiS s) = 3))) ∧ w' = w) := fun w => by
    have h := among_any [65, 83, 76, 82, 79, 76, 76, 83, 82, 82, 79, 82, 68, 69, 67, 73, 78, 67] s 6 (by decide) (by decide) w
    have h2 := am_3 (fiS s) (fi_le s) (by omega)
    rw [fi_name h0] at h2
    rw [h2] at h
    exact h
  have HM4 : Hid (∀ w, Calls Try.prog 50 #[.string ⟨#[66, 80, 76, 66, 77, 73, 66, 86, 67, 66, 86, 83, 66, 67, 67, 66, 67, 83, 66, 78, 69, 66, 69, 81]⟩, .string (bA s)] w fun e w' => e = .returned (.bool (decide (clS (fiS s) = 4))) ∧ w' = w) := fun w => by
    have h := among_any [66, 80, 76, 66, 77, 73, 66, 86, 67, 66, 86, 83, 66, 67, 67, 66, 67, 83, 66, 78, 69, 66, 69, 81] s 8 (by decide) (by decide) w
    have h2 := am_4 (fiS s) (fi_le s) (by omega)
    rw [fi_name h0] at h2
    rw [h2] at h
    exact h
  have hcl := (by decide +kernel : ∀ f ≤ 56, f ≠ 0 → clS f = 1 ∨ clS f = 2 ∨ clS f = 3 ∨ clS f = 4 ∨ clS f = 5) (fiS s) (fi_le s) h0
  generalize clS (fiS s) = c at *
  generalize fiS s - 1 = j at *
  generalize bA s = SS at *
  clear h0
  rcases hcl with rfl | rfl | rfl | rfl | rfl
  all_goals
    go_enter Try.func27, Try.ntmps27
    go_wp2_with (first | (go_at_call 50; refine (HM1.out _).mono ?_; clear HM1; rintro e w2 ⟨rfl, rfl⟩) | (go_at_call 50; refine (HM2.out _).mono ?_; clear HM2; rintro e w3 ⟨rfl, rfl⟩) | (go_at_call 50; refine (HM3.out _).mono ?_; clear HM3; rintro e w4 ⟨rfl, rfl⟩) | (go_at_call 50; refine (HM4.out _).mono ?_; clear HM4; rintro e w5 ⟨rfl, rfl⟩) | (go_at_call 19; refine (HN'.out _).mono ?_; rintro e w1 ⟨rfl, rfl⟩))
    go_ret
    exact ⟨rfl, rfl⟩
end Go.Proofs.Ytfecadongbmfhaa
