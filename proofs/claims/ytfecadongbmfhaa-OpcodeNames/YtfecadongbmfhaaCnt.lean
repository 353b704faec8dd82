/- What OpcodeCounts asks: plain facts, and modes.Wide. -/
import Derived.Test.YtfecadongbmfhaaOpE
namespace Go.Proofs.Ytfecadongbmfhaa
open Go.RowKit
set_option linter.unusedVariables false

/- how many of the first k bytes are instructions -/
def cnS : Nat → Nat
  | 0 => 0
  | k + 1 => cnS k + (if (inS k).1 = 0 then 0 else 1)
theorem cn_all : cnS 256 = 151 := by decide +kernel
theorem cn_le : ∀ k, cnS k ≤ k
  | 0 => Nat.le_refl _
  | k + 1 => by
    have := cn_le k
    rw [cnS]
    split <;> omega
theorem rel_br : ∀ op < 256, (inS op).1 ≠ 0 → ((clS (inS op).1 : Int) == 4) = (((inS op).2 : Int) == 12) := by decide +kernel
/- has a mnemonic an opcode with that mode? -/
def hcS (f : Nat) (x : Int) : Bool := !(coS f x == 256)
theorem hc_iff (f : Nat) (x : Int) : hcS f x = true ↔ ∃ i, i < 256 ∧ Mt f x i := by
  obtain ⟨h1, h2, h3⟩ := co_spec f x 256
  rw [show coA f x 256 = coS f x from rfl] at h1 h2 h3
  unfold hcS
  constructor
  · intro h
    have hne : coS f x ≠ 256 := by simpa using h
    exact ⟨coS f x, by omega, h3 (by omega)⟩
  · rintro ⟨i, hi, hm⟩
    have hne : coS f x ≠ 256 := fun he => h2 i (by omega) hm
    simpa using hne
theorem wi_3 : ∀ i < 256, (inS i).2 = 3 → i + 8 < 256 ∧ inS (i + 8) = ((inS i).1, 6) := by decide +kernel
theorem wi_4 : ∀ i < 256, (inS i).2 = 4 → (inS i).1 = 50 ∨ i + 8 < 256 ∧ inS (i + 8) = ((inS i).1, 7) := by decide +kernel
theorem wi_5 : ∀ i < 256, (inS i).2 = 5 → (inS i).1 = 49 ∨ i + 8 < 256 ∧ inS (i + 8) = ((inS i).1, 8) := by decide +kernel
/- the wide mode -/
def wiS (x : Int) : Int := if x = 3 then 6 else if x = 4 then 7 else if x = 5 then 8 else 0
def wiB (x : Int) : Bool := decide (x = 3 ∨ x = 4 ∨ x = 5)
theorem wide_ok (f : Nat) (x : Int) (h1 : wiB x = true) (h2 : hcS f x = true) (h3 : hcS f (wiS x) = false) : (f = 49 ∧ x = 5) ∨ (f = 50 ∧ x = 4) := by
  obtain ⟨i, hi, hm1, hm2⟩ := (hc_iff f x).1 h2
  have hno : ∀ j, j < 256 → ¬ Mt f (wiS x) j := fun j hj hm => by
    have := (hc_iff f (wiS x)).2 ⟨j, hj, hm⟩
    rw [h3] at this
    cases this
  rcases of_decide_eq_true h1 with hx | hx | hx
  · obtain ⟨a, b⟩ := wi_3 i hi (by omega)
    exact absurd ⟨by rw [b]; exact hm1, by rw [b, hx]; rfl⟩ (hno _ a)
  · rcases wi_4 i hi (by omega) with a | ⟨a, b⟩
    · exact .inr ⟨by omega, hx⟩
    · exact absurd ⟨by rw [b]; exact hm1, by rw [b, hx]; rfl⟩ (hno _ a)
  · rcases wi_5 i hi (by omega) with a | ⟨a, b⟩
    · exact .inl ⟨by omega, hx⟩
    · exact absurd ⟨by rw [b]; exact hm1, by rw [b, hx]; rfl⟩ (hno _ a)
theorem is_stx : ∀ f ≤ 56, (nmS f == [83, 84, 88]) = (f == 49) := by decide +kernel
theorem is_sty : ∀ f ≤ 56, (nmS f == [83, 84, 89]) = (f == 50) := by decide +kernel
theorem nm_rise : ∀ k < 55, Op.bytesLess (nmS (k + 1)) (nmS (k + 2)) = true := by decide +kernel
set_option maxRecDepth 100000 in
set_option maxHeartbeats 800000 in
theorem wide_any (x : Int) (w : World) : Calls Try.prog 35 #[.int .i64 x] w fun e w' => e = .returned (.tuple #[.int .i64 (wiS x), .bool (wiB x)]) ∧ w' = w := by
  by_cases h3 : x = 3
  · subst h3
    go_enter Try.func35, Try.ntmps35
    go_wp2_with fail
    go_ret2
    exact ⟨rfl, rfl⟩
  by_cases h4 : x = 4
  · subst h4
    go_enter Try.func35, Try.ntmps35
    go_wp2_with fail
    go_ret2
    exact ⟨rfl, rfl⟩
  by_cases h5 : x = 5
  · subst h5
    go_enter Try.func35, Try.ntmps35
    go_wp2_with fail
    go_ret2
    exact ⟨rfl, rfl⟩
  rw [show wiS x = 0 by unfold wiS; rw [if_neg h3, if_neg h4, if_neg h5], show wiB x = false from decide_eq_false (by omega)]
  have b3 : (x == 3) = false := beq_eq_false_iff_ne.2 h3
  have b4 : (x == 4) = false := beq_eq_false_iff_ne.2 h4
  have b5 : (x == 5) = false := beq_eq_false_iff_ne.2 h5
  go_enter Try.func35, Try.ntmps35
  go_wp2_with fail
  go_ret2
  exact ⟨rfl, rfl⟩
theorem code_has (k : Nat) (hk : k < 56) (x : Int) : ∃ c : Nat, ∀ w, Calls Try.prog 20 #[.string (bA (nmS (k + 1))), .int .i64 x] w fun e w' => e = .returned (.tuple #[.int .u8 (c : Int), .bool (hcS (k + 1) x)]) ∧ Below w.heap.size w w' := by
  have h := code_any (nmS (k + 1)) (by rw [nm_len _ (by omega) (by omega)]; decide) x
  rw [fi_of _ (by omega) (by omega)] at h
  unfold coV at h
  unfold hcS
  by_cases hc : coS (k + 1) x = 256
  · rw [if_pos (Or.inr hc)] at h
    rw [beq_iff_eq.2 hc]
    exact ⟨0, h⟩
  · rw [if_neg (by omega)] at h
    rw [beq_eq_false_iff_ne.2 hc]
    exact ⟨_, h⟩
end Go.Proofs.Ytfecadongbmfhaa
