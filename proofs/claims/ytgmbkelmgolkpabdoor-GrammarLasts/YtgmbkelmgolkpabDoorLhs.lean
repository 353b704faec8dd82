/- What the law's own has answers. -/
import Derived.Test.YtgmbkelmgolkpabDoorStc
namespace Go.Proofs.YtgmbkelmgolkpabDoor
open Go.RowKit
set_option linter.unusedVariables false

set_option maxRecDepth 100000 in
set_option maxHeartbeats 800000 in
theorem lawHas_any (l : List Int) (hl : l.length ≤ 9223372036854775806) (x : Int) (v : Value) (w : World) (hv : IlAt w v l) : Calls Tryd.prog 13 #[v, .int .i64 x] w fun e w' => e = .returned (.bool (l.contains x)) ∧ Below w.heap.size w w' := by
  obtain ⟨a, c, rfl, hc1, hc2, hcell⟩ := hv
  have HCE := hidD hcell
  have HYES : Hid (∀ k, k < l.length → l.getD k 0 = x → l.contains x = true) := fun k hk he => by
    rw [List.contains_iff_mem, ← he, List.getD_eq_getElem?_getD, List.getElem?_eq_getElem hk]
    exact List.getElem_mem hk
  have HNO : Hid ((∀ k, k < l.length → l.getD k 0 ≠ x) → l.contains x = false) := fun h => by
    cases hc : l.contains x with
    | false => rfl
    | true =>
      rw [List.contains_iff_mem] at hc
      obtain ⟨k, hk, he⟩ := List.getElem_of_mem hc
      exact absurd (by rw [List.getD_eq_getElem?_getD, List.getElem?_eq_getElem hk]; exact he) (h k hk)
  clear hcell
  generalize l.contains x = R at *
  generalize l.length = n at *
  go_enter Tryd.func13, Tryd.ntmps13
  go_wp2_with fail
  go_loopw [5] (fun i wr => ∃ k : Nat, k ≤ n ∧ i = .int .i64 (k : Int) ∧ wr = w ∧ ∀ j, j < k → l.getD j 0 ≠ x) (fun i _ => n - (intOf i).toNat)
  case atStart => exact ⟨0, Nat.zero_le _, rfl, rfl, fun j hj => absurd hj (Nat.not_lt_zero _)⟩
  case round =>
    obtain ⟨k, hk, rfl, hw, hall⟩ := hrel
    subst wr
    have HALL := hidD hall
    clear hall
    by_cases hlt : k < n
    · have hlti : (k : Int) < (n : Int) := by omega
      obtain ⟨g, o, rfl, hg, hcl⟩ := HCE.out k hlt
      have HY := hidD (HYES.out k hlt)
      have HNE : Hid (l.getD k 0 ≠ x → ∀ j, j < k + 1 → l.getD j 0 ≠ x) := fun hne j hj => by
        by_cases e : j = k
        · rw [e]; exact hne
        · exact HALL.out j (by omega)
      clear HYES HNO HCE
      generalize l.getD k 0 = y at *
      by_cases he : y = x
      · have HR := hidD (HY.out he)
        subst he
        go_wp2_with fail
        refine bodyPost_ret (v := .bool true) (by simp [results, Tryd.results13, go_sem]) rfl ?_
        exact ⟨by rw [HR.out], Below.refl _ _⟩
      · have HN := hidD (HNE.out he)
        have hed : decide (y = x) = false := decide_eq_false he
        clear HNE
        go_wp2_with fail
        go_roundw
        case rel => exact ⟨k + 1, by omega, by go_num, by first | rfl | trivial, HN.out⟩
        case measure => simp [intOf]; omega
    · obtain rfl : k = n := by omega
      have HR := hidD (HNO.out HALL.out)
      go_wp2_with fail
      refine bodyPost_ret (v := .bool false) (by simp [results, Tryd.results13, go_sem]) rfl ?_
      exact ⟨by rw [HR.out], Below.refl _ _⟩
end Go.Proofs.YtgmbkelmgolkpabDoor
