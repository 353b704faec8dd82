/- Two rows of texts that are one: Texts. -/
import Derived.Test.YtgmbkelmgolkpaaDoorGn
namespace Go.Proofs.YtgmbkelmgolkpaaDoor
open Go.RowKit
set_option linter.unusedVariables false

set_option maxRecDepth 100000 in
set_option maxHeartbeats 1600000 in
theorem texts_same (ss : List Tx) (hl : ss.length ≤ 9223372036854775806) (B B' : Nat) (u v : Value) (w : World) (hu : StAt w B u ss) (hv : StAt w B' v ss) : Calls Tryd.prog 17 #[u, v] w fun e w' => e = .returned (.bool true) ∧ Below w.heap.size w w' := by
  obtain ⟨a1, c1, rfl⟩ := hu.shape
  obtain ⟨a2, c2, rfl⟩ := hv.shape
  have HC1 := hidD (fun k (hk : k < ss.length) => hu.cell hk)
  have HC2 := hidD (fun k (hk : k < ss.length) => hv.cell hk)
  have HW : Hid (Below w.heap.size w w) := Below.refl _ _
  clear hu hv
  generalize ss.length = n at *
  have hbn : ((n : Int) == (n : Int)) = true := beq_self_eq_true _
  go_enter Tryd.func17, Tryd.ntmps17
  go_wp2_with fail
  go_loopw [5] (fun i wr => ∃ k : Nat, k ≤ n ∧ i = .int .i64 k ∧ Below w.heap.size w wr) (fun i _ => n - (intOf i).toNat)
  case atStart => exact ⟨0, Nat.zero_le _, rfl, HW.out⟩
  case round =>
    obtain ⟨k, hk, rfl, hbel⟩ := hrel
    have HBW := hidD hbel
    by_cases hlt : k < n
    · have hlti : (k : Int) < n := by omega
      obtain ⟨g1, o1, rfl, hg1, _, hcl1⟩ := HC1.out k hlt
      obtain ⟨g2, o2, rfl, hg2, _, hcl2⟩ := HC2.out k hlt
      have f1 : wr.cell? ⟨g1, o1 + k, none⟩ = some (encT (ss.getD k [])) := (hbel.cell (p := ⟨g1, _, none⟩) hg1).trans hcl1
      have f2 : wr.cell? ⟨g2, o2 + k, none⟩ = some (encT (ss.getD k [])) := (hbel.cell (p := ⟨g2, _, none⟩) hg2).trans hcl2
      clear hcl1 hcl2 hbel
      unfold encT at f1 f2
      generalize bA (ss.getD k []) = X at *
      go_wp2_with fail
      go_quiet (fail)
      go_wp2_with fail
      go_roundw
      case rel => exact ⟨k + 1, by omega, by go_num, below_drewN HBW.out _⟩
      case measure => simp [intOf]; omega
    · obtain rfl : k = n := by omega
      clear hbel
      go_wp2_with fail
      go_ret
      exact ⟨rfl, HBW.out⟩
end Go.Proofs.YtgmbkelmgolkpaaDoor
