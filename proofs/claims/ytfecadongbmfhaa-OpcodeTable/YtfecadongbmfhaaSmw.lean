/- What the statements' sameWords, sameInts and sameTexts answer of rows that read alike. -/
import Derived.Test.YtfecadongbmfhaaOpD
namespace Go.Proofs.Ytfecadongbmfhaa
open Go.RowKit
set_option linter.unusedVariables false

set_option maxRecDepth 100000 in
set_option maxHeartbeats 1600000 in
theorem sameWords_any (n : Nat) (hn : n ≤ 1000) (g h c1 c2 : Nat) (f : Nat → Int) (w : World) (hg : g < w.heap.size) (hh : h < w.heap.size) (h1 : ∀ k, k < n → w.cell? ⟨g, k, none⟩ = some (.int .u32 (f k))) (h2 : ∀ k, k < n → w.cell? ⟨h, k, none⟩ = some (.int .u32 (f k))) : Calls Try.prog 12 #[.slice (some ⟨g, 0, none⟩) n c1, .slice (some ⟨h, 0, none⟩) n c2] w fun e w' => e = .returned (.bool true) ∧ Below w.heap.size w w' := by
  have H1 := hidD h1
  have H2 := hidD h2
  have HW : Hid (Below w.heap.size w w) := Below.refl _ _
  have hbn : ((n : Int) == (n : Int)) = true := beq_self_eq_true _
  clear h1 h2
  go_enter Try.func12, Try.ntmps12
  go_wp2_with fail
  go_loopw [5] (fun i wr => ∃ k : Nat, k ≤ n ∧ i = .int .i64 k ∧ Below w.heap.size w wr) (fun i _ => n - (intOf i).toNat)
  case atStart => exact ⟨0, Nat.zero_le _, rfl, HW.out⟩
  case round =>
    obtain ⟨k, hk, rfl, hbel⟩ := hrel
    have HBW := hidD hbel
    by_cases hlt : k < n
    · have hlti : (k : Int) < n := by omega
      have f1 : wr.cell? ⟨g, k, none⟩ = some (.int .u32 (f k)) := (hbel.cell (p := ⟨g, k, none⟩) hg).trans (H1.out k hlt)
      have f2 : wr.cell? ⟨h, k, none⟩ = some (.int .u32 (f k)) := (hbel.cell (p := ⟨h, k, none⟩) hh).trans (H2.out k hlt)
      clear hbel
      generalize f k = z at *
      have hbb : (z == z) = true := beq_self_eq_true _
      go_wp2_with fail
      go_quiet (fail)
      go_wp2_with fail
      go_roundw
      case rel => exact ⟨k + 1, by omega, by go_num, below_drewN HBW.out _⟩
      case measure => simp [intOf]; omega
    · obtain rfl : k = n := by omega
      clear hbel
      go_wp2_with fail
      go_ret
      exact ⟨rfl, HBW.out⟩
set_option maxRecDepth 100000 in
set_option maxHeartbeats 1600000 in
theorem sameInts_any (n : Nat) (hn : n ≤ 1000) (g h c1 c2 : Nat) (f : Nat → Int) (w : World) (hg : g < w.heap.size) (hh : h < w.heap.size) (h1 : ∀ k, k < n → w.cell? ⟨g, k, none⟩ = some (.int .i64 (f k))) (h2 : ∀ k, k < n → w.cell? ⟨h, k, none⟩ = some (.int .i64 (f k))) : Calls Try.prog 28 #[.slice (some ⟨g, 0, none⟩) n c1, .slice (some ⟨h, 0, none⟩) n c2] w fun e w' => e = .returned (.bool true) ∧ Below w.heap.size w w' := by
  have H1 := hidD h1
  have H2 := hidD h2
  have HW : Hid (Below w.heap.size w w) := Below.refl _ _
  have hbn : ((n : Int) == (n : Int)) = true := beq_self_eq_true _
  clear h1 h2
  go_enter Try.func28, Try.ntmps28
  go_wp2_with fail
  go_loopw [5] (fun i wr => ∃ k : Nat, k ≤ n ∧ i = .int .i64 k ∧ Below w.heap.size w wr) (fun i _ => n - (intOf i).toNat)
  case atStart => exact ⟨0, Nat.zero_le _, rfl, HW.out⟩
  case round =>
    obtain ⟨k, hk, rfl, hbel⟩ := hrel
    have HBW := hidD hbel
    by_cases hlt : k < n
    · have hlti : (k : Int) < n := by omega
      have f1 : wr.cell? ⟨g, k, none⟩ = some (.int .i64 (f k)) := (hbel.cell (p := ⟨g, k, none⟩) hg).trans (H1.out k hlt)
      have f2 : wr.cell? ⟨h, k, none⟩ = some (.int .i64 (f k)) := (hbel.cell (p := ⟨h, k, none⟩) hh).trans (H2.out k hlt)
      clear hbel
      generalize f k = z at *
      have hbb : (z == z) = true := beq_self_eq_true _
      go_wp2_with fail
      go_quiet (fail)
      go_wp2_with fail
      go_roundw
      case rel => exact ⟨k + 1, by omega, by go_num, below_drewN HBW.out _⟩
      case measure => simp [intOf]; omega
    · obtain rfl : k = n := by omega
      clear hbel
      go_wp2_with fail
      go_ret
      exact ⟨rfl, HBW.out⟩
set_option maxRecDepth 100000 in
set_option maxHeartbeats 1600000 in
theorem sameTexts_any (n : Nat) (hn : n ≤ 1000) (g h c1 c2 : Nat) (f : Nat → ByteArray) (w : World) (hg : g < w.heap.size) (hh : h < w.heap.size) (h1 : ∀ k, k < n → w.cell? ⟨g, k, none⟩ = some (.string (f k))) (h2 : ∀ k, k < n → w.cell? ⟨h, k, none⟩ = some (.string (f k))) : Calls Try.prog 23 #[.slice (some ⟨g, 0, none⟩) n c1, .slice (some ⟨h, 0, none⟩) n c2] w fun e w' => e = .returned (.bool true) ∧ Below w.heap.size w w' := by
  have H1 := hidD h1
  have H2 := hidD h2
  have HW : Hid (Below w.heap.size w w) := Below.refl _ _
  have hbn : ((n : Int) == (n : Int)) = true := beq_self_eq_true _
  clear h1 h2
  go_enter Try.func23, Try.ntmps23
  go_wp2_with fail
  go_loopw [5] (fun i wr => ∃ k : Nat, k ≤ n ∧ i = .int .i64 k ∧ Below w.heap.size w wr) (fun i _ => n - (intOf i).toNat)
  case atStart => exact ⟨0, Nat.zero_le _, rfl, HW.out⟩
  case round =>
    obtain ⟨k, hk, rfl, hbel⟩ := hrel
    have HBW := hidD hbel
    by_cases hlt : k < n
    · have hlti : (k : Int) < n := by omega
      have f1 : wr.cell? ⟨g, k, none⟩ = some (.string (f k)) := (hbel.cell (p := ⟨g, k, none⟩) hg).trans (H1.out k hlt)
      have f2 : wr.cell? ⟨h, k, none⟩ = some (.string (f k)) := (hbel.cell (p := ⟨h, k, none⟩) hh).trans (H2.out k hlt)
      clear hbel
      generalize f k = z at *
      have hbb : (z.toList == z.toList) = true := beq_self_eq_true _
      go_wp2_with fail
      go_quiet (fail)
      go_wp2_with fail
      go_roundw
      case rel => exact ⟨k + 1, by omega, by go_num, below_drewN HBW.out _⟩
      case measure => simp [intOf]; omega
    · obtain rfl : k = n := by omega
      clear hbel
      go_wp2_with fail
      go_ret
      exact ⟨rfl, HBW.out⟩
set_option maxRecDepth 100000 in
set_option maxHeartbeats 1600000 in
theorem sameInts_nil (c1 c2 : Nat) (a b : Option Addr) (w : World) : Calls Try.prog 28 #[.slice a 0 c1, .slice b 0 c2] w fun e w' => e = .returned (.bool true) ∧ Below w.heap.size w w' := by
  have HW : Hid (Below w.heap.size w w) := Below.refl _ _
  go_enter Try.func28, Try.ntmps28
  go_wp2_with fail
  go_loopw [5] (fun i wr => i = .int .i64 0 ∧ wr = w) (fun i _ => 0)
  case atStart => exact ⟨rfl, rfl⟩
  case round =>
    obtain ⟨rfl, rfl⟩ := hrel
    go_wp2_with fail
    go_ret
    exact ⟨rfl, HW.out⟩
end Go.Proofs.Ytfecadongbmfhaa
