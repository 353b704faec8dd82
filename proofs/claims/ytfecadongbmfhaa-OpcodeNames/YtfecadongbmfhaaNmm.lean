/- What the document's Mnemonics answer. -/
import Derived.Test.YtfecadongbmfhaaApn
import Derived.Test.YtfecadongbmfhaaDc5
namespace Go.Proofs.Ytfecadongbmfhaa
open Go.RowKit
set_option linter.unusedVariables false

def mnT (k : Nat) : List Value := (List.range k).map fun i => Value.string (bA (nmS (i + 1)))
theorem mnT_len (k : Nat) : (mnT k).length = k := by simp [mnT]
theorem mnT_step (k : Nat) : mnT k ++ [.string (bA (nmS (k + 1)))] = mnT (k + 1) := by unfold mnT; rw [List.range_succ, List.map_append]; rfl
theorem mnT_get (k i : Nat) (h : i < k) : (mnT k)[i]? = some (.string (bA (nmS (i + 1)))) := by unfold mnT; rw [List.getElem?_map, List.getElem?_range h]; rfl
set_option maxRecDepth 100000 in
set_option maxHeartbeats 3200000 in
theorem refMn_any (w : World) : Calls Try.prog 24 #[] w fun e w' => ∃ g cap, e = .returned (.slice (some ⟨g, 0, none⟩) 56 cap) ∧ w.heap.size ≤ g ∧ g < w'.heap.size ∧ (∀ k, k < 56 → w'.cell? ⟨g, k, none⟩ = some (.string (bA (nmS (k + 1))))) ∧ Below w.heap.size w w' := by
  have HP : Hid (∀ k : Nat, k < 56 → ∀ w, Calls Try.prog 36 #[.string ⟨#[65, 68, 67, 65, 78, 68, 65, 83, 76, 66, 67, 67, 66, 67, 83, 66, 69, 81, 66, 73, 84, 66, 77, 73, 66, 78, 69, 66, 80, 76, 66, 82, 75, 66, 86, 67, 66, 86, 83, 67, 76, 67, 67, 76, 68, 67, 76, 73, 67, 76, 86, 67, 77, 80, 67, 80, 88, 67, 80, 89, 68, 69, 67, 68, 69, 88, 68, 69, 89, 69, 79, 82, 73, 78, 67, 73, 78, 88, 73, 78, 89, 74, 77, 80, 74, 83, 82, 76, 68, 65, 76, 68, 88, 76, 68, 89, 76, 83, 82, 78, 79, 80, 79, 82, 65, 80, 72, 65, 80, 72, 80, 80, 76, 65, 80, 76, 80, 82, 79, 76, 82, 79, 82, 82, 84, 73, 82, 84, 83, 83, 66, 67, 83, 69, 67, 83, 69, 68, 83, 69, 73, 83, 84, 65, 83, 84, 88, 83, 84, 89, 84, 65, 88, 84, 65, 89, 84, 83, 88, 84, 88, 65, 84, 88, 83, 84, 89, 65]⟩, .int .i64 (k : Int)] w fun e w' => e = .returned (.string (bA (nmS (k + 1)))) ∧ w' = w) := fun k hk w => pickAll_any k hk w
  have HW : Hid (Below w.heap.size w w) := Below.refl _ _
  go_enter Try.func24, Try.ntmps24
  go_wp2_with fail
  go_loopw [1, 2] (fun v i wr => ∃ k : Nat, k ≤ 56 ∧ i = .int .i64 k ∧ wr.ownsRow w.heap.size 9 1 v k (mnT k) ∧ Below w.heap.size w wr) (fun _ i _ => 56 - (intOf i).toNat)
  case atStart => exact ⟨0, Nat.zero_le _, rfl, ⟨rfl, .inl ⟨rfl, rfl⟩⟩, HW.out⟩
  case round =>
    obtain ⟨k, hk, rfl, how, hbel⟩ := hrel
    have HOW := hidD how
    have HBL := hidD hbel
    clear how hbel
    have em : (3 : Int) * (k : Int) = ((3 * k : Nat) : Int) := by omega
    have q3 : 3 * k ≤ 168 := by omega
    by_cases hlt : k < 56
    · have hlti : ((3 * k : Nat) : Int) < 168 := by omega
      have hltn : 3 * k < 168 := by omega
      have HP1 := hidD (HP.out k hlt)
      have HST := hidD (mnT_step k)
      clear HP
      generalize 3 * k = M at *
      generalize bA (nmS (k + 1)) = NM at *
      go_wp2_with (first | (at_builtin; refine wpList_append_t rfl _ _ rfl w.heap.size u1 k (mnT k) rfl (HOW.out.alloc _) w1.heap.size NM rfl (new_one _ _ _) (by omega) (by have := HBL.out.size; simp; omega) ?_; intro v8 w8 hown8 hg8; have HO8 := hidD hown8; have HB8 := hidD (row_grown (a := w) (HOW.out.alloc _) (HBL.out.alloc HBL.out.size _) hg8 (by have := HBL.out.size; simp; omega)); clear hown8 hg8) | (go_at_call 36; refine (HP1.out _).mono ?_; rintro e w1 ⟨rfl, rfl⟩))
      go_roundw
      case rel => exact ⟨k + 1, by omega, by go_num, by rw [← HST.out]; exact HO8.out, HB8.out⟩
      case measure => simp [intOf]; omega
    · obtain rfl : k = 56 := by omega
      clear HP
      obtain ⟨g, cap, rfl, hg1, hg2, hcl⟩ := owned_cells HOW.out (by decide)
      have HC := hidD hcl
      clear hcl
      go_wp2_with fail
      go_ret
      exact ⟨g, cap, rfl, hg1, hg2, fun k hk => by rw [HC.out k hk]; exact mnT_get 56 k hk, HBL.out⟩
end Go.Proofs.Ytfecadongbmfhaa
