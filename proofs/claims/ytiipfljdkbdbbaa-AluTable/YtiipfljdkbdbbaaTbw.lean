/- What Words of the document answers, and sameWords of the statements. -/
import Derived.Test.YtiipfljdkbdbbaaTbs
namespace Go.Proofs.Ytiipfljdkbdbbaa
open Go.RowKit
set_option linter.unusedVariables false

set_option maxRecDepth 100000 in
set_option maxHeartbeats 1600000 in
theorem refWords_any (w : World) : Calls Try.prog 9 #[] w fun e w' => ∃ g c, e = .returned (.slice (some ⟨g, 0, none⟩) 256 c) ∧ w.heap.size ≤ g ∧ WbAt w' g wdN ∧ Below w.heap.size w w' := by
  obtain ⟨i0, hi, hz0, hz1, hz2⟩ := info_parts Try.info22
  go_enter Try.func9, Try.ntmps9
  go_wp2_with fail
  go_loopw [1, 2] (fun o i wr => ∃ k : Nat, k ≤ 256 ∧ i = .int .i64 k ∧ wr.ownsRow w.heap.size 22 1 o k (rangeC .u32 wdN k) ∧ Below w.heap.size w wr) (fun _ i _ => 256 - (intOf i).toNat)
  case atStart => exact ⟨0, Nat.zero_le _, rfl, World.ownsRow_nil _ _ _ _, Below.refl _ _⟩
  case round =>
    obtain ⟨k, hk, rfl, hown, hbel⟩ := hrel
    obtain ⟨ad, cd, hde⟩ := row_shape hown
    subst hde
    have HOW := hidD hown
    have HBL := hidD hbel
    have hwz := hbel.size
    clear hown
    by_cases hlt : k < 256
    · have hlti : (k : Int) < 256 := by omega
      have H3 := hidD (refFlags0_any k hlt)
      have o1 := or1w k hlt
      have o2 := or2w k hlt
      have o3 := or3w k hlt
      obtain ⟨b1, b2, b3, b4, b5, b6, b7⟩ := w_lt k hlt
      have d1 := dg_is k hlt
      have e1 : (k : Int) * 2 % 256 = ((upN k : Nat) : Int) := by unfold upN; omega
      have e2 : (k : Int) / 2 = ((dnN k : Nat) : Int) := by unfold dnN; omega
      have e3 : (k : Int) % 16 = ((k % 16 : Nat) : Int) := by omega
      have hr : k % 16 < 16 := Nat.mod_lt _ (by decide)
      have HRN := hidD (rangeC_next .u32 wdN k)
      generalize wdN k = F at *
      generalize w2 k = x2 at *
      generalize w1 k = x1 at *
      generalize dgN k = y4 at *
      generalize dnN k = y2 at *
      generalize upN k = y1 at *
      generalize f0 k = y0 at *
      generalize k % 16 = r at *
      clear hbel
      by_cases h9 : 9 < r
      · rw [if_pos h9] at d1
        have hi9 : (9 : Int) < (r : Int) := by omega
        have e4 : (r : Int) + 6 = ((y4 : Nat) : Int) := by omega
        clear d1
        go_wp2_with (first
          | (go_at_call 14; refine (H3.out _).mono ?_; rintro e w2 ⟨rfl, h3⟩; subst h3)
          | (at_builtin; refine wpList_append_own _ rfl _ _ 23 rfl w.heap.size 22 i0 (.int .u32 0) 1 4 Try.underlying23 hi hz0 hz1 hz2 rfl (by decide) (.slice ad k cd) k (rangeC .u32 wdN k) rfl (row_below HOW.out ((Below.refl _ _).alloc (Nat.le_refl _) _)) ⟨_, 0, none⟩ 1 1 [.int .u32 (F : Int)] rfl rfl (new_cell1 _ _ _) (by simp [Value.oneCell']) (by unfold maxLen; omega) (by omega) (by simp; omega) ?_; intro v4 w4 hown4 hg4 hnil4; have HB4 := hidD (row_grown (row_below HOW.out ((Below.refl _ _).alloc (Nat.le_refl _) _)) (HBL.out.alloc hwz _) hg4 (by simp; omega)); clear hg4 hnil4))
        go_roundw
        case rel => exact ⟨k + 1, by omega, by go_num, by rw [HRN.out]; exact hown4, HB4.out⟩
        case measure => simp [intOf]; omega
      · rw [if_neg h9] at d1
        have hi9 : ¬ (9 : Int) < (r : Int) := by omega
        subst d1
        go_wp2_with (first
          | (go_at_call 14; refine (H3.out _).mono ?_; rintro e w2 ⟨rfl, h3⟩; subst h3)
          | (at_builtin; refine wpList_append_own _ rfl _ _ 23 rfl w.heap.size 22 i0 (.int .u32 0) 1 4 Try.underlying23 hi hz0 hz1 hz2 rfl (by decide) (.slice ad k cd) k (rangeC .u32 wdN k) rfl (row_below HOW.out ((Below.refl _ _).alloc (Nat.le_refl _) _)) ⟨_, 0, none⟩ 1 1 [.int .u32 (F : Int)] rfl rfl (new_cell1 _ _ _) (by simp [Value.oneCell']) (by unfold maxLen; omega) (by omega) (by simp; omega) ?_; intro v4 w4 hown4 hg4 hnil4; have HB4 := hidD (row_grown (row_below HOW.out ((Below.refl _ _).alloc (Nat.le_refl _) _)) (HBL.out.alloc hwz _) hg4 (by simp; omega)); clear hg4 hnil4))
        go_roundw
        case rel => exact ⟨k + 1, by omega, by go_num, by rw [HRN.out]; exact hown4, HB4.out⟩
        case measure => simp [intOf]; omega
    · obtain rfl : k = 256 := by omega
      have hown := HOW.out
      obtain ⟨g, cap, he, hbg, hgl, hnc⟩ := row_shapeC hown (by decide)
      cases he
      have HWB : Hid (WbAt wr g wdN) := by
        rcases hown.2 with ⟨h0, _⟩ | ⟨g2, cap2, cur, he2, hb2, hg2, _⟩
        · cases h0
        · cases he2
          refine ⟨_, _, hg2, fun j hj => ?_⟩
          have := hown.cells (g := g) rfl j (.int .u32 (wdN j : Int)) (by unfold rangeC; rw [List.getElem?_map, List.getElem?_range hj]; rfl)
          rw [show (⟨g, 0, none⟩ : Addr).add j = ⟨g, 0 + j, none⟩ from Addr.add_lit .., Nat.zero_add, cell_of_row _ _ _ _ _ _ hg2] at this
          exact this
      clear hown hbel
      go_wp2_with fail
      go_ret
      exact ⟨g, cd, rfl, hbg, HWB.out, HBL.out⟩

set_option maxRecDepth 100000 in
set_option maxHeartbeats 400000 in
theorem same_words (f : Nat → Nat) (g h c d : Nat) (w : World) (hg : WbAt w g f) (hh : WbAt w h f) : Calls Try.prog 12 #[.slice (some ⟨g, 0, none⟩) 256 c, .slice (some ⟨h, 0, none⟩) 256 d] w fun e w' => e = .returned (.bool true) ∧ Below w.heap.size w w' := by
  have HG := hidD hg
  have HH := hidD hh
  clear hg hh
  go_enter Try.func12, Try.ntmps12
  go_wp2_with fail
  go_loopw [5] (fun i wr => ∃ k : Nat, k ≤ 256 ∧ i = .int .i64 k ∧ Below w.heap.size w wr) (fun i _ => 256 - (intOf i).toNat)
  case atStart => exact ⟨0, Nat.zero_le _, rfl, Below.refl _ _⟩
  case round =>
    obtain ⟨k, hk, rfl, hbel⟩ := hrel
    have HBL := hidD hbel
    by_cases hlt : k < 256
    · have hlti : (k : Int) < 256 := by omega
      have hc1 : ∀ n, (wr.drewN n).cell? ⟨g, k, none⟩ = some (.int .u32 (f k : Int)) := fun n => (HG.out.next hbel).cell hlt
      have hc2 : ∀ n, (wr.drewN n).cell? ⟨h, k, none⟩ = some (.int .u32 (f k : Int)) := fun n => (HH.out.next hbel).cell hlt
      clear hbel
      generalize (f k : Int) = v at *
      go_wp2_with fail
      go_quiet (fail)
      go_wp2_with fail
      go_roundw
      case rel => exact ⟨k + 1, by omega, by go_num, below_drewN HBL.out _⟩
      case measure => simp [intOf]; omega
    · obtain rfl : k = 256 := by omega
      clear hbel
      go_wp2_with fail
      go_ret
      exact ⟨rfl, HBL.out⟩
end Go.Proofs.Ytiipfljdkbdbbaa
