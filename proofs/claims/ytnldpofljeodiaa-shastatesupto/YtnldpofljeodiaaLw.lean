/- What the statements' own no, own, same and live answer. -/
import Derived.Test.YtnldpofljeodiaaSt8
import Derived.Test.YtnldpofljeodiaaGv
import Derived.Lib.SlBytesConst
namespace Go.Proofs.Ytnldpofljeodiaa
open Go.RowKit
set_option linter.unusedVariables false

theorem no_any (x : Int) (w : World) : Calls Try.prog 12 #[.int .i64 x] w fun e w' => e = .returned (.int .i64 x) ∧ w' = w := by
  go_enter Try.func12, Try.ntmps12
  go_wp2_with fail
  go_ret
  exact ⟨rfl, rfl⟩
set_option maxRecDepth 100000 in
set_option maxHeartbeats 800000 in
theorem same_true (L : List UInt8) (hL : L.length ≤ 4611686018427387904) (u v : Value) (w : World) (hu : ByAt w u L) (hv : ByAt w v L) : Calls Try.prog 11 #[u, v] w fun e w' => e = .returned (.bool true) ∧ Below w.heap.size w w' := by
  rcases Nat.eq_zero_or_pos L.length with h0 | h0
  · obtain rfl : L = [] := List.length_eq_zero_iff.1 h0
    obtain ⟨a1, c1, rfl, _⟩ := hu.shape
    obtain ⟨a2, c2, rfl, _⟩ := hv.shape
    clear hu hv h0 hL
    go_enter Try.func11, Try.ntmps11
    go_wp2_with fail
    go_loopw [5] (fun iv wr => iv = .int .i64 0 ∧ wr = w) (fun _ _ => 0)
    case atStart => exact ⟨rfl, rfl⟩
    case round =>
      obtain ⟨rfl, rfl⟩ := hrel
      go_wp2_with fail
      go_ret
      exact ⟨rfl, Below.refl _ _⟩
  · obtain ⟨a1, c1, rfl, _⟩ := hu.shape
    obtain ⟨a2, c2, rfl, _⟩ := hv.shape
    obtain ⟨g1, o1, rfl, hg1, hc1⟩ := hu.src h0
    obtain ⟨g2, o2, rfl, hg2, hc2⟩ := hv.src h0
    have HC1 := hidD hc1
    have HC2 := hidD hc2
    have HG1 := hidD hg1
    have HG2 := hidD hg2
    clear hu hv h0 hc1 hc2 hg1 hg2
    generalize L.length = LL at *
    go_enter Try.func11, Try.ntmps11
    go_wp2_with fail
    go_loopw [5] (fun iv wr => ∃ i : Nat, i ≤ LL ∧ iv = .int .i64 (i : Int) ∧ Below w.heap.size w wr) (fun iv _ => LL - (intOf iv).toNat)
    case atStart => exact ⟨0, Nat.zero_le _, rfl, Below.refl _ _⟩
    case round =>
      obtain ⟨i, hi, rfl, hbel⟩ := hrel
      by_cases hlt : i < LL
      · have hlti : (i : Int) < (LL : Int) := by omega
        have c1 : wr.cell? ⟨g1, o1 + i, none⟩ = some (.int .u8 ((L.getD i 0).toNat : Int)) := by rw [hbel.cell (p := ⟨g1, o1 + i, none⟩) HG1.out]; exact HC1.out i hlt
        have c2 : wr.cell? ⟨g2, o2 + i, none⟩ = some (.int .u8 ((L.getD i 0).toNat : Int)) := by rw [hbel.cell (p := ⟨g2, o2 + i, none⟩) HG2.out]; exact HC2.out i hlt
        have HB := hidD (fun n => below_drewN hbel n)
        generalize ((L.getD i 0).toNat : Int) = X at *
        clear hbel
        go_wp2_with fail
        go_quiet (fail)
        go_wp2_with fail
        go_roundw
        case rel =>
          first
          | exact ⟨i + 1, by omega, by go_num, HB.out _⟩
          | ((repeat apply Exists.intro); refine And.intro ?_ rfl; exact ⟨i + 1, by omega, by go_num, HB.out _⟩)
        case measure => simp [intOf]; omega
      · obtain rfl : i = LL := by omega
        have hlti : ¬ (i : Int) < (i : Int) := by omega
        have HB := hidD hbel
        clear hbel
        go_wp2_with fail
        go_ret
        exact ⟨rfl, HB.out⟩
theorem conv_const (w : World) (b : Nat) (C : Array Value) (n c : Nat) (h : w.heap.size = b) : (convert 22 22 (.slice (some ⟨b, 0, none⟩) n c)).run Try.prog (w.alloc (.cells C 5)) = .ok (.slice (some ⟨b, 0, none⟩) n c) (w.alloc (.cells C 5 (C.size, C.size + 1))) := by
  subst h; exact Lib.run_convert_bytes_const (P := Try.prog) w 22 5 C n c Try.underlying22 Try.underlying5
set_option maxRecDepth 100000 in
set_option maxHeartbeats 1600000 in
theorem live_any (w : World) : Calls Try.prog 13 #[] w fun e w' => e = .returned (.bool true) ∧ Below w.heap.size w w' := by
  have HN : Hid (∀ w, Calls Try.prog 12 #[.int .i64 0] w fun e w' => e = .returned (.int .i64 0) ∧ w' = w) := fun w => no_any 0 w
  have HA : Hid (∀ w, Calls Try.prog 9 #[.int .i64 256, .slice none 0 0] w fun e w' => ∃ g, e = .returned (.tuple #[.slice (some ⟨g, 0, none⟩) 32 32, .int .i64 0]) ∧ g < w'.heap.size ∧ w'.cell? ⟨g, 0, none⟩ = some (.int .u8 227) ∧ w'.cell? ⟨g, 31, none⟩ = some (.int .u8 85) ∧ Below w.heap.size w w') := fun w => (shaSum_any 256 (by unfold Kind; omega) [] (by decide) none 0 w (.inl ⟨rfl, none, 0, rfl, fun _ => rfl⟩)).mono fun e w' ⟨g, h1, h2, h3, h4⟩ => ⟨g, h1, h3.lt, by rw [h3.cell (by decide), lvN_dg.1]; rfl, by rw [h3.cell (by decide), lvN_dg.2]; rfl, h4⟩
  have HB : Hid (∀ (g0 : Nat) (w : World), g0 < w.heap.size → w.cell? ⟨g0, 0, none⟩ = some (.int .u8 97) → w.cell? ⟨g0, 1, none⟩ = some (.int .u8 98) → w.cell? ⟨g0, 2, none⟩ = some (.int .u8 99) → Calls Try.prog 9 #[.int .i64 512, .slice (some ⟨g0, 0, none⟩) 3 3] w fun e w' => ∃ g, e = .returned (.tuple #[.slice (some ⟨g, 0, none⟩) 64 64, .int .i64 0]) ∧ w'.cell? ⟨g, 0, none⟩ = some (.int .u8 221) ∧ w'.cell? ⟨g, 7, none⟩ = some (.int .u8 186) ∧ Below w.heap.size w w') := fun g0 w hg c0 c1 c2 => (shaSum_any 512 (by unfold Kind; omega) [97, 98, 99] (by decide) (some ⟨g0, 0, none⟩) 3 w (.inr ⟨g0, 0, 3, rfl, hg, fun j hj => by
      rcases (show j = 0 ∨ j = 1 ∨ j = 2 by simp at hj; omega) with rfl | rfl | rfl
      · exact c0
      · exact c1
      · exact c2⟩)).mono fun e w' ⟨g, h1, h2, h3, h4⟩ => ⟨g, h1, by rw [h3.cell (by decide), lvW_dg.1]; rfl, by rw [h3.cell (by decide), lvW_dg.2]; rfl, h4⟩
  go_enter Try.func13, Try.ntmps13
  go_wp2_with fail
  go_at_call 9
  refine (HA.out _).mono ?_
  rintro e w1 ⟨g1, rfl, hg1, ca, cb, hb1⟩
  have CA := hidD ca
  have CB := hidD cb
  have HG := hidD hg1
  have HB1 := hidD hb1
  clear ca cb hb1 hg1
  have hcv := conv_const
  go_wp2_with fail
  go_at_call 9
  have HX := hidD (HB.out w1.heap.size (w1.alloc (.cells #[.int .u8 97, .int .u8 98, .int .u8 99] (5 : TypeId) (3, 4))) (by simp) (by rw [cell_of_row _ _ _ _ _ _ (heap_alloc_last _ _)]; rfl) (by rw [cell_of_row _ _ _ _ _ _ (heap_alloc_last _ _)]; rfl) (by rw [cell_of_row _ _ _ _ _ _ (heap_alloc_last _ _)]; rfl))
  refine HX.out.mono ?_
  rintro e w2 ⟨g2, rfl, cc, cd, hb2⟩
  have hb12 : Below w1.heap.size w1 w2 := Below.next ((Below.refl _ _).alloc (Nat.le_refl _) _) hb2
  have c1 : w2.cell? ⟨g1, 0, none⟩ = some (.int .u8 227) := (hb12.cell (p := ⟨g1, 0, none⟩) HG.out).trans CA.out
  have c2 : w2.cell? ⟨g1, 31, none⟩ = some (.int .u8 85) := (hb12.cell (p := ⟨g1, 31, none⟩) HG.out).trans CB.out
  have HF := hidD (Below.next HB1.out hb12)
  clear hb12 hb2 HX HA HB CA CB HG HB1
  go_wp2_with (go_at_call 12; refine (HN.out _).mono ?_; rintro e wx ⟨rfl, hx⟩; subst wx)
  go_ret
  exact ⟨by first | rfl | simp, HF.out⟩
end Go.Proofs.Ytnldpofljeodiaa
