/- ShaFewer: the walk. -/
import Derived.Test.YtjpcndhdlbkilaaJn6
namespace Go.Proofs.Ytjpcndhdlbkilaa
open Go.RowKit
set_option linter.unusedVariables false

/- two answers: one of them is an error, or the first is the beginning of the second -/
def FewIs (v1 v2 : Value) (e1 e2 : Int) (n m : Int) (w : World) : Prop := (0 ≤ e1 ∧ e1 ≤ 3 ∧ 0 ≤ e2 ∧ e2 ≤ 3 ∧ (e1 ≠ 0 ∨ e2 ≠ 0)) ∨ (e1 = 0 ∧ e2 = 0 ∧ ∃ (g1 g2 N M : Nat) (F : Nat → UInt8), n = (N : Int) ∧ m = (M : Int) ∧ N ≤ M ∧ M ≤ 1048576 ∧ v1 = .slice (some ⟨g1, 0, none⟩) N N ∧ v2 = .slice (some ⟨g2, 0, none⟩) M M ∧ RowZ w g1 .u8 N 5 (fun i => ((F i).toNat : Int)) ∧ RowZ w g2 .u8 M 5 (fun i => ((F i).toNat : Int)))
theorem FewIs.same {v1 v2 : Value} {n m : Int} {w : World} (h : FewIs v1 v2 0 0 n m w) : ∃ (g1 g2 N M : Nat) (L : List UInt8), n = (N : Int) ∧ m = (M : Int) ∧ N ≤ M ∧ M ≤ 1048576 ∧ L.length = N ∧ v1 = .slice (some ⟨g1, 0, none⟩) N N ∧ v2 = .slice (some ⟨g2, 0, none⟩) M M ∧ ByAt w (.slice (some ⟨g1, 0, none⟩) N N) L ∧ ∃ a2, (∀ w', (Instr.sliceAt 22 (.slice (some ⟨g2, 0, none⟩) M M) none (some (.int .i64 (N : Int))) none).run Try.prog w' = .ok (.slice a2 N M) w') ∧ ByAt w (.slice a2 N M) L := by
  rcases h with ⟨_, _, _, _, h | h⟩ | ⟨_, _, g1, g2, N, M, F, rfl, rfl, hle, hM, rfl, rfl, r1, r2⟩
  · exact absurd rfl h
  · exact absurd rfl h
  · have b1 := rowZ_by r1
    have b2 := rowZ_by r2
    have hl2 : ((List.range M).map F).length = M := by simp
    obtain ⟨a2, hs, hb⟩ := slice_take b2 (by rw [hl2]; exact Nat.le_refl _) N (by rw [hl2]; exact hle)
    have e : ((List.range M).map F).take N = (List.range N).map F := by rw [← List.map_take, List.take_range, Nat.min_eq_left hle]
    rw [e] at hb hs
    simp only [List.length_map, List.length_range] at b1 hb hs
    exact ⟨g1, g2, N, M, (List.range N).map F, rfl, rfl, hle, hM, by simp, rfl, rfl, b1, a2, hs, hb⟩
set_option maxRecDepth 100000 in
set_option maxHeartbeats 6400000 in
theorem few_walk (x : Int) (K I : Value) (rd n m n' m' : Int) (hsw : (¬ m < n ∧ n' = n ∧ m' = m) ∨ (m < n ∧ n' = m ∧ m' = n))
    (Ok : World → Prop) (hOk : ∀ a b, Ok a → Below a.heap.size a b → Ok b)
    (HX : ∀ w, Ok w → Calls Try.prog 19 #[.int .i64 x, K, I, .int .i64 n'] w fun e w1 => ∃ v1 e1, e = .returned (.tuple #[v1, .int .i64 e1]) ∧ Below w.heap.size w w1 ∧ ∀ w2, Below w1.heap.size w1 w2 → Calls Try.prog 19 #[.int .i64 x, K, I, .int .i64 m'] w2 fun e w3 => ∃ v2 e2, e = .returned (.tuple #[v2, .int .i64 e2]) ∧ Below w2.heap.size w2 w3 ∧ FewIs v1 v2 e1 e2 n' m' w3)
    (HY : ∀ w, Ok w → Calls Try.prog 20 #[.int .i64 x, K, I, .int .i64 rd, .int .i64 n'] w fun e w1 => ∃ v1 e1, e = .returned (.tuple #[v1, .int .i64 e1]) ∧ Below w.heap.size w w1 ∧ ∀ w2, Below w1.heap.size w1 w2 → Calls Try.prog 20 #[.int .i64 x, K, I, .int .i64 rd, .int .i64 m'] w2 fun e w3 => ∃ v2 e2, e = .returned (.tuple #[v2, .int .i64 e2]) ∧ Below w2.heap.size w2 w3 ∧ FewIs v1 v2 e1 e2 n' m' w3)
    (w : World) (h0 : Ok w) : Calls Try.prog 6 #[.int .i64 x, K, I, .int .i64 rd, .int .i64 n, .int .i64 m] w fun e w' => e = .returned (.bool true) ∧ Below w.heap.size w w' := by
  have HL : Hid (∀ w, Calls Try.prog 7 #[] w fun e w' => e = .returned (.bool true) ∧ Below w.heap.size w w') := fun w => live_any w
  have HN : Hid (∀ z w, Calls Try.prog 11 #[.int .i64 z] w fun e w' => e = .returned (.int .i64 z) ∧ w' = w) := fun z w => no_any z w
  have HSA : Hid (∀ (L : List UInt8) (u v : Value) (w : World), L.length ≤ 1048576 → ByAt w u L → ByAt w v L → Calls Try.prog 14 #[u, v] w fun e w' => e = .returned (.bool true) ∧ Below w.heap.size w w') := fun L u v w hL h1 h2 => same_true L (by omega) u v w h1 h2
  have HXX := hidD HX
  have HYY := hidD HY
  have HOK := hidD hOk
  have O0 := hidD h0
  clear HX HY hOk h0
  rcases hsw with ⟨hlt, rfl, rfl⟩ | ⟨hlt, rfl, rfl⟩
  all_goals
    go_enter Try.func6, Try.ntmps6
    go_wp2_with fail
    go_at_call 7
    refine (HL.out _).mono ?_
    rintro e w1 ⟨rfl, hx1⟩
    have B1 := hidD hx1
    have O1 := hidD (HOK.out _ _ O0.out hx1)
    clear hx1
    go_wp2_with fail
    go_at_call 19
    refine (HXX.out _ O1.out).mono ?_
    rintro e w2 ⟨v1, e1, rfl, hx2, hnext⟩
    have B2 := hidD (Below.next B1.out hx2)
    have O2 := hidD (HOK.out _ _ O1.out hx2)
    have V2 := hidD (hnext w2 (Below.refl _ _))
    clear hx2 hnext O1 B1
    go_wp2_with fail
    go_at_call 19
    refine V2.out.mono ?_
    rintro e w3 ⟨v2, e2, rfl, hx3, hfew⟩
    have B3 := hidD (Below.next B2.out hx3)
    have O3 := hidD (HOK.out _ _ O2.out hx3)
    have F3 := hidD hfew
    clear hx3 hfew V2 O2 B2
    rcases (show (0 ≤ e1 ∧ e1 ≤ 3 ∧ 0 ≤ e2 ∧ e2 ≤ 3 ∧ (e1 ≠ 0 ∨ e2 ≠ 0)) ∨ (e1 = 0 ∧ e2 = 0) from F3.out.imp id (fun h => ⟨h.1, h.2.1⟩)) with ⟨q1, q2, q3, q4, q5⟩ | ⟨q1, q2⟩
    · have hsum : ¬ e1 + e2 = 0 := by omega
      have B4 := B3
      have O4 := O3
      clear F3 q5
      go_wp2_with (go_at_call 11; refine (HN.out _ _).mono ?_; rintro e wx ⟨rfl, hx⟩; subst wx)
      all_goals try (apply False.elim; apply undef_boolS; assumption)
      go_at_call 20
      refine (HYY.out _ O4.out).mono ?_
      rintro e w5 ⟨u1, f1, rfl, hx5, hnext⟩
      have B5 := hidD (Below.next B4.out hx5)
      have V5 := hidD (hnext w5 (Below.refl _ _))
      clear hx5 hnext
      go_wp2_with fail
      go_at_call 20
      refine V5.out.mono ?_
      rintro e w6 ⟨u2, f2, rfl, hx6, hfew⟩
      have B6 := hidD (Below.next B5.out hx6)
      have F6 := hidD hfew
      clear hx6 hfew V5
      clear q1 q2 q3 q4 hsum B3 O3 B4 O4 B5
      rcases (show (0 ≤ f1 ∧ f1 ≤ 3 ∧ 0 ≤ f2 ∧ f2 ≤ 3 ∧ (f1 ≠ 0 ∨ f2 ≠ 0)) ∨ (f1 = 0 ∧ f2 = 0) from F6.out.imp id (fun h => ⟨h.1, h.2.1⟩)) with ⟨q1, q2, q3, q4, q5⟩ | ⟨q1, q2⟩
      · by_cases hf1 : f1 = 0
        · have hf3 : ¬ f2 = 0 := by omega
          have hf2 : (f2 != 0) = true := bne_iff_ne.mpr hf3
          subst hf1
          clear F6 q5
          go_wp2_with (go_at_call 11; refine (HN.out _ _).mono ?_; rintro e wx ⟨rfl, hx⟩; subst wx)
          all_goals try (apply False.elim; apply undef_boolS; assumption)
          go_ret
          exact ⟨by first | rfl | simp, B6.out⟩
        · have hf2 : (f1 == 0) = false := beq_eq_false_iff_ne.mpr hf1
          clear F6 q5
          go_wp2_with (go_at_call 11; refine (HN.out _ _).mono ?_; rintro e wx ⟨rfl, hx⟩; subst wx)
          all_goals try (apply False.elim; apply undef_boolS; assumption)
          go_ret
          exact ⟨by first | rfl | simp, B6.out⟩
      · subst q1
        subst q2
        obtain ⟨g1, g2, N', M', L, hN, hM, hle, hMl, hLl, rfl, rfl, y1, a2, hsl, y2⟩ := F6.out.same
        have Y := hidD (HSA.out L _ _ w6 (by omega) y1 y2)
        clear y1 y2 F6
        subst hN
        subst hM
        go_wp2_with (go_at_call 11; refine (HN.out _ _).mono ?_; rintro e wx ⟨rfl, hx⟩; subst wx)
        go_at_call 14
        refine Y.out.mono ?_
        rintro e w7 ⟨rfl, hx7⟩
        have B7 := hidD (Below.next B6.out hx7)
        clear hx7 Y hsl
        go_wp2_with fail
        go_ret
        exact ⟨by first | rfl | simp, B7.out⟩
    · subst q1
      subst q2
      obtain ⟨g1, g2, N, M, L, hN, hM, hle, hMl, hLl, rfl, rfl, y1, a2, hsl, y2⟩ := F3.out.same
      have Y := hidD (HSA.out L _ _ w3 (by omega) y1 y2)
      clear y1 y2 F3
      subst hN
      subst hM
      go_wp2_with (go_at_call 11; refine (HN.out _ _).mono ?_; rintro e wx ⟨rfl, hx⟩; subst wx)
      go_at_call 14
      refine Y.out.mono ?_
      rintro e w4 ⟨rfl, hx4⟩
      have B4 := hidD (Below.next B3.out hx4)
      have O4 := hidD (HOK.out _ _ O3.out hx4)
      clear hx4 Y hsl
      go_wp2_with fail
      go_at_call 20
      refine (HYY.out _ O4.out).mono ?_
      rintro e w5 ⟨u1, f1, rfl, hx5, hnext⟩
      have B5 := hidD (Below.next B4.out hx5)
      have V5 := hidD (hnext w5 (Below.refl _ _))
      clear hx5 hnext
      go_wp2_with fail
      go_at_call 20
      refine V5.out.mono ?_
      rintro e w6 ⟨u2, f2, rfl, hx6, hfew⟩
      have B6 := hidD (Below.next B5.out hx6)
      have F6 := hidD hfew
      clear hx6 hfew V5
      clear B3 O3 B4 O4 B5 hle hMl hLl
      rcases (show (0 ≤ f1 ∧ f1 ≤ 3 ∧ 0 ≤ f2 ∧ f2 ≤ 3 ∧ (f1 ≠ 0 ∨ f2 ≠ 0)) ∨ (f1 = 0 ∧ f2 = 0) from F6.out.imp id (fun h => ⟨h.1, h.2.1⟩)) with ⟨q1, q2, q3, q4, q5⟩ | ⟨q1, q2⟩
      · by_cases hf1 : f1 = 0
        · have hf3 : ¬ f2 = 0 := by omega
          have hf2 : (f2 != 0) = true := bne_iff_ne.mpr hf3
          subst hf1
          clear F6 q5
          go_wp2_with (go_at_call 11; refine (HN.out _ _).mono ?_; rintro e wx ⟨rfl, hx⟩; subst wx)
          all_goals try (apply False.elim; apply undef_boolS; assumption)
          go_ret
          exact ⟨by first | rfl | simp, B6.out⟩
        · have hf2 : (f1 == 0) = false := beq_eq_false_iff_ne.mpr hf1
          clear F6 q5
          go_wp2_with (go_at_call 11; refine (HN.out _ _).mono ?_; rintro e wx ⟨rfl, hx⟩; subst wx)
          all_goals try (apply False.elim; apply undef_boolS; assumption)
          go_ret
          exact ⟨by first | rfl | simp, B6.out⟩
      · subst q1
        subst q2
        obtain ⟨g1, g2, N', M', L, hN, hM, hle, hMl, hLl, rfl, rfl, y1, a2, hsl, y2⟩ := F6.out.same
        have Y := hidD (HSA.out L _ _ w6 (by omega) y1 y2)
        clear y1 y2 F6
        obtain rfl : N' = N := by omega
        obtain rfl : M' = M := by omega
        clear hN hM
        go_wp2_with (go_at_call 11; refine (HN.out _ _).mono ?_; rintro e wx ⟨rfl, hx⟩; subst wx)
        go_at_call 14
        refine Y.out.mono ?_
        rintro e w7 ⟨rfl, hx7⟩
        have B7 := hidD (Below.next B6.out hx7)
        clear hx7 Y hsl
        go_wp2_with fail
        go_ret
        exact ⟨by first | rfl | simp, B7.out⟩
end Go.Proofs.Ytjpcndhdlbkilaa
