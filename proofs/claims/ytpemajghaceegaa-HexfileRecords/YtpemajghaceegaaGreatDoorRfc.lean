/- What the document's May answers. -/
import Derived.Test.YtpemajghaceegaaGreatDoorRfa
namespace Go.Proofs.YtpemajghaceegaaGreatDoor
open Go.RowKit
set_option linter.unusedVariables false

theorem u8_bq0 (c : UInt8) : ((c.toNat : Int) == 0) = decide (c = 0) := by
  by_cases h : c = 0
  · rw [decide_eq_true h, h]; rfl
  · rw [decide_eq_false h, beq_eq_false_iff_ne]
    intro he
    exact h (UInt8.toNat_inj.1 (by show c.toNat = 0; omega))
theorem ret_bb {a b : Bool} (h : a = b) : Ending.returned (.bool a) = .returned (.bool b) := by rw [h]
theorem nat_beq0 {N : Nat} (h : N = 0) : ((N : Int) == 0) = true := by subst h; rfl
theorem nat_bne0 {N : Nat} (h : ¬ N = 0) : ((N : Int) == 0) = false := by rw [beq_eq_false_iff_ne]; omega
theorem nat_beq4 {N : Nat} (h : N = 4) : ((N : Int) == 4) = true := by subst h; rfl
theorem nat_bne4 {N : Nat} (h : ¬ N = 4) : ((N : Int) == 4) = false := by rw [beq_eq_false_iff_ne]; omega
set_option maxRecDepth 100000 in
set_option maxHeartbeats 6400000 in
theorem refMay_any (f k A : Int) (v : Value) (d : List UInt8) (hd : d.length ≤ 9223372036854775807) (w : World) (h : ByAt w v d) :
    Calls Tryz.prog 39 #[.int .i64 f, .int .i64 k, .int .i64 A, v] w fun e w' => e = .returned (.bool (mayS f k A d)) ∧ w' = w := by
  obtain ⟨a, cap, rfl, h1, h2, h3, h4⟩ := h
  have HM := hidD (show mayS f k A d = (decide (0 ≤ A ∧ A ≤ 65535 ∧ d.length ≤ 255) &&
    (if f = 1 then
      (if k = 0 then true else if k = 1 then decide (A = 0 ∧ d.length = 0) else if k = 3 then decide (A = 0 ∧ d.length = 4 ∧ d.getD 0 0 = 0 ∧ d.getD 1 0 = 0) else false)
    else if f = 2 then
      (if k = 0 then decide (A = 0 ∧ d.length ≤ 252) else if k = 1 then decide (d.length ≤ 252) else if k = 5 ∨ k = 9 then decide (d.length = 0) else false)
    else if f = 3 then
      (if k = 0 then decide (0 < d.length) else if k = 1 then decide (d.length = 0) else false)
    else false)) from rfl)
  obtain ⟨M, HE⟩ : ∃ M, Hid (mayS f k A d = M) := ⟨_, rfl⟩
  rw [HE.out] at HM ⊢
  obtain ⟨N, HN⟩ : ∃ N, Hid (d.length = N) := ⟨_, rfl⟩
  have H4 := hidD h4
  clear h4
  rw [HN.out] at hd HM H4 h1 ⊢
  by_cases g0 : A < 0
  · go_enter Tryz.func39, Tryz.ntmps39
    go_wp2_with fail
    go_ret
    exact ⟨ret_bb (by rw [HM.out]; rw [show decide (0 ≤ A ∧ A ≤ 65535 ∧ N ≤ 255) = false from decide_eq_false (by omega), Bool.false_and]), rfl⟩
  by_cases g1 : A > 65535
  · have i0 : ¬ A < 0 := by omega
    go_enter Tryz.func39, Tryz.ntmps39
    go_wp2_with fail
    go_ret
    exact ⟨ret_bb (by rw [HM.out]; rw [show decide (0 ≤ A ∧ A ≤ 65535 ∧ N ≤ 255) = false from decide_eq_false (by omega), Bool.false_and]), rfl⟩
  by_cases g2 : (N : Int) > 255
  · have i0 : ¬ A < 0 := by omega
    have i1 : ¬ A > 65535 := by omega
    go_enter Tryz.func39, Tryz.ntmps39
    go_wp2_with fail
    go_ret
    exact ⟨ret_bb (by rw [HM.out]; rw [show decide (0 ≤ A ∧ A ≤ 65535 ∧ N ≤ 255) = false from decide_eq_false (by omega), Bool.false_and]), rfl⟩
  by_cases cf1 : f = 1
  · have i0 : ¬ A < 0 := by omega
    have i1 : ¬ A > 65535 := by omega
    have i2 : ¬ (N : Int) > 255 := by omega
    by_cases ck0 : k = 0
    · have bf1 : (f == 1) = true := beq_iff_eq.2 cf1
      have bk0 : (k == 0) = true := beq_iff_eq.2 ck0
      go_enter Tryz.func39, Tryz.ntmps39
      go_wp2_with fail
      go_ret
      exact ⟨ret_bb (by rw [HM.out]; rw [show decide (0 ≤ A ∧ A ≤ 65535 ∧ N ≤ 255) = true from decide_eq_true (by omega), Bool.true_and]; rw [if_pos cf1, if_pos ck0]), rfl⟩
    by_cases ck1 : k = 1
    · by_cases ca : A = 0
      · by_cases cn : N = 0
        · have bf1 : (f == 1) = true := beq_iff_eq.2 cf1
          have bk0 : (k == 0) = false := beq_eq_false_iff_ne.2 ck0
          have bk1 : (k == 1) = true := beq_iff_eq.2 ck1
          have ba : (A == 0) = true := beq_iff_eq.2 ca
          have bn := nat_beq0 cn
          go_enter Tryz.func39, Tryz.ntmps39
          go_wp2_with fail
          go_ret
          exact ⟨ret_bb (by rw [HM.out]; rw [show decide (0 ≤ A ∧ A ≤ 65535 ∧ N ≤ 255) = true from decide_eq_true (by omega), Bool.true_and]; rw [if_pos cf1, if_neg ck0, if_pos ck1]; rw [decide_eq_true ⟨ca, by omega⟩]), rfl⟩
        · have bf1 : (f == 1) = true := beq_iff_eq.2 cf1
          have bk0 : (k == 0) = false := beq_eq_false_iff_ne.2 ck0
          have bk1 : (k == 1) = true := beq_iff_eq.2 ck1
          have ba : (A == 0) = true := beq_iff_eq.2 ca
          have bn := nat_bne0 cn
          go_enter Tryz.func39, Tryz.ntmps39
          go_wp2_with fail
          go_ret
          exact ⟨ret_bb (by rw [HM.out]; rw [show decide (0 ≤ A ∧ A ≤ 65535 ∧ N ≤ 255) = true from decide_eq_true (by omega), Bool.true_and]; rw [if_pos cf1, if_neg ck0, if_pos ck1]; rw [decide_eq_false (fun h => by omega)]), rfl⟩
      · have bf1 : (f == 1) = true := beq_iff_eq.2 cf1
        have bk0 : (k == 0) = false := beq_eq_false_iff_ne.2 ck0
        have bk1 : (k == 1) = true := beq_iff_eq.2 ck1
        have ba : (A == 0) = false := beq_eq_false_iff_ne.2 ca
        go_enter Tryz.func39, Tryz.ntmps39
        go_wp2_with fail
        go_ret
        exact ⟨ret_bb (by rw [HM.out]; rw [show decide (0 ≤ A ∧ A ≤ 65535 ∧ N ≤ 255) = true from decide_eq_true (by omega), Bool.true_and]; rw [if_pos cf1, if_neg ck0, if_pos ck1]; rw [decide_eq_false (fun h => ca h.1)]), rfl⟩
    by_cases ck3 : k = 3
    · by_cases ca : A = 0
      · by_cases cn : N = 4
        · obtain ⟨g, o, rfl, hg, c0'⟩ := H4.out 0 (by omega)
          obtain ⟨g', o', e, _, c1'⟩ := H4.out 1 (by omega)
          cases e
          rw [Nat.add_zero] at c0'
          have HU1 := hidD (u8_bq0 (d.getD 1 0))
          have HU0 := hidD (u8_bq0 (d.getD 0 0))
          clear H4
          generalize d.getD 0 0 = x at *
          generalize d.getD 1 0 = y at *
          have hx := x.toNat_lt
          have hy := y.toNat_lt
          have bn := nat_beq4 cn
          subst cn
          by_cases cx : x = 0
          · have bx : ((x.toNat : Int) == 0) = true := by rw [HU0.out, decide_eq_true cx]
            by_cases cy : y = 0
            · have by0 : ((y.toNat : Int) == 0) = true := by rw [HU1.out, decide_eq_true cy]
              have HCX := hidD cx
              have HCY := hidD cy
              clear cx cy
              have bf1 : (f == 1) = true := beq_iff_eq.2 cf1
              have bk0 : (k == 0) = false := beq_eq_false_iff_ne.2 ck0
              have bk1 : (k == 1) = false := beq_eq_false_iff_ne.2 ck1
              have bk3 : (k == 3) = true := beq_iff_eq.2 ck3
              have ba : (A == 0) = true := beq_iff_eq.2 ca
              go_enter Tryz.func39, Tryz.ntmps39
              go_wp2_with fail
              go_ret
              exact ⟨ret_bb (by rw [HM.out]; rw [show decide (0 ≤ A ∧ A ≤ 65535 ∧ 4 ≤ 255) = true from decide_eq_true (by omega), Bool.true_and]; rw [if_pos cf1, if_neg ck0, if_neg ck1, if_pos ck3]; rw [decide_eq_true ⟨ca, trivial, HCX.out, HCY.out⟩]), rfl⟩
            · have by0 : ((y.toNat : Int) == 0) = false := by rw [HU1.out, decide_eq_false cy]
              have HCX := hidD cx
              have HCY := hidD cy
              clear cx cy
              have bf1 : (f == 1) = true := beq_iff_eq.2 cf1
              have bk0 : (k == 0) = false := beq_eq_false_iff_ne.2 ck0
              have bk1 : (k == 1) = false := beq_eq_false_iff_ne.2 ck1
              have bk3 : (k == 3) = true := beq_iff_eq.2 ck3
              have ba : (A == 0) = true := beq_iff_eq.2 ca
              go_enter Tryz.func39, Tryz.ntmps39
              go_wp2_with fail
              go_ret
              exact ⟨ret_bb (by rw [HM.out]; rw [show decide (0 ≤ A ∧ A ≤ 65535 ∧ 4 ≤ 255) = true from decide_eq_true (by omega), Bool.true_and]; rw [if_pos cf1, if_neg ck0, if_neg ck1, if_pos ck3]; rw [decide_eq_false (fun h => HCY.out h.2.2.2)]), rfl⟩
          · have bx : ((x.toNat : Int) == 0) = false := by rw [HU0.out, decide_eq_false cx]
            have HCX := hidD cx
            clear cx
            have bf1 : (f == 1) = true := beq_iff_eq.2 cf1
            have bk0 : (k == 0) = false := beq_eq_false_iff_ne.2 ck0
            have bk1 : (k == 1) = false := beq_eq_false_iff_ne.2 ck1
            have bk3 : (k == 3) = true := beq_iff_eq.2 ck3
            have ba : (A == 0) = true := beq_iff_eq.2 ca
            go_enter Tryz.func39, Tryz.ntmps39
            go_wp2_with fail
            go_ret
            exact ⟨ret_bb (by rw [HM.out]; rw [show decide (0 ≤ A ∧ A ≤ 65535 ∧ 4 ≤ 255) = true from decide_eq_true (by omega), Bool.true_and]; rw [if_pos cf1, if_neg ck0, if_neg ck1, if_pos ck3]; rw [decide_eq_false (fun h => HCX.out h.2.2.1)]), rfl⟩
        · have bf1 : (f == 1) = true := beq_iff_eq.2 cf1
          have bk0 : (k == 0) = false := beq_eq_false_iff_ne.2 ck0
          have bk1 : (k == 1) = false := beq_eq_false_iff_ne.2 ck1
          have bk3 : (k == 3) = true := beq_iff_eq.2 ck3
          have ba : (A == 0) = true := beq_iff_eq.2 ca
          have bn := nat_bne4 cn
          go_enter Tryz.func39, Tryz.ntmps39
          go_wp2_with fail
          go_ret
          exact ⟨ret_bb (by rw [HM.out]; rw [show decide (0 ≤ A ∧ A ≤ 65535 ∧ N ≤ 255) = true from decide_eq_true (by omega), Bool.true_and]; rw [if_pos cf1, if_neg ck0, if_neg ck1, if_pos ck3]; rw [decide_eq_false (fun h => cn h.2.1)]), rfl⟩
      · have bf1 : (f == 1) = true := beq_iff_eq.2 cf1
        have bk0 : (k == 0) = false := beq_eq_false_iff_ne.2 ck0
        have bk1 : (k == 1) = false := beq_eq_false_iff_ne.2 ck1
        have bk3 : (k == 3) = true := beq_iff_eq.2 ck3
        have ba : (A == 0) = false := beq_eq_false_iff_ne.2 ca
        go_enter Tryz.func39, Tryz.ntmps39
        go_wp2_with fail
        go_ret
        exact ⟨ret_bb (by rw [HM.out]; rw [show decide (0 ≤ A ∧ A ≤ 65535 ∧ N ≤ 255) = true from decide_eq_true (by omega), Bool.true_and]; rw [if_pos cf1, if_neg ck0, if_neg ck1, if_pos ck3]; rw [decide_eq_false (fun h => ca h.1)]), rfl⟩
    have bf1 : (f == 1) = true := beq_iff_eq.2 cf1
    have bk0 : (k == 0) = false := beq_eq_false_iff_ne.2 ck0
    have bk1 : (k == 1) = false := beq_eq_false_iff_ne.2 ck1
    have bk3 : (k == 3) = false := beq_eq_false_iff_ne.2 ck3
    go_enter Tryz.func39, Tryz.ntmps39
    go_wp2_with fail
    go_ret
    exact ⟨ret_bb (by rw [HM.out]; rw [show decide (0 ≤ A ∧ A ≤ 65535 ∧ N ≤ 255) = true from decide_eq_true (by omega), Bool.true_and]; rw [if_pos cf1, if_neg ck0, if_neg ck1, if_neg ck3]), rfl⟩
  by_cases cf2 : f = 2
  · have i0 : ¬ A < 0 := by omega
    have i1 : ¬ A > 65535 := by omega
    have i2 : ¬ (N : Int) > 255 := by omega
    by_cases ck0 : k = 0
    · by_cases ca : A = 0
      · by_cases cn : (N : Int) ≤ 252
        · have bf1 : (f == 1) = false := beq_eq_false_iff_ne.2 cf1
          have bf2 : (f == 2) = true := beq_iff_eq.2 cf2
          have bk0 : (k == 0) = true := beq_iff_eq.2 ck0
          have ba : (A == 0) = true := beq_iff_eq.2 ca
          go_enter Tryz.func39, Tryz.ntmps39
          go_wp2_with fail
          go_ret
          exact ⟨ret_bb (by rw [HM.out]; rw [show decide (0 ≤ A ∧ A ≤ 65535 ∧ N ≤ 255) = true from decide_eq_true (by omega), Bool.true_and]; rw [if_neg cf1, if_pos cf2, if_pos ck0]; rw [decide_eq_true ⟨ca, by omega⟩]), rfl⟩
        · have bf1 : (f == 1) = false := beq_eq_false_iff_ne.2 cf1
          have bf2 : (f == 2) = true := beq_iff_eq.2 cf2
          have bk0 : (k == 0) = true := beq_iff_eq.2 ck0
          have ba : (A == 0) = true := beq_iff_eq.2 ca
          go_enter Tryz.func39, Tryz.ntmps39
          go_wp2_with fail
          go_ret
          exact ⟨ret_bb (by rw [HM.out]; rw [show decide (0 ≤ A ∧ A ≤ 65535 ∧ N ≤ 255) = true from decide_eq_true (by omega), Bool.true_and]; rw [if_neg cf1, if_pos cf2, if_pos ck0]; rw [decide_eq_false (fun h => by omega)]), rfl⟩
      · have bf1 : (f == 1) = false := beq_eq_false_iff_ne.2 cf1
        have bf2 : (f == 2) = true := beq_iff_eq.2 cf2
        have bk0 : (k == 0) = true := beq_iff_eq.2 ck0
        have ba : (A == 0) = false := beq_eq_false_iff_ne.2 ca
        go_enter Tryz.func39, Tryz.ntmps39
        go_wp2_with fail
        go_ret
        exact ⟨ret_bb (by rw [HM.out]; rw [show decide (0 ≤ A ∧ A ≤ 65535 ∧ N ≤ 255) = true from decide_eq_true (by omega), Bool.true_and]; rw [if_neg cf1, if_pos cf2, if_pos ck0]; rw [decide_eq_false (fun h => ca h.1)]), rfl⟩
    by_cases ck1 : k = 1
    · by_cases cn : (N : Int) ≤ 252
      · have bf1 : (f == 1) = false := beq_eq_false_iff_ne.2 cf1
        have bf2 : (f == 2) = true := beq_iff_eq.2 cf2
        have bk0 : (k == 0) = false := beq_eq_false_iff_ne.2 ck0
        have bk1 : (k == 1) = true := beq_iff_eq.2 ck1
        go_enter Tryz.func39, Tryz.ntmps39
        go_wp2_with fail
        go_ret
        exact ⟨ret_bb (by rw [HM.out]; rw [show decide (0 ≤ A ∧ A ≤ 65535 ∧ N ≤ 255) = true from decide_eq_true (by omega), Bool.true_and]; rw [if_neg cf1, if_pos cf2, if_neg ck0, if_pos ck1]; rw [decide_eq_true (by omega)]), rfl⟩
      · have bf1 : (f == 1) = false := beq_eq_false_iff_ne.2 cf1
        have bf2 : (f == 2) = true := beq_iff_eq.2 cf2
        have bk0 : (k == 0) = false := beq_eq_false_iff_ne.2 ck0
        have bk1 : (k == 1) = true := beq_iff_eq.2 ck1
        go_enter Tryz.func39, Tryz.ntmps39
        go_wp2_with fail
        go_ret
        exact ⟨ret_bb (by rw [HM.out]; rw [show decide (0 ≤ A ∧ A ≤ 65535 ∧ N ≤ 255) = true from decide_eq_true (by omega), Bool.true_and]; rw [if_neg cf1, if_pos cf2, if_neg ck0, if_pos ck1]; rw [decide_eq_false (by omega)]), rfl⟩
    by_cases ck5 : k = 5
    · by_cases cn : N = 0
      · have bf1 : (f == 1) = false := beq_eq_false_iff_ne.2 cf1
        have bf2 : (f == 2) = true := beq_iff_eq.2 cf2
        have bk0 : (k == 0) = false := beq_eq_false_iff_ne.2 ck0
        have bk1 : (k == 1) = false := beq_eq_false_iff_ne.2 ck1
        have bk5 : (k == 5) = true := beq_iff_eq.2 ck5
        have bn := nat_beq0 cn
        go_enter Tryz.func39, Tryz.ntmps39
        go_wp2_with fail
        go_ret
        exact ⟨ret_bb (by rw [HM.out]; rw [show decide (0 ≤ A ∧ A ≤ 65535 ∧ N ≤ 255) = true from decide_eq_true (by omega), Bool.true_and]; rw [if_neg cf1, if_pos cf2, if_neg ck0, if_neg ck1, if_pos (.inl ck5)]; rw [decide_eq_true cn]), rfl⟩
      · have bf1 : (f == 1) = false := beq_eq_false_iff_ne.2 cf1
        have bf2 : (f == 2) = true := beq_iff_eq.2 cf2
        have bk0 : (k == 0) = false := beq_eq_false_iff_ne.2 ck0
        have bk1 : (k == 1) = false := beq_eq_false_iff_ne.2 ck1
        have bk5 : (k == 5) = true := beq_iff_eq.2 ck5
        have bn := nat_bne0 cn
        go_enter Tryz.func39, Tryz.ntmps39
        go_wp2_with fail
        go_ret
        exact ⟨ret_bb (by rw [HM.out]; rw [show decide (0 ≤ A ∧ A ≤ 65535 ∧ N ≤ 255) = true from decide_eq_true (by omega), Bool.true_and]; rw [if_neg cf1, if_pos cf2, if_neg ck0, if_neg ck1, if_pos (.inl ck5)]; rw [decide_eq_false cn]), rfl⟩
    by_cases ck9 : k = 9
    · by_cases cn : N = 0
      · have bf1 : (f == 1) = false := beq_eq_false_iff_ne.2 cf1
        have bf2 : (f == 2) = true := beq_iff_eq.2 cf2
        have bk0 : (k == 0) = false := beq_eq_false_iff_ne.2 ck0
        have bk1 : (k == 1) = false := beq_eq_false_iff_ne.2 ck1
        have bk5 : (k == 5) = false := beq_eq_false_iff_ne.2 ck5
        have bk9 : (k == 9) = true := beq_iff_eq.2 ck9
        have bn := nat_beq0 cn
        go_enter Tryz.func39, Tryz.ntmps39
        go_wp2_with fail
        go_ret
        exact ⟨ret_bb (by rw [HM.out]; rw [show decide (0 ≤ A ∧ A ≤ 65535 ∧ N ≤ 255) = true from decide_eq_true (by omega), Bool.true_and]; rw [if_neg cf1, if_pos cf2, if_neg ck0, if_neg ck1, if_pos (.inr ck9)]; rw [decide_eq_true cn]), rfl⟩
      · have bf1 : (f == 1) = false := beq_eq_false_iff_ne.2 cf1
        have bf2 : (f == 2) = true := beq_iff_eq.2 cf2
        have bk0 : (k == 0) = false := beq_eq_false_iff_ne.2 ck0
        have bk1 : (k == 1) = false := beq_eq_false_iff_ne.2 ck1
        have bk5 : (k == 5) = false := beq_eq_false_iff_ne.2 ck5
        have bk9 : (k == 9) = true := beq_iff_eq.2 ck9
        have bn := nat_bne0 cn
        go_enter Tryz.func39, Tryz.ntmps39
        go_wp2_with fail
        go_ret
        exact ⟨ret_bb (by rw [HM.out]; rw [show decide (0 ≤ A ∧ A ≤ 65535 ∧ N ≤ 255) = true from decide_eq_true (by omega), Bool.true_and]; rw [if_neg cf1, if_pos cf2, if_neg ck0, if_neg ck1, if_pos (.inr ck9)]; rw [decide_eq_false cn]), rfl⟩
    have bf1 : (f == 1) = false := beq_eq_false_iff_ne.2 cf1
    have bf2 : (f == 2) = true := beq_iff_eq.2 cf2
    have bk0 : (k == 0) = false := beq_eq_false_iff_ne.2 ck0
    have bk1 : (k == 1) = false := beq_eq_false_iff_ne.2 ck1
    have bk5 : (k == 5) = false := beq_eq_false_iff_ne.2 ck5
    have bk9 : (k == 9) = false := beq_eq_false_iff_ne.2 ck9
    go_enter Tryz.func39, Tryz.ntmps39
    go_wp2_with fail
    go_ret
    exact ⟨ret_bb (by rw [HM.out]; rw [show decide (0 ≤ A ∧ A ≤ 65535 ∧ N ≤ 255) = true from decide_eq_true (by omega), Bool.true_and]; rw [if_neg cf1, if_pos cf2, if_neg ck0, if_neg ck1, if_neg (fun h => h.elim ck5 ck9)]), rfl⟩
  by_cases cf3 : f = 3
  · have i0 : ¬ A < 0 := by omega
    have i1 : ¬ A > 65535 := by omega
    have i2 : ¬ (N : Int) > 255 := by omega
    by_cases ck0 : k = 0
    · by_cases cn : (N : Int) > 0
      · have bf1 : (f == 1) = false := beq_eq_false_iff_ne.2 cf1
        have bf2 : (f == 2) = false := beq_eq_false_iff_ne.2 cf2
        have bf3 : (f == 3) = true := beq_iff_eq.2 cf3
        have bk0 : (k == 0) = true := beq_iff_eq.2 ck0
        go_enter Tryz.func39, Tryz.ntmps39
        go_wp2_with fail
        go_ret
        exact ⟨ret_bb (by rw [HM.out]; rw [show decide (0 ≤ A ∧ A ≤ 65535 ∧ N ≤ 255) = true from decide_eq_true (by omega), Bool.true_and]; rw [if_neg cf1, if_neg cf2, if_pos cf3, if_pos ck0]), rfl⟩
      · have bf1 : (f == 1) = false := beq_eq_false_iff_ne.2 cf1
        have bf2 : (f == 2) = false := beq_eq_false_iff_ne.2 cf2
        have bf3 : (f == 3) = true := beq_iff_eq.2 cf3
        have bk0 : (k == 0) = true := beq_iff_eq.2 ck0
        go_enter Tryz.func39, Tryz.ntmps39
        go_wp2_with fail
        go_ret
        exact ⟨ret_bb (by rw [HM.out]; rw [show decide (0 ≤ A ∧ A ≤ 65535 ∧ N ≤ 255) = true from decide_eq_true (by omega), Bool.true_and]; rw [if_neg cf1, if_neg cf2, if_pos cf3, if_pos ck0]), rfl⟩
    by_cases ck1 : k = 1
    · by_cases cn : N = 0
      · have bf1 : (f == 1) = false := beq_eq_false_iff_ne.2 cf1
        have bf2 : (f == 2) = false := beq_eq_false_iff_ne.2 cf2
        have bf3 : (f == 3) = true := beq_iff_eq.2 cf3
        have bk0 : (k == 0) = false := beq_eq_false_iff_ne.2 ck0
        have bk1 : (k == 1) = true := beq_iff_eq.2 ck1
        have bn := nat_beq0 cn
        go_enter Tryz.func39, Tryz.ntmps39
        go_wp2_with fail
        go_ret
        exact ⟨ret_bb (by rw [HM.out]; rw [show decide (0 ≤ A ∧ A ≤ 65535 ∧ N ≤ 255) = true from decide_eq_true (by omega), Bool.true_and]; rw [if_neg cf1, if_neg cf2, if_pos cf3, if_neg ck0, if_pos ck1]; rw [decide_eq_true cn]), rfl⟩
      · have bf1 : (f == 1) = false := beq_eq_false_iff_ne.2 cf1
        have bf2 : (f == 2) = false := beq_eq_false_iff_ne.2 cf2
        have bf3 : (f == 3) = true := beq_iff_eq.2 cf3
        have bk0 : (k == 0) = false := beq_eq_false_iff_ne.2 ck0
        have bk1 : (k == 1) = true := beq_iff_eq.2 ck1
        have bn := nat_bne0 cn
        go_enter Tryz.func39, Tryz.ntmps39
        go_wp2_with fail
        go_ret
        exact ⟨ret_bb (by rw [HM.out]; rw [show decide (0 ≤ A ∧ A ≤ 65535 ∧ N ≤ 255) = true from decide_eq_true (by omega), Bool.true_and]; rw [if_neg cf1, if_neg cf2, if_pos cf3, if_neg ck0, if_pos ck1]; rw [decide_eq_false cn]), rfl⟩
    have bf1 : (f == 1) = false := beq_eq_false_iff_ne.2 cf1
    have bf2 : (f == 2) = false := beq_eq_false_iff_ne.2 cf2
    have bf3 : (f == 3) = true := beq_iff_eq.2 cf3
    have bk0 : (k == 0) = false := beq_eq_false_iff_ne.2 ck0
    have bk1 : (k == 1) = false := beq_eq_false_iff_ne.2 ck1
    go_enter Tryz.func39, Tryz.ntmps39
    go_wp2_with fail
    go_ret
    exact ⟨ret_bb (by rw [HM.out]; rw [show decide (0 ≤ A ∧ A ≤ 65535 ∧ N ≤ 255) = true from decide_eq_true (by omega), Bool.true_and]; rw [if_neg cf1, if_neg cf2, if_pos cf3, if_neg ck0, if_neg ck1]), rfl⟩
  have i0 : ¬ A < 0 := by omega
  have i1 : ¬ A > 65535 := by omega
  have i2 : ¬ (N : Int) > 255 := by omega
  have bf1 : (f == 1) = false := beq_eq_false_iff_ne.2 cf1
  have bf2 : (f == 2) = false := beq_eq_false_iff_ne.2 cf2
  have bf3 : (f == 3) = false := beq_eq_false_iff_ne.2 cf3
  go_enter Tryz.func39, Tryz.ntmps39
  go_wp2_with fail
  go_ret
  exact ⟨ret_bb (by rw [HM.out]; rw [show decide (0 ≤ A ∧ A ≤ 65535 ∧ N ≤ 255) = true from decide_eq_true (by omega), Bool.true_and]; rw [if_neg cf1, if_neg cf2, if_neg cf3]), rfl⟩
end Go.Proofs.YtpemajghaceegaaGreatDoor
