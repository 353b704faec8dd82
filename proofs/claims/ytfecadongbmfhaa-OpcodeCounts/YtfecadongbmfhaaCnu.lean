/- OpcodeCounts: for every mode the law returns true. -/
import Derived.Test.YtfecadongbmfhaaCnt
import Derived.Laws.Cover1
import Derived.Deep.CutRange
namespace Go.Proofs.Ytfecadongbmfhaa
open Go.RowKit
set_option linter.unusedVariables false

theorem un_bool {b : Bool} (h : some undef = some (Value.bool b)) : False := by simp [undef] at h
set_option maxRecDepth 100000 in
set_option maxHeartbeats 40000000 in
theorem counts_any (x : Int) (w : World) : Calls Try.prog 8 #[.int .i64 x] w fun e w' => e = .returned (.bool true) ∧ Below w.heap.size w w' := by
  have HL : Hid (∀ w, Calls Try.prog 13 #[] w fun e w' => e = .returned (.bool true) ∧ Below w.heap.size w w') := fun w => live_any w
  have HW : Hid (∀ w, Calls Try.prog 35 #[.int .i64 x] w fun e w' => e = .returned (.tuple #[.int .i64 (wiS x), .bool (wiB x)]) ∧ w' = w) := fun w => wide_any x w
  have HM : Hid (∀ w, Calls Try.prog 22 #[] w fun e w' => ∃ g, e = .returned (.slice (some ⟨g, 0, none⟩) 56 56) ∧ w.heap.size ≤ g ∧ RowT w' g 56 (mnF 56) ∧ Below w.heap.size w w') := fun w => mnemonics_any w
  have HC : Hid (∀ k : Nat, k < 56 → ∃ c : Nat, ∀ w, Calls Try.prog 20 #[.string (bA (nmS (k + 1))), .int .i64 x] w fun e w' => e = .returned (.tuple #[.int .u8 (c : Int), .bool (hcS (k + 1) x)]) ∧ Below w.heap.size w w') := fun k hk => code_has k hk x
  have HD : Hid (∀ k : Nat, k < 56 → ∃ c : Nat, ∀ w, Calls Try.prog 20 #[.string (bA (nmS (k + 1))), .int .i64 (wiS x)] w fun e w' => e = .returned (.tuple #[.int .u8 (c : Int), .bool (hcS (k + 1) (wiS x))]) ∧ Below w.heap.size w w') := fun k hk => code_has k hk (wiS x)
  have HX : Hid (∀ f, wiB x = true → hcS f x = true → hcS f (wiS x) = false → (f = 49 ∧ x = 5) ∨ (f = 50 ∧ x = 4)) := fun f => wide_ok f x
  generalize wiS x = y at *
  generalize wiB x = I at *
  go_enter Try.func8, Try.ntmps8
  go_wp2_with (go_at_call 13; refine (HL.out _).mono ?_; rintro e w1 ⟨rfl, b1⟩)
  have HB1 := hidD b1
  clear b1 HL
  go_loopw [3, 4, 5, 6, 7] (fun n i _ _ _ wr => ∃ k : Nat, k ≤ 256 ∧ i = .int .i64 k ∧ n = .int .i64 (cnS k : Nat) ∧ Below w.heap.size w wr) (fun _ i _ _ _ _ => 256 - (intOf i).toNat)
  case atStart => exact ⟨0, Nat.zero_le _, rfl, rfl, HB1.out⟩
  case round =>
    obtain ⟨k, hk, rfl, rfl, hbel⟩ := hrel
    have HBL := hidD hbel
    have hcn := cn_le k
    clear hbel HB1
    by_cases hlt : k < 256
    · have hlti : (k : Int) < 256 := by omega
      clear HM HC HD HX HW
      by_cases h0 : (inS k).1 = 0
      · have HO := hidD (fun w => of_no hlt h0 w)
        have HN : Hid (cnS (k + 1) = cnS k) := by show _ = _; rw [cnS, if_pos h0]; rfl
        generalize hcc : cnS k = c at *
        go_wp2_with (go_at_call 14; refine (HO.out _).mono ?_; rintro e w2 ⟨rfl, b2⟩)
        go_roundw
        case rel => exact ⟨k + 1, by omega, by go_num, by rw [HN.out], Below.next HBL.out b2⟩
        case measure => simp [intOf]; omega
      · have HO := hidD (fun w => of_ins hlt h0 w)
        have HG : Hid (∀ w, Calls Try.prog 26 #[.string (bA (nmS (inS k).1))] w fun e w' => e = .returned (.int .i64 (clS (inS k).1 : Int)) ∧ Below w.heap.size w w') := fun w => by
          have hm := (in_lt k hlt).1
          have := class_any (nmS (inS k).1) (by rw [nm_len _ hm (by omega)]; decide) w
          rw [fi_of _ hm (by omega)] at this
          exact this
        have HN : Hid (cnS (k + 1) = cnS k + 1) := by show _ = _; rw [cnS, if_neg h0]
        have hr := rel_br k hlt h0
        generalize bA (nmS (inS k).1) = NM at *
        generalize (clS (inS k).1 : Int) = C at *
        generalize ((inS k).2 : Int) = K at *
        generalize hcc : cnS k = c at *
        cases hK : (K == 12)
        all_goals
          rw [hK] at hr
          go_wp2_with (first | (go_at_call 26; refine (HG.out _).mono ?_; rintro e w3 ⟨rfl, b3⟩) | (go_at_call 14; refine (HO.out _).mono ?_; rintro e w2 ⟨rfl, b2⟩))
          go_roundw
          case rel => exact ⟨k + 1, by omega, by go_num, by rw [HN.out]; go_num, Below.next (Below.next HBL.out b2) b3⟩
          case measure => simp [intOf]; omega
    · obtain rfl : k = 256 := by omega
      rw [cn_all]
      clear hcn hlt hk
      go_wp2_with (first | (go_at_call 35; refine (HW.out _).mono ?_; rintro e w3 ⟨rfl, rfl⟩) | (go_at_call 22; refine (HM.out _).mono ?_; rintro e w2 ⟨g, rfl, hg, hrt, b2⟩))
      have HRT := hidD hrt
      have HL1 := hidD (Below.next HBL.out b2)
      clear hrt b2 hg HBL HM HW
      go_loopw [11, 12, 13, 14, 15, 16] (fun i _ _ _ _ _ wr => ∃ k : Nat, k ≤ 56 ∧ i = .int .i64 k ∧ RowT wr g 56 (mnF 56) ∧ Below w.heap.size w wr) (fun i _ _ _ _ _ _ => 56 - (intOf i).toNat)
      case atStart => exact ⟨0, Nat.zero_le _, rfl, HRT.out, HL1.out⟩
      case round =>
        obtain ⟨k, hk, rfl, hrt, hbel⟩ := hrel
        have HRW := hidD hrt
        have HBL := hidD hbel
        clear hrt hbel HRT HL1
        by_cases hlt : k < 56
        · have hlti : (k : Int) < 56 := by omega
          obtain ⟨cc, hC1⟩ := HC.out k hlt
          obtain ⟨cd, hD1⟩ := HD.out k hlt
          have HC1 := hidD hC1
          have HD1 := hidD hD1
          have c1 : wr.cell? ⟨g, k, none⟩ = some (.string (bA (nmS (k + 1)))) := by rw [HRW.out.cell hlt]; unfold mnF; rw [if_pos hlt]
          have q1 : ((bA (nmS (k + 1))).toList == [83, 84, 88]) = (k + 1 == 49) := by rw [bA_list]; exact is_stx (k + 1) (by omega)
          have q2 : ((bA (nmS (k + 1))).toList == [83, 84, 89]) = (k + 1 == 50) := by rw [bA_list]; exact is_sty (k + 1) (by omega)
          have HF : Hid ((I && hcS (k + 1) x && !hcS (k + 1) y) = true → ((k + 1 == 49) = true ∧ (x == 5) = true) ∨ ((k + 1 == 49) = false ∧ (k + 1 == 50) = true ∧ (x == 4) = true)) := fun h => by
            simp only [Bool.and_eq_true, Bool.not_eq_true'] at h
            rcases HX.out (k + 1) h.1.1 h.1.2 h.2 with ⟨a, b⟩ | ⟨a, b⟩
            · exact .inl ⟨beq_iff_eq.2 a, beq_iff_eq.2 b⟩
            · exact .inr ⟨beq_eq_false_iff_ne.2 (by omega), beq_iff_eq.2 a, beq_iff_eq.2 b⟩
          have hn49 : Hid ((k + 1 == 49) = true → (k + 1 == 50) = false) := fun h => beq_eq_false_iff_ne.2 (by have := beq_iff_eq.1 h; omega)
          clear HC HD HX hC1 hD1
          have hKX : Hid True := trivial
          generalize hH : hcS (k + 1) x = H at *
          generalize hA : hcS (k + 1) y = A at *
          clear hH hA
          generalize (k + 1 == 49) = T1 at *
          generalize (k + 1 == 50) = T2 at *
          generalize p5 : (x == 5) = X5 at *
          generalize p4 : (x == 4) = X4 at *
          have hR : I = false ∨ (I = true ∧ H = false) ∨ (I = true ∧ H = true ∧ A = true) ∨ (I = true ∧ H = true ∧ A = false) := by cases I <;> cases H <;> cases A <;> simp
          have hB : (T1 = true ∧ X5 = true) ∨ (T1 = true ∧ X5 = false ∧ T2 = false) ∨ (T1 = false ∧ T2 = true ∧ X4 = true) ∨ (T1 = false ∧ T2 = true ∧ X4 = false) ∨ (T1 = false ∧ T2 = false) := by have := hn49.out; cases T1 <;> cases X5 <;> cases T2 <;> cases X4 <;> simp_all
          clear hn49
          have HE : Hid (∀ w2 : World, Below wr.heap.size wr w2 → w2.cell? ⟨g, k, none⟩ = some (.string (bA (nmS (k + 1)))) ∧ w2.cell? ⟨g, k - 1, none⟩ = some (.string (bA (nmS (k - 1 + 1))))) := fun w2 hb => ⟨by rw [hb.cell (p := ⟨g, k, none⟩) HRW.out.lt]; exact c1, by rw [hb.cell (p := ⟨g, k - 1, none⟩) HRW.out.lt, HRW.out.cell (by omega)]; unfold mnF; rw [if_pos (by omega)]⟩
          have HLS : Hid (0 < k → Op.bytesLess (bA (nmS (k - 1 + 1))).toList (bA (nmS (k + 1))).toList = true) := fun h0 => by rw [bA_list, bA_list]; have := nm_rise (k - 1) (by omega); rwa [show k - 1 + 2 = k + 1 by omega] at this
          generalize bA (nmS (k + 1)) = NM at *
          generalize bA (nmS (k - 1 + 1)) = NL at *
          have HCS : Hid (T1 = T1) := rfl
          go_upto_region 19 with (first | (go_at_call 20; have := b3; clear this; refine (HD1.out _).mono ?_; clear HD1; rintro e w4 ⟨rfl, b4⟩; obtain ⟨c3, c4⟩ := HE.out _ (Below.next b3 b4); have HC4 := hidD c4; clear c4 c2) | (go_at_call 20; refine (HC1.out _).mono ?_; clear HC1; rintro e w3 ⟨rfl, b3⟩; obtain ⟨c2, c2'⟩ := HE.out _ b3; clear c2' c1))
          go_cut [16] from 46 to 117 (fun s16 wx => s16 = .bool (T1 && X5 || T2 && X4) ∧ wx = w4)
          case first =>
            clear HF hR HLS
            rcases hB with ⟨rfl, rfl⟩ | ⟨rfl, rfl, rfl⟩ | ⟨rfl, rfl, rfl⟩ | ⟨rfl, rfl, rfl⟩ | ⟨rfl, rfl⟩
            all_goals
              go_wp2_with fail
              all_goals first | exact (un_bool (by assumption)).elim | skip
              go_meet
              case rel => exact ⟨by simp, rfl⟩
          case rest =>
            obtain ⟨rfl, rfl⟩ := hcut
            have HF2 : Hid ((I && H && !A) = true → (T1 && X5 || T2 && X4) = true) := fun h => by
              rcases HF.out h with ⟨rfl, rfl⟩ | ⟨rfl, rfl, rfl⟩ <;> simp
            clear HF hB q1 q2 p5 p4
            generalize (T1 && X5 || T2 && X4) = B at *
            by_cases h0 : k = 0
            · subst h0
              clear HLS HE HC4
              rcases hR with rfl | ⟨rfl, rfl⟩ | ⟨rfl, rfl, rfl⟩ | ⟨rfl, rfl, rfl⟩
              · clear HF2
                go_wp2_with fail
                go_quiet (fail)
                go_wp2_with fail
                go_roundw
                case rel => exact ⟨1, by omega, rfl, HRW.out.next (Below.next b3 (below_drewN b4 _)), Below.next HBL.out (Below.next b3 (below_drewN b4 _))⟩
                case measure => simp [intOf]
              · clear HF2
                go_wp2_with fail
                go_quiet (fail)
                go_wp2_with fail
                go_roundw
                case rel => exact ⟨1, by omega, rfl, HRW.out.next (Below.next b3 (below_drewN b4 _)), Below.next HBL.out (Below.next b3 (below_drewN b4 _))⟩
                case measure => simp [intOf]
              · clear HF2
                go_wp2_with fail
                go_quiet (fail)
                go_wp2_with fail
                go_roundw
                case rel => exact ⟨1, by omega, rfl, HRW.out.next (Below.next b3 (below_drewN b4 _)), Below.next HBL.out (Below.next b3 (below_drewN b4 _))⟩
                case measure => simp [intOf]
              · obtain rfl := HF2.out rfl
                clear HF2
                go_wp2_with fail
                go_quiet (fail)
                go_wp2_with fail
                go_roundw
                case rel => exact ⟨1, by omega, rfl, HRW.out.next (Below.next b3 (below_drewN b4 _)), Below.next HBL.out (Below.next b3 (below_drewN b4 _))⟩
                case measure => simp [intOf]
            · have hpos : (0 : Int) < (k : Int) := by omega
              have hposd : decide ((0 : Int) < (k : Int)) = true := decide_eq_true hpos
              have hposn : 0 < k := by omega
              have em : (k : Int) - 1 = ((k - 1 : Nat) : Int) := by omega
              have hls := HLS.out hposn
              have c4 := HC4.out
              clear HLS HC4 HE
              have hk1 : k - 1 < 56 := by omega
              generalize hjj : k - 1 = j at *
              have HJJ := hidD hjj
              clear hjj
              rcases hR with rfl | ⟨rfl, rfl⟩ | ⟨rfl, rfl, rfl⟩ | ⟨rfl, rfl, rfl⟩
              · clear HF2
                go_wp2_with fail
                go_quiet (fail)
                go_wp2_with fail
                go_roundw
                case rel => exact ⟨k + 1, by omega, by go_num, HRW.out.next (Below.next b3 (below_drewN b4 _)), Below.next HBL.out (Below.next b3 (below_drewN b4 _))⟩
                case measure => simp [intOf]; omega
              · clear HF2
                go_wp2_with fail
                go_quiet (fail)
                go_wp2_with fail
                go_roundw
                case rel => exact ⟨k + 1, by omega, by go_num, HRW.out.next (Below.next b3 (below_drewN b4 _)), Below.next HBL.out (Below.next b3 (below_drewN b4 _))⟩
                case measure => simp [intOf]; omega
              · clear HF2
                go_wp2_with fail
                go_quiet (fail)
                go_wp2_with fail
                go_roundw
                case rel => exact ⟨k + 1, by omega, by go_num, HRW.out.next (Below.next b3 (below_drewN b4 _)), Below.next HBL.out (Below.next b3 (below_drewN b4 _))⟩
                case measure => simp [intOf]; omega
              · obtain rfl := HF2.out rfl
                clear HF2
                go_wp2_with fail
                go_quiet (fail)
                go_wp2_with fail
                go_roundw
                case rel => exact ⟨k + 1, by omega, by go_num, HRW.out.next (Below.next b3 (below_drewN b4 _)), Below.next HBL.out (Below.next b3 (below_drewN b4 _))⟩
                case measure => simp [intOf]; omega
        · obtain rfl : k = 56 := by omega
          clear HC HD HX
          go_wp2_with fail
          go_ret
          exact ⟨rfl, HBL.out⟩
end Go.Proofs.Ytfecadongbmfhaa
