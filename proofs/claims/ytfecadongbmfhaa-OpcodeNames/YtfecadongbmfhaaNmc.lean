/- What the document's Code answers. -/
import Derived.Test.YtfecadongbmfhaaCnt
import Derived.Test.YtfecadongbmfhaaRfw
namespace Go.Proofs.Ytfecadongbmfhaa
open Go.RowKit
set_option linter.unusedVariables false

/- the first byte that is the text with the mode; 256 of none -/
def rcS (s : List UInt8) (x : Int) : Nat := if fiS s = 0 then 256 else coS (fiS s) x
theorem rc_spec (s : List UInt8) (x : Int) : rcS s x ≤ 256 ∧ (∀ i, i < rcS s x → (inS i).1 ≠ 0 → nmS (inS i).1 = s → ((inS i).2 : Int) = x → False) ∧ (rcS s x < 256 → (inS (rcS s x)).1 ≠ 0 ∧ nmS (inS (rcS s x)).1 = s ∧ ((inS (rcS s x)).2 : Int) = x) := by
  obtain ⟨h1, h2, h3⟩ := co_spec (fiS s) x 256
  rw [show coA (fiS s) x 256 = coS (fiS s) x from rfl] at h1 h2 h3
  unfold rcS
  by_cases h0 : fiS s = 0
  · rw [if_pos h0]
    refine ⟨Nat.le_refl _, fun i hi hm hn _ => ?_, fun h => absurd h (Nat.lt_irrefl _)⟩
    exact fi_none h0 _ (in_lt i hi).1 (by omega) hn
  · rw [if_neg h0]
    refine ⟨h1, fun i hi hm hn hx => ?_, fun h => ?_⟩
    · have : fiS s = (inS i).1 := by rw [← hn]; exact fi_of _ (in_lt i (by omega)).1 (by omega)
      exact h2 i hi ⟨this.symm, hx⟩
    · obtain ⟨a, b⟩ := h3 h
      exact ⟨by rw [a]; exact h0, by rw [a]; exact fi_name h0, b⟩
theorem rc_val (s : List UInt8) (x : Int) : coV (fiS s) x = if rcS s x = 256 then .tuple #[.int .u8 0, .bool false] else .tuple #[.int .u8 (rcS s x : Int), .bool true] := by
  unfold coV rcS
  by_cases h0 : fiS s = 0
  · rw [if_pos (Or.inl h0), if_pos h0, if_pos rfl]
  · rw [if_neg h0]
    by_cases h : coS (fiS s) x = 256
    · rw [if_pos (Or.inr h), if_pos h]
    · rw [if_neg (by omega), if_neg h]
theorem un_bool' {b : Bool} (h : some undef = some (Value.bool b)) : False := by simp [undef] at h
set_option maxRecDepth 100000 in
set_option maxHeartbeats 3200000 in
theorem refCode_any (s : List UInt8) (x : Int) (w : World) : Calls Try.prog 21 #[.string (bA s), .int .i64 x] w fun e w' => e = .returned (coV (fiS s) x) ∧ Below w.heap.size w w' := by
  obtain ⟨hA, hb, hc⟩ := rc_spec s x
  have HN := hidD hb
  have HM := hidD hc
  have HV := hidD (rc_val s x)
  have HW : Hid (Below w.heap.size w w) := Below.refl _ _
  clear hb hc
  generalize rcS s x = A at *
  generalize coV (fiS s) x = V at *
  go_enter Try.func21, Try.ntmps21
  go_wp2_with fail
  go_loopw [6, 7, 8, 9] (fun i _ _ _ wr => ∃ k : Nat, k ≤ A ∧ i = .int .i64 k ∧ Below w.heap.size w wr) (fun i _ _ _ _ => 256 - (intOf i).toNat)
  case atStart => exact ⟨0, Nat.zero_le _, rfl, HW.out⟩
  case round =>
    obtain ⟨k, hk, rfl, hbel⟩ := hrel
    have HBL := hidD hbel
    clear hbel
    by_cases hlt : k < 256
    · have hlti : (k : Int) < 256 := by omega
      by_cases h0 : (inS k).1 = 0
      · have HO := hidD (fun w => rof_no hlt h0 w)
        have hkA : Hid (k < A) := by
          show k < A
          rcases Nat.lt_or_ge k A with h | h
          · exact h
          · obtain rfl : k = A := by omega
            exact absurd h0 (HM.out hlt).1
        clear HV
        go_wp2_with (go_at_call 15; refine (HO.out _).mono ?_; rintro e w2 ⟨rfl, b2⟩)
        all_goals first | exact (un_bool' (by assumption)).elim | skip
        go_roundw
        case rel => exact ⟨k + 1, hkA.out, by go_num, Below.next HBL.out b2⟩
        case measure => simp [intOf]; omega
      · have HO := hidD (fun w => rof_ins hlt h0 w)
        have hbq := bA_beq2 (nmS (inS k).1) s
        by_cases hn : nmS (inS k).1 = s
        · rw [beq_iff_eq.2 hn] at hbq
          by_cases hx : ((inS k).2 : Int) = x
          · have hkA : Hid (k = A) := by
              show k = A
              rcases Nat.lt_or_ge k A with h | h
              · exact absurd hx (HN.out k h h0 hn)
              · omega
            have hV := HV.out
            rw [if_neg (by have := hkA.out; omega), ← hkA.out] at hV
            subst hV
            clear HV HN HM
            rw [hx] at HO
            have hxx : (x == x) = true := beq_self_eq_true _
            generalize bA (nmS (inS k).1) = NM at *
            generalize bA s = SS at *
            clear hx
            go_wp2_with (go_at_call 15; refine (HO.out _).mono ?_; rintro e w2 ⟨rfl, b2⟩)
            all_goals first | exact (un_bool' (by assumption)).elim | skip
            go_ret2
            exact ⟨rfl, Below.next HBL.out b2⟩
          · have hkA : Hid (k < A) := by
              show k < A
              rcases Nat.lt_or_ge k A with h | h
              · exact h
              · obtain rfl : k = A := by omega
                exact absurd (HM.out hlt).2.2 hx
            have hxb : (((inS k).2 : Int) == x) = false := beq_eq_false_iff_ne.2 hx
            clear HV HN HM
            generalize ((inS k).2 : Int) = K at *
            generalize bA (nmS (inS k).1) = NM at *
            generalize bA s = SS at *
            go_wp2_with (go_at_call 15; refine (HO.out _).mono ?_; rintro e w2 ⟨rfl, b2⟩)
            all_goals first | exact (un_bool' (by assumption)).elim | skip
            go_roundw
            case rel => exact ⟨k + 1, hkA.out, by go_num, Below.next HBL.out b2⟩
            case measure => simp [intOf]; omega
        · have hkA : Hid (k < A) := by
            show k < A
            rcases Nat.lt_or_ge k A with h | h
            · exact h
            · obtain rfl : k = A := by omega
              exact absurd (HM.out hlt).2.1 hn
          rw [beq_eq_false_iff_ne.2 hn] at hbq
          clear HV HN HM
          generalize ((inS k).2 : Int) = K at *
          generalize bA (nmS (inS k).1) = NM at *
          generalize bA s = SS at *
          go_wp2_with (go_at_call 15; refine (HO.out _).mono ?_; rintro e w2 ⟨rfl, b2⟩)
          all_goals first | exact (un_bool' (by assumption)).elim | skip
          go_roundw
          case rel => exact ⟨k + 1, hkA.out, by go_num, Below.next HBL.out b2⟩
          case measure => simp [intOf]; omega
    · have hV := HV.out
      rw [if_pos (by omega)] at hV
      subst hV
      clear HV HN HM
      go_wp2_with fail
      go_ret2
      exact ⟨rfl, HBL.out⟩
end Go.Proofs.Ytfecadongbmfhaa
