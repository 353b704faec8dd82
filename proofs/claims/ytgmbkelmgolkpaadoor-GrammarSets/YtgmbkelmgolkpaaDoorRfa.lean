/- The document's Name and at. -/
import Derived.Test.YtgmbkelmgolkpaaDoorGs
namespace Go.Proofs.YtgmbkelmgolkpaaDoor
open Go.RowKit
set_option linter.unusedVariables false

set_option maxRecDepth 100000 in
set_option maxHeartbeats 1600000 in
theorem refName_any (l : Tx) (w : World) (hl : l.length ≤ maxLen) : Calls Tryd.prog 45 #[encT l] w fun e w' => e = .returned (.bool (nmS l)) ∧ w' = w := by
  unfold maxLen at hl
  unfold encT
  have HSZ := hidD (ba_size l)
  have HBG := hidD (fun k h => ba_get l k h)
  have HBE : Hid (∀ m : Tx, ((bA l).toList = m) ↔ l = m) := fun m => by rw [ba_list]
  have hl2 : (bA l).size ≤ 9223372036854775807 := by rw [HSZ.out]; omega
  generalize (bA l) = b at *
  by_cases h1 : (b.size : Int) < 1
  · have HF : Hid (nmS l = false) := by have := HSZ.out; show _ = _; unfold nmS; rw [decide_eq_false (p := 1 ≤ l.length) (by omega)]; rfl
    clear hl
    go_enter Tryd.func45, Tryd.ntmps45
    go_wp2
    go_ret
    exact ⟨ret_bool HF.out.symm, rfl⟩
  by_cases h2 : (32 : Int) < b.size
  · have HF : Hid (nmS l = false) := by have := HSZ.out; show _ = _; unfold nmS; rw [decide_eq_false (p := l.length ≤ 32) (by omega), Bool.and_false]; rfl
    clear hl
    go_enter Tryd.func45, Tryd.ntmps45
    go_wp2
    go_ret
    exact ⟨ret_bool HF.out.symm, rfl⟩
  have HN : Hid (nmS l = (l.all okC && !(l == tEnd) && !(l == tArr) && !(l == tOr))) := by have := HSZ.out; show _ = _; unfold nmS; rw [decide_eq_true (by omega), decide_eq_true (by omega)]; rfl
  clear hl
  by_cases e1 : b.toList = [36]
  · have HF : Hid (nmS l = false) := by show _ = _; rw [HN.out, (HBE.out _).1 e1]; rfl
    go_enter Tryd.func45, Tryd.ntmps45
    go_wp2
    go_ret
    exact ⟨ret_bool HF.out.symm, rfl⟩
  by_cases e2 : b.toList = [45, 62]
  · have HF : Hid (nmS l = false) := by show _ = _; rw [HN.out, (HBE.out _).1 e2]; rfl
    go_enter Tryd.func45, Tryd.ntmps45
    go_wp2
    go_ret
    exact ⟨ret_bool HF.out.symm, rfl⟩
  by_cases e3 : b.toList = [124]
  · have HF : Hid (nmS l = false) := by show _ = _; rw [HN.out, (HBE.out _).1 e3]; rfl
    go_enter Tryd.func45, Tryd.ntmps45
    go_wp2
    go_ret
    exact ⟨ret_bool HF.out.symm, rfl⟩
  have HNN : Hid (nmS l = l.all okC) := by
    show _ = _
    rw [HN.out, beq_eq_false_iff_ne.2 (show l ≠ tEnd from fun h => e1 ((HBE.out _).2 h)), beq_eq_false_iff_ne.2 (show l ≠ tArr from fun h => e2 ((HBE.out _).2 h)), beq_eq_false_iff_ne.2 (show l ≠ tOr from fun h => e3 ((HBE.out _).2 h))]
    simp
  have q1 : (b.toList == [36]) = false := beq_eq_false_iff_ne.2 e1
  have q2 : (b.toList == [45, 62]) = false := beq_eq_false_iff_ne.2 e2
  have q3 : (b.toList == [124]) = false := beq_eq_false_iff_ne.2 e3
  have q4 : decide ((b.size : Int) < 1) = false := decide_eq_false h1
  have q5 : decide ((32 : Int) < (b.size : Int)) = false := decide_eq_false h2
  go_enter Tryd.func45, Tryd.ntmps45
  go_wp2
  go_loop [3] (fun i => ∃ k : Nat, k ≤ b.size ∧ i = .int .i64 k ∧ ∀ j, j < k → okC (l.getD j 0) = true) (fun i => b.size - (intOf i).toNat)
  case atStart => exact ⟨0, Nat.zero_le _, rfl, fun j hj => by omega⟩
  case round =>
    obtain ⟨k, hk, rfl, hall⟩ := hrel
    have HA := hidD hall
    clear hall
    by_cases hlt : k < b.size
    · have hlti : (k : Int) < b.size := by omega
      have HG := hidD (HBG.out k hlt)
      have HLT : Hid (k < l.length) := by have := HSZ.out; show _ < _; omega
      by_cases c1 : ((b[k]).toNat : Int) ≤ 32
      · have HF : Hid (nmS l = false) := by
          show _ = _
          rw [HNN.out, all_no HLT.out]
          rw [HG.out] at c1; unfold okC; rw [decide_eq_false (by omega)]; rfl
        go_wp2
        go_ret
        exact ⟨ret_bool HF.out.symm, rfl⟩
      · by_cases c2 : (127 : Int) ≤ ((b[k]).toNat : Int)
        · have HF : Hid (nmS l = false) := by
            show _ = _
            rw [HNN.out, all_no HLT.out]
            rw [HG.out] at c2; unfold okC; rw [decide_eq_false (p := (l.getD k 0).toNat < 127) (by omega), Bool.and_false]
          go_wp2
          go_ret
          exact ⟨ret_bool HF.out.symm, rfl⟩
        · have HO : Hid (okC (l.getD k 0) = true) := by
            show _ = _
            rw [HG.out] at c1 c2; unfold okC; rw [decide_eq_true (by omega), decide_eq_true (by omega)]; rfl
          go_wp2
          go_round
          case rel => exact ⟨k + 1, by omega, by go_num, fun j hj => by
            by_cases h : j = k
            · rw [h]; exact HO.out
            · exact HA.out j (by omega)⟩
          case measure => simp [intOf]; omega
    · have HAL : Hid (l.all okC = true) := all_ok fun j hj => HA.out j (by have := HSZ.out; omega)
      obtain rfl : k = b.size := by omega
      have HF : Hid (nmS l = true) := by show _ = _; rw [HNN.out]; exact HAL.out
      go_wp2
      go_ret
      exact ⟨ret_bool HF.out.symm, rfl⟩
/-- The place of a text in a row; -1: it is not there. -/
def atTo (L : List Tx) (x : Tx) : Nat → Int
  | 0 => -1
  | k + 1 => if atTo L x k < 0 ∧ L.getD k [] = x then (k : Int) else atTo L x k
def atS (L : List Tx) (x : Tx) : Int := atTo L x L.length
theorem at_found {L : List Tx} {x : Tx} {k : Nat} (hn : ∀ j, j < k → L.getD j [] ≠ x) (he : L.getD k [] = x) : ∀ m, k < m → atTo L x m = (k : Int)
  | 0, h => by omega
  | m + 1, h => by
    have hneg : ∀ q, q ≤ k → atTo L x q = -1 := fun q => by
      induction q with
      | zero => intro _; rfl
      | succ q ih => intro hq; rw [atTo, if_neg (fun hc => hn q (by omega) hc.2)]; exact ih (by omega)
    rw [atTo]
    by_cases hm : k = m
    · subst hm
      rw [if_pos ⟨by rw [hneg k (Nat.le_refl _)]; decide, he⟩]
    · have ih := at_found hn he m (by omega)
      rw [ih, if_neg (fun hc => by omega)]
theorem at_none {L : List Tx} {x : Tx} : ∀ m, (∀ j, j < m → L.getD j [] ≠ x) → atTo L x m = -1
  | 0, _ => rfl
  | m + 1, h => by rw [atTo, if_neg (fun hc => h m (by omega) hc.2)]; exact at_none m fun j hj => h j (by omega)
set_option maxRecDepth 100000 in
set_option maxHeartbeats 1600000 in
theorem refAt_st (L : List Tx) (hll : L.length ≤ 4398046511104) (B : Nat) (v : Value) (x : Tx) (w : World) (h : StAt w B v L) : Calls Tryd.prog 46 #[v, encT x] w fun e w' => e = .returned (.int .i64 (atS L x)) ∧ w' = w := by
  obtain ⟨a, cap, rfl⟩ := h.shape
  have HSR := hidD h
  have HNO : Hid ((∀ j, j < L.length → L.getD j [] ≠ x) → atS L x = -1) := fun hh => at_none _ hh
  have HYE : Hid (∀ k, k < L.length → (∀ j, j < k → L.getD j [] ≠ x) → L.getD k [] = x → atS L x = (k : Int)) := fun k hk hn he => at_found hn he _ hk
  obtain ⟨hc1, hc2⟩ : L.length ≤ cap ∧ cap ≤ 9223372036854775807 := by
    obtain ⟨a', c', e, h1, h2, _⟩ := h
    cases e; exact ⟨h1, h2.1⟩
  clear h
  unfold encT
  generalize hm : L.length = m at *
  have HEQ : Hid (∀ y : Tx, (bA y).toList = (bA x).toList ↔ y = x) := fun y => by rw [ba_list, ba_list]
  generalize atS L x = r at *
  go_enter Tryd.func46, Tryd.ntmps46
  go_wp2_with fail
  go_loop [5] (fun i => ∃ k : Nat, k ≤ m ∧ i = .int .i64 (k : Int) ∧ ∀ j, j < k → L.getD j [] ≠ x) (fun i => m - (intOf i).toNat)
  case atStart => exact ⟨0, Nat.zero_le _, rfl, fun j hj => absurd hj (by omega)⟩
  case round =>
    obtain ⟨k, hk, rfl, hall⟩ := hrel
    have HA := hidD hall
    clear hall
    by_cases hlt : k < m
    · have hlti : (k : Int) < (m : Int) := by omega
      obtain ⟨g, o, rfl, hg, _, f0⟩ := HSR.out.cell (k := k) (by rw [hm]; exact hlt)
      have HY := hidD (HYE.out k hlt HA.out)
      have HE := hidD (HEQ.out (L.getD k []))
      have HST : Hid (L.getD k [] ≠ x → ∀ j, j < k + 1 → L.getD j [] ≠ x) := fun h j hj => by
        by_cases hjk : j = k
        · rw [hjk]; exact h
        · exact HA.out j (by omega)
      unfold encT at f0
      by_cases he : L.getD k [] = x
      · have HR := hidD (HY.out he)
        have hbe : (bA (L.getD k [])).toList = (bA x).toList := HE.out.2 he
        generalize bA (L.getD k []) = b1 at *
        generalize bA x = b2 at *
        go_wp2_with fail
        go_ret
        exact ⟨by rw [HR.out]; rfl, rfl⟩
      · have HN := hidD (HST.out he)
        have hbe : ¬ (bA (L.getD k [])).toList = (bA x).toList := fun h => he (HE.out.1 h)
        generalize bA (L.getD k []) = b1 at *
        generalize bA x = b2 at *
        have hbq : (b1.toList == b2.toList) = false := beq_eq_false_iff_ne.2 hbe
        have hbd : decide (b1.toList = b2.toList) = false := decide_eq_false hbe
        go_wp2_with fail
        go_round
        case rel => exact ⟨k + 1, by omega, by go_num, HN.out⟩
        case measure => simp [intOf]; omega
    · obtain rfl : k = m := by omega
      have HR := hidD (HNO.out HA.out)
      go_wp2_with fail
      go_ret
      exact ⟨by rw [HR.out]; rfl, rfl⟩
theorem refAt_any (L : List Tx) (hll : L.length ≤ 4398046511104) (B : Nat) (v : Value) (x : Tx) (w : World) (h : SrAt w B v L) : Calls Tryd.prog 46 #[v, encT x] w fun e w' => e = .returned (.int .i64 (atS L x)) ∧ w' = w := refAt_st L hll B v x w h.st
end Go.Proofs.YtgmbkelmgolkpaaDoor
