/- What isName answers. -/
import Derived.Test.YtgmbkelmgolkpabDoorGn
namespace Go.Proofs.YtgmbkelmgolkpabDoor
open Go.RowKit
set_option linter.unusedVariables false

theorem all_ok {l : Tx} (h : ∀ j, j < l.length → okC (l.getD j 0) = true) : l.all okC = true := by
  rw [List.all_eq_true]
  intro x hx
  obtain ⟨j, hj, rfl⟩ := List.mem_iff_getElem.1 hx
  have := h j hj
  simpa [List.getD, List.getElem?_eq_getElem hj] using this
theorem all_no {l : Tx} {k : Nat} (hk : k < l.length) (h : okC (l.getD k 0) = false) : l.all okC = false := by
  cases ha : l.all okC with
  | false => rfl
  | true =>
    rw [List.all_eq_true] at ha
    have := ha l[k] (List.getElem_mem hk)
    simp [List.getD, List.getElem?_eq_getElem hk, this] at h
theorem ret_bool {a b : Bool} (h : a = b) : Ending.returned (.bool a) = .returned (.bool b) := by rw [h]
set_option maxRecDepth 100000 in
set_option maxHeartbeats 1600000 in
theorem isName_any (l : Tx) (w : World) (hl : l.length ≤ maxLen) : Calls Tryd.prog 45 #[encT l] w fun e w' => e = .returned (.bool (nmS l)) ∧ w' = w := by
  unfold maxLen at hl
  unfold encT
  have HSZ := hidD (ba_size l)
  have HBG := hidD (fun k h => ba_get l k h)
  have HBE : Hid (∀ m : Tx, ((bA l).toList = m) ↔ l = m) := fun m => by rw [ba_list]
  have hl2 : (bA l).size ≤ 9223372036854775807 := by rw [HSZ.out]; omega
  generalize (bA l) = b at *
  by_cases h1 : (b.size : Int) < 1
  · have HF : Hid (nmS l = false) := by have := HSZ.out; show _ = _; unfold nmS; rw [decide_eq_false (p := 1 ≤ l.length) (by omega)]; rfl
    clear hl
    go_enter Tryd.func45, Tryd.ntmps45
    go_wp2
    go_ret
    exact ⟨ret_bool HF.out.symm, rfl⟩
  by_cases h2 : (32 : Int) < b.size
  · have HF : Hid (nmS l = false) := by have := HSZ.out; show _ = _; unfold nmS; rw [decide_eq_false (p := l.length ≤ 32) (by omega), Bool.and_false]; rfl
    clear hl
    go_enter Tryd.func45, Tryd.ntmps45
    go_wp2
    go_ret
    exact ⟨ret_bool HF.out.symm, rfl⟩
  have HN : Hid (nmS l = (l.all okC && !(l == tEnd) && !(l == tArr) && !(l == tOr))) := by have := HSZ.out; show _ = _; unfold nmS; rw [decide_eq_true (by omega), decide_eq_true (by omega)]; rfl
  clear hl
  go_enter Tryd.func45, Tryd.ntmps45
  go_wp2
  go_loop [14] (fun i => ∃ k : Nat, k ≤ b.size ∧ i = .int .i64 k ∧ ∀ j, j < k → okC (l.getD j 0) = true) (fun i => b.size - (intOf i).toNat)
  case atStart => exact ⟨0, Nat.zero_le _, rfl, fun j hj => by omega⟩
  case round =>
    obtain ⟨k, hk, rfl, hall⟩ := hrel
    have HA := hidD hall
    clear hall
    by_cases hlt : k < b.size
    · have hlti : (k : Int) < b.size := by omega
      have HG := hidD (HBG.out k hlt)
      have HLT : Hid (k < l.length) := by have := HSZ.out; show _ < _; omega
      by_cases c1 : ((b[k]).toNat : Int) ≤ 32
      · have HF : Hid (nmS l = false) := by
          show _ = _
          rw [HN.out, all_no HLT.out]
          · rfl
          · rw [HG.out] at c1; unfold okC; rw [decide_eq_false (by omega)]; rfl
        go_wp2
        go_ret
        exact ⟨ret_bool HF.out.symm, rfl⟩
      · by_cases c2 : (127 : Int) ≤ ((b[k]).toNat : Int)
        · have HF : Hid (nmS l = false) := by
            show _ = _
            rw [HN.out, all_no HLT.out]
            · rfl
            · rw [HG.out] at c2; unfold okC; rw [decide_eq_false (p := (l.getD k 0).toNat < 127) (by omega), Bool.and_false]
          go_wp2
          go_ret
          exact ⟨ret_bool HF.out.symm, rfl⟩
        · have HO : Hid (okC (l.getD k 0) = true) := by
            show _ = _
            rw [HG.out] at c1 c2; unfold okC; rw [decide_eq_true (by omega), decide_eq_true (by omega)]; rfl
          go_wp2
          go_round
          case rel => exact ⟨k + 1, by omega, by go_num, fun j hj => by
            by_cases h : j = k
            · rw [h]; exact HO.out
            · exact HA.out j (by omega)⟩
          case measure => simp [intOf]; omega
    · have HAL : Hid (l.all okC = true) := all_ok fun j hj => HA.out j (by have := HSZ.out; omega)
      obtain rfl : k = b.size := by omega
      have HI : Hid (∀ m : Tx, b.toList = m ↔ l = m) := HBE.out
      by_cases e1 : b.toList = [36]
      · have HF : Hid (nmS l = false) := by show _ = _; rw [HN.out, (HI.out _).1 e1]; rfl
        go_wp2
        go_ret
        exact ⟨ret_bool HF.out.symm, rfl⟩
      · by_cases e2 : b.toList = [45, 62]
        · have HF : Hid (nmS l = false) := by show _ = _; rw [HN.out, (HI.out _).1 e2]; rfl
          go_wp2
          go_ret
          exact ⟨ret_bool HF.out.symm, rfl⟩
        · by_cases e3 : b.toList = [124]
          · have HF : Hid (nmS l = false) := by show _ = _; rw [HN.out, (HI.out _).1 e3]; rfl
            go_wp2
            go_ret
            exact ⟨ret_bool HF.out.symm, rfl⟩
          · have HF : Hid (nmS l = true) := by
              show _ = _
              rw [HN.out, HAL.out, beq_eq_false_iff_ne.2 (show l ≠ tEnd from fun h => e1 ((HI.out _).2 h)), beq_eq_false_iff_ne.2 (show l ≠ tArr from fun h => e2 ((HI.out _).2 h)), beq_eq_false_iff_ne.2 (show l ≠ tOr from fun h => e3 ((HI.out _).2 h))]; rfl
            go_wp2
            go_ret
            exact ⟨ret_bool (by rw [HF.out, beq_eq_false_iff_ne.2 e1, beq_eq_false_iff_ne.2 e2, beq_eq_false_iff_ne.2 e3]; rfl), rfl⟩
end Go.Proofs.YtgmbkelmgolkpabDoor
