/- OpcodeSlots: for every text and every byte the law returns true. -/
import Derived.Test.YtfecadongbmfhabSlx
namespace Go.Proofs.Ytfecadongbmfhab
open Go.RowKit
set_option linter.unusedVariables false

theorem num_nil (w : World) : Calls Try.prog 9 #[.string ⟨#[]⟩] w fun e w' => e = .returned (.tuple #[.int .i64 0, .bool false]) ∧ Below w.heap.size w w' := num_no (s := []) (by decide) fi_nil w
theorem div_td (i V2 : Nat) (hi : i < 256) : ((tdN i + 16777216 * V2 : Nat) : Int) / 16777216 = (V2 : Int) := by
  have := td_lt i hi
  omega
theorem slots_any (s : List UInt8) (hs : s.length ≤ 140737488355328) (op : Nat) (ho : op < 256) (w : World) : Calls Try.prog 4 #[.string (bA s), .int .u8 (op : Int)] w fun e w' => e = .returned (.bool true) ∧ Below w.heap.size w w' := by
  have HL : Hid (∀ w, Calls Try.prog 5 #[] w fun e w' => e = .returned (.bool true) ∧ Below w.heap.size w w') := fun w => live_any w
  have HW : Hid (∀ w, Calls Try.prog 8 #[] w fun e w' => ∃ g, e = .returned (.slice (some ⟨g, 0, none⟩) 256 256) ∧ w.heap.size ≤ g ∧ RowZ w' g .u32 256 (34 : TypeId) (wdF 56) ∧ Below w.heap.size w w') := fun w => words_any w
  have hand := and_td op ho
  by_cases h0 : (inS op).1 = 0
  · have HO : Hid (∀ w, Calls Try.prog 12 #[.int .u8 (op : Int)] w fun e w' => e = .returned (.tuple #[.string ⟨#[]⟩, .int .i64 0, .bool false]) ∧ Below w.heap.size w w') := fun w => of_no0 ho h0 w
    have HY : Hid (∀ w, Calls Try.prog 13 #[.int .u8 (op : Int)] w fun e w' => e = .returned (.tuple #[.int .i64 0, .int .i64 0, .bool false]) ∧ Below w.heap.size w w') := fun w => cyc_no ho h0 w
    rw [show tdN op = 0 from if_pos h0] at hand
    have hwo : wdF 56 op = ((0 + 16777216 * bhN 56 op : Nat) : Int) := by unfold wdF; rw [show tdN op = 0 from if_pos h0]
    by_cases hc : Cap s
    · have HH : Hid (∀ w, Calls Try.prog 10 #[.string (bA s), .int .i64 7, .int .i64 79] w fun e w' => e = .returned (.tuple #[.int .i64 (hsS s 7 79 : Int), .int .i64 0]) ∧ Below w.heap.size w w') := fun w => by
        have h := hash_any s hs 7 79 w
        rw [show haS s 7 79 = (hsS s 7 79, 0) from if_pos ⟨hc, rfl, rfl⟩] at h
        exact h
      by_cases hf : fiS s = 0
      · exact slots_no_no (bA s) op ho (hsS s 7 79) (hs_lt _ _ _) (tdN (hsS s 7 79) + 16777216 * bhN 56 (hsS s 7 79)) (bhN 56 (hsS s 7 79)) _ HL HW (fun w => no_any 0 w) HH (fun w => num_no hs hf w) rfl (div_td _ _ (hs_lt _ _ _)) rfl HO HY (fun w => num_nil w) _ hwo hand w
      · have hb : bhN 56 (hsS s 7 79) = fiS s - 1 + 1 := by
          have := nm_hash (fiS s) (fi_le s) (by omega)
          rw [fi_name hf] at this
          omega
        have hle := fi_le s
        exact slots_yes_no (bA s) op ho (hsS s 7 79) (hs_lt _ _ _) (fiS s - 1) (by omega) (tdN (hsS s 7 79) + 16777216 * (fiS s - 1 + 1)) HL HW (fun w => no_any 0 w) HH (fun w => num_yes hs hf w) (by unfold wdF; rw [hb]) (div_td _ _ (hs_lt _ _ _)) HO HY (fun w => num_nil w) _ hwo hand w
    · have hf : fiS s = 0 := if_neg (fun h => hc h.1)
      have HH : Hid (∀ w, Calls Try.prog 10 #[.string (bA s), .int .i64 7, .int .i64 79] w fun e w' => e = .returned (.tuple #[.int .i64 0, .int .i64 1]) ∧ Below w.heap.size w w') := fun w => by
        have h := hash_any s hs 7 79 w
        rw [show haS s 7 79 = (0, 1) from if_neg (fun h => hc h.1)] at h
        exact h
      exact slots_err_no (bA s) op ho 0 false HL HW (fun w => num_no hs hf w) HH (fun w => no_any 1 w) HO HY (fun w => num_nil w) _ hwo hand w
  · have hin := in_lt op ho
    have hba := ba_le op ho
    have HO : Hid (∀ w, Calls Try.prog 12 #[.int .u8 (op : Int)] w fun e w' => e = .returned (.tuple #[.string (bA (nmS (inS op).1)), .int .i64 ((inS op).2 : Int), .bool true]) ∧ Below w.heap.size w w') := fun w => of_ins0 ho h0 w
    have HY : Hid (∀ w, Calls Try.prog 13 #[.int .u8 (op : Int)] w fun e w' => e = .returned (.tuple #[.int .i64 (baS (inS op).1 (inS op).2 : Int), .int .i64 (exS (inS op).1 (inS op).2 : Int), .bool true]) ∧ Below w.heap.size w w') := fun w => cyc_ins ho h0 w
    have HV : Hid (∀ w, Calls Try.prog 9 #[.string (bA (nmS (inS op).1))] w fun e w' => e = .returned (.tuple #[.int .i64 (((inS op).1 - 1 : Nat) : Int), .bool true]) ∧ Below w.heap.size w w') := fun w => num_ins ho h0 w
    have htd : tdN op = (inS op).1 + 256 * (inS op).2 + 4096 * baS (inS op).1 (inS op).2 + 65536 * exS (inS op).1 (inS op).2 := if_neg h0
    have hwo : wdF 56 op = ((tdN op + 16777216 * bhN 56 op : Nat) : Int) := rfl
    have o1 := or_u1 op ho
    have o2 := or_u2 op ho
    have o3 := or_u3 op ho
    rw [← htd] at o3
    rw [show ((inS op).1 : Int) = (((inS op).1 - 1 + 1 : Nat) : Int) by omega] at o1
    have q4 : tdN op < 100000 := by omega
    by_cases hc : Cap s
    · have HH : Hid (∀ w, Calls Try.prog 10 #[.string (bA s), .int .i64 7, .int .i64 79] w fun e w' => e = .returned (.tuple #[.int .i64 (hsS s 7 79 : Int), .int .i64 0]) ∧ Below w.heap.size w w') := fun w => by
        have h := hash_any s hs 7 79 w
        rw [show haS s 7 79 = (hsS s 7 79, 0) from if_pos ⟨hc, rfl, rfl⟩] at h
        exact h
      by_cases hf : fiS s = 0
      · exact slots_no_yes (bA s) op ho (hsS s 7 79) (hs_lt _ _ _) (tdN (hsS s 7 79) + 16777216 * bhN 56 (hsS s 7 79)) (bhN 56 (hsS s 7 79)) _ (bA (nmS (inS op).1)) ((inS op).1 - 1) (inS op).2 (baS (inS op).1 (inS op).2) (exS (inS op).1 (inS op).2) _ _ (tdN op) (256 * (inS op).2) (4096 * baS (inS op).1 (inS op).2) (65536 * exS (inS op).1 (inS op).2) HL HW (fun w => no_any 0 w) HH (fun w => num_no hs hf w) rfl (div_td _ _ (hs_lt _ _ _)) rfl HO HY HV _ hwo hand (by omega) (by omega) (by omega) (by omega) (by omega) (by omega) (by omega) o1 o2 o3 (by omega) (by omega) (by omega) q4 w
      · have hb : bhN 56 (hsS s 7 79) = fiS s - 1 + 1 := by
          have := nm_hash (fiS s) (fi_le s) (by omega)
          rw [fi_name hf] at this
          omega
        have hle := fi_le s
        exact slots_yes_yes (bA s) op ho (hsS s 7 79) (hs_lt _ _ _) (fiS s - 1) (by omega) (tdN (hsS s 7 79) + 16777216 * (fiS s - 1 + 1)) (bA (nmS (inS op).1)) ((inS op).1 - 1) (inS op).2 (baS (inS op).1 (inS op).2) (exS (inS op).1 (inS op).2) _ _ (tdN op) (256 * (inS op).2) (4096 * baS (inS op).1 (inS op).2) (65536 * exS (inS op).1 (inS op).2) HL HW (fun w => no_any 0 w) HH (fun w => num_yes hs hf w) (by unfold wdF; rw [hb]) (div_td _ _ (hs_lt _ _ _)) HO HY HV _ hwo hand (by omega) (by omega) (by omega) (by omega) (by omega) (by omega) (by omega) o1 o2 o3 (by omega) (by omega) (by omega) q4 w
    · have hf : fiS s = 0 := if_neg (fun h => hc h.1)
      have HH : Hid (∀ w, Calls Try.prog 10 #[.string (bA s), .int .i64 7, .int .i64 79] w fun e w' => e = .returned (.tuple #[.int .i64 0, .int .i64 1]) ∧ Below w.heap.size w w') := fun w => by
        have h := hash_any s hs 7 79 w
        rw [show haS s 7 79 = (0, 1) from if_neg (fun h => hc h.1)] at h
        exact h
      exact slots_err_yes (bA s) op ho 0 false (bA (nmS (inS op).1)) ((inS op).1 - 1) (inS op).2 (baS (inS op).1 (inS op).2) (exS (inS op).1 (inS op).2) _ _ (tdN op) (256 * (inS op).2) (4096 * baS (inS op).1 (inS op).2) (65536 * exS (inS op).1 (inS op).2) HL HW (fun w => num_no hs hf w) HH (fun w => no_any 1 w) HO HY HV _ hwo hand (by omega) (by omega) (by omega) (by omega) (by omega) (by omega) (by omega) o1 o2 o3 (by omega) (by omega) (by omega) q4 w
end Go.Proofs.Ytfecadongbmfhab
