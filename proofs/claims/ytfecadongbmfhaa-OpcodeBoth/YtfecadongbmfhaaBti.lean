/- OpcodeBoth: for every two bytes, every text and every mode the law returns true. -/
import Derived.Test.YtfecadongbmfhaaBth
namespace Go.Proofs.Ytfecadongbmfhaa
open Go.RowKit
set_option linter.unusedVariables false

theorem both_any (op other : Nat) (ho : op < 256) (hr : other < 256) (s : List UInt8) (hs : s.length ≤ 140737488355328) (x : Int) (w : World) : Calls Try.prog 7 #[.int .u8 (op : Int), .int .u8 (other : Int), .string (bA s), .int .i64 x] w fun e w' => e = .returned (.bool true) ∧ Below w.heap.size w w' := by
  have HL : Hid (∀ w, Calls Try.prog 13 #[] w fun e w' => e = .returned (.bool true) ∧ Below w.heap.size w w') := fun w => live_any w
  by_cases hB : fiS s = 0 ∨ coS (fiS s) x = 256
  · have HD : Hid (∀ w, Calls Try.prog 20 #[.string (bA s), .int .i64 x] w fun e w' => e = .returned (.tuple #[.int .u8 0, .bool false]) ∧ Below w.heap.size w w') := fun w => code_no hs hB w
    by_cases h0 : (inS op).1 = 0
    · exact both_no_no op other (bA s) x HL (fun w => of_no ho h0 w) HD w
    · have hm := (in_lt op ho).1
      have hl : (nmS (inS op).1).length ≤ 140737488355328 := by rw [nm_len _ hm (by omega)]; decide
      have hf := fi_of _ hm (by omega : 0 < (inS op).1)
      have HK : Hid (∀ w, Calls Try.prog 25 #[.string (bA (nmS (inS op).1))] w fun e w' => e = .returned (.bool true) ∧ Below w.heap.size w w') := fun w => by
        have := known_any _ hl w
        rw [hf, beq_eq_false_iff_ne.2 h0] at this
        exact this
      have HG : Hid (∀ w, Calls Try.prog 26 #[.string (bA (nmS (inS op).1))] w fun e w' => e = .returned (.int .i64 (clS (inS op).1 : Int)) ∧ Below w.heap.size w w') := fun w => by
        have := class_any _ hl w
        rw [hf] at this
        exact this
      have hc : ((clS (inS op).1 : Int) == 0) = false := beq_eq_false_iff_ne.2 (by have := cl_pos _ hm h0; omega)
      by_cases g0 : (inS other).1 = 0
      · exact both_insno_no op other (bA s) x _ _ _ HL (fun w => of_ins ho h0 w) (fun w => code_ins ho h0 w) HK HG hc (fun w => of_no hr g0 w) HD w
      · by_cases hn : nmS (inS other).1 = nmS (inS op).1
        · have hn' : ((bA (nmS (inS other).1)).toList == (bA (nmS (inS op).1)).toList) = true := by rw [bA_beq]; exact beq_iff_eq.2 hn
          by_cases hk : (inS other).2 = (inS op).2
          · have he : other = op := in_inj other hr op ho g0 (Prod.ext (nm_inj _ (in_lt other hr).1 _ hm hn) hk)
            exact both_inssame_no op other (bA s) x _ _ _ _ _ HL (fun w => of_ins ho h0 w) (fun w => code_ins ho h0 w) HK HG hc (fun w => of_ins hr g0 w) hn' (beq_iff_eq.2 (by omega)) (beq_iff_eq.2 (by omega)) HD w
          · exact both_insmode_no op other (bA s) x _ _ _ _ _ HL (fun w => of_ins ho h0 w) (fun w => code_ins ho h0 w) HK HG hc (fun w => of_ins hr g0 w) hn' (beq_eq_false_iff_ne.2 (by omega)) HD w
        · have hn' : ((bA (nmS (inS other).1)).toList == (bA (nmS (inS op).1)).toList) = false := by rw [bA_beq]; exact beq_eq_false_iff_ne.2 hn
          exact both_insname_no op other (bA s) x _ _ _ _ _ HL (fun w => of_ins ho h0 w) (fun w => code_ins ho h0 w) HK HG hc (fun w => of_ins hr g0 w) hn' HD w
  · obtain ⟨d, hd, hd0, hds, hdx, hDW⟩ := code_yes hs hB
    have HD := hidD hDW
    have HQ : Hid (∀ w, Calls Try.prog 14 #[.int .u8 (d : Int)] w fun e w' => e = .returned (.tuple #[.string (bA s), .int .i64 x, .bool true]) ∧ Below w.heap.size w w') := fun w => by
      have := of_ins hd hd0 w
      rw [hds, hdx] at this
      exact this
    by_cases h0 : (inS op).1 = 0
    · exact both_no_yes op other (bA s) x d HL (fun w => of_no ho h0 w) HD HQ w
    · have hm := (in_lt op ho).1
      have hl : (nmS (inS op).1).length ≤ 140737488355328 := by rw [nm_len _ hm (by omega)]; decide
      have hf := fi_of _ hm (by omega : 0 < (inS op).1)
      have HK : Hid (∀ w, Calls Try.prog 25 #[.string (bA (nmS (inS op).1))] w fun e w' => e = .returned (.bool true) ∧ Below w.heap.size w w') := fun w => by
        have := known_any _ hl w
        rw [hf, beq_eq_false_iff_ne.2 h0] at this
        exact this
      have HG : Hid (∀ w, Calls Try.prog 26 #[.string (bA (nmS (inS op).1))] w fun e w' => e = .returned (.int .i64 (clS (inS op).1 : Int)) ∧ Below w.heap.size w w') := fun w => by
        have := class_any _ hl w
        rw [hf] at this
        exact this
      have hc : ((clS (inS op).1 : Int) == 0) = false := beq_eq_false_iff_ne.2 (by have := cl_pos _ hm h0; omega)
      by_cases g0 : (inS other).1 = 0
      · exact both_insno_yes op other (bA s) x _ _ _ d HL (fun w => of_ins ho h0 w) (fun w => code_ins ho h0 w) HK HG hc (fun w => of_no hr g0 w) HD HQ w
      · by_cases hn : nmS (inS other).1 = nmS (inS op).1
        · have hn' : ((bA (nmS (inS other).1)).toList == (bA (nmS (inS op).1)).toList) = true := by rw [bA_beq]; exact beq_iff_eq.2 hn
          by_cases hk : (inS other).2 = (inS op).2
          · have he : other = op := in_inj other hr op ho g0 (Prod.ext (nm_inj _ (in_lt other hr).1 _ hm hn) hk)
            exact both_inssame_yes op other (bA s) x _ _ _ _ _ d HL (fun w => of_ins ho h0 w) (fun w => code_ins ho h0 w) HK HG hc (fun w => of_ins hr g0 w) hn' (beq_iff_eq.2 (by omega)) (beq_iff_eq.2 (by omega)) HD HQ w
          · exact both_insmode_yes op other (bA s) x _ _ _ _ _ d HL (fun w => of_ins ho h0 w) (fun w => code_ins ho h0 w) HK HG hc (fun w => of_ins hr g0 w) hn' (beq_eq_false_iff_ne.2 (by omega)) HD HQ w
        · have hn' : ((bA (nmS (inS other).1)).toList == (bA (nmS (inS op).1)).toList) = false := by rw [bA_beq]; exact beq_eq_false_iff_ne.2 hn
          exact both_insname_yes op other (bA s) x _ _ _ _ _ d HL (fun w => of_ins ho h0 w) (fun w => code_ins ho h0 w) HK HG hc (fun w => of_ins hr g0 w) hn' HD HQ w
end Go.Proofs.Ytfecadongbmfhaa
