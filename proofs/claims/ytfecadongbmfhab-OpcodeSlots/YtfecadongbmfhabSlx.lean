/- OpcodeSlots: the law's walk. -/
import Derived.Test.YtfecadongbmfhabWds
namespace Go.Proofs.Ytfecadongbmfhab
open Go.RowKit
set_option linter.unusedVariables false

theorem and_td : ∀ op < 256, bits .and .u32 ((tdN op + 16777216 * bhN 56 op : Nat) : Int) 16777215 = ((tdN op : Nat) : Int) := by decide +kernel
theorem or_u1 : ∀ op < 256, bits .or .u32 (((inS op).1 : Nat) : Int) ((256 * (inS op).2 : Nat) : Int) = (((inS op).1 + 256 * (inS op).2 : Nat) : Int) := by decide +kernel
theorem or_u2 : ∀ op < 256, bits .or .u32 (((inS op).1 + 256 * (inS op).2 : Nat) : Int) ((4096 * baS (inS op).1 (inS op).2 : Nat) : Int) = (((inS op).1 + 256 * (inS op).2 + 4096 * baS (inS op).1 (inS op).2 : Nat) : Int) := by decide +kernel
theorem or_u3 : ∀ op < 256, bits .or .u32 (((inS op).1 + 256 * (inS op).2 + 4096 * baS (inS op).1 (inS op).2 : Nat) : Int) ((65536 * exS (inS op).1 (inS op).2 : Nat) : Int) = (((inS op).1 + 256 * (inS op).2 + 4096 * baS (inS op).1 (inS op).2 + 65536 * exS (inS op).1 (inS op).2 : Nat) : Int) := by decide +kernel
theorem cyc_no {op : Nat} (ho : op < 256) (h : (inS op).1 = 0) (w : World) : Calls Try.prog 13 #[.int .u8 (op : Int)] w fun e w' => e = .returned (.tuple #[.int .i64 0, .int .i64 0, .bool false]) ∧ Below w.heap.size w w' := by
  have := cycles_any op ho w
  unfold cyV at this
  rw [if_pos h] at this
  exact this
theorem num_no {s : List UInt8} (hs : s.length ≤ 140737488355328) (h : fiS s = 0) (w : World) : Calls Try.prog 9 #[.string (bA s)] w fun e w' => e = .returned (.tuple #[.int .i64 0, .bool false]) ∧ Below w.heap.size w w' := by
  have := number_any s hs w
  rw [h] at this
  exact this
theorem num_yes {s : List UInt8} (hs : s.length ≤ 140737488355328) (h : fiS s ≠ 0) (w : World) : Calls Try.prog 9 #[.string (bA s)] w fun e w' => e = .returned (.tuple #[.int .i64 ((fiS s - 1 : Nat) : Int), .bool true]) ∧ Below w.heap.size w w' := by
  have := number_any s hs w
  unfold nuV at this
  rw [if_neg h] at this
  exact this
set_option maxRecDepth 100000 in
set_option maxHeartbeats 3200000 in
theorem slots_err_no (S : ByteArray) (op : Nat) (ho : op < 256) (n : Int) (is : Bool) (HL : Hid (∀ w, Calls Try.prog 5 #[] w fun e w' => e = .returned (.bool true) ∧ Below w.heap.size w w')) (HW : Hid (∀ w, Calls Try.prog 8 #[] w fun e w' => ∃ g, e = .returned (.slice (some ⟨g, 0, none⟩) 256 256) ∧ w.heap.size ≤ g ∧ RowZ w' g .u32 256 (34 : TypeId) (wdF 56) ∧ Below w.heap.size w w')) (HU : Hid (∀ w, Calls Try.prog 9 #[.string S] w fun e w' => e = .returned (.tuple #[.int .i64 n, .bool is]) ∧ Below w.heap.size w w')) (HH : Hid (∀ w, Calls Try.prog 10 #[.string S, .int .i64 7, .int .i64 79] w fun e w' => e = .returned (.tuple #[.int .i64 0, .int .i64 1]) ∧ Below w.heap.size w w')) (HN : Hid (∀ w, Calls Try.prog 11 #[.int .i64 1] w fun e w' => e = .returned (.int .i64 1) ∧ w' = w)) (HO : Hid (∀ w, Calls Try.prog 12 #[.int .u8 (op : Int)] w fun e w' => e = .returned (.tuple #[.string ⟨#[]⟩, .int .i64 0, .bool false]) ∧ Below w.heap.size w w')) (HY : Hid (∀ w, Calls Try.prog 13 #[.int .u8 (op : Int)] w fun e w' => e = .returned (.tuple #[.int .i64 0, .int .i64 0, .bool false]) ∧ Below w.heap.size w w')) (HV : Hid (∀ w, Calls Try.prog 9 #[.string ⟨#[]⟩] w fun e w' => e = .returned (.tuple #[.int .i64 0, .bool false]) ∧ Below w.heap.size w w')) (T : Nat) (hwo : wdF 56 op = (T : Int)) (hand : bits .and .u32 (T : Int) 16777215 = 0) (w : World) : Calls Try.prog 4 #[.string S, .int .u8 (op : Int)] w fun e w' => e = .returned (.bool true) ∧ Below w.heap.size w w' := by
  have CD : Hid (∀ (w2 w3 w4 w6 w7 w8 : World) (g : Nat), RowZ w2 g .u32 256 (34 : TypeId) (wdF 56) → Below w2.heap.size w2 w3 → Below w3.heap.size w3 w4 → Below w4.heap.size w4 w6 → Below w6.heap.size w6 w7 → Below w7.heap.size w7 w8 → w8.cell? ⟨g, op, none⟩ = some (.int .u32 (T : Int))) := fun w2 w3 w4 w6 w7 w8 g hr h1 h2 h3 h4 h5 => by rw [(((((hr.next h1).next h2).next h3).next h4).next h5).cell ho, hwo]
  have hoi : (op : Int) < 256 := by omega
  clear hwo
  cases is
  all_goals
    go_enter Try.func4, Try.ntmps4
    go_wp2_with (first | (go_at_call 5; refine (HL.out _).mono ?_; rintro e w1 ⟨rfl, b1⟩) | (go_at_call 8; refine (HW.out _).mono ?_; rintro e w2 ⟨g, rfl, hg, hrow, b2⟩; have HRW := hidD hrow; clear hrow) | (go_at_call 9; refine (HU.out _).mono ?_; clear HU; rintro e w3 ⟨rfl, b3⟩) | (go_at_call 10; refine (HH.out _).mono ?_; rintro e w4 ⟨rfl, b4⟩) | (go_at_call 11; refine (HN.out _).mono ?_; rintro e w5 ⟨rfl, rfl⟩) | (go_at_call 12; refine (HO.out _).mono ?_; rintro e w6 ⟨rfl, b6⟩) | (go_at_call 13; refine (HY.out _).mono ?_; rintro e w7 ⟨rfl, b7⟩) | (go_at_call 9; refine (HV.out _).mono ?_; rintro e w8 ⟨rfl, b8⟩; have c8 := (CD.out w2 w3 _ w6 w7 w8 g HRW.out b3 b4 b6 b7 b8)))
    go_ret
    exact ⟨by first | rfl | (simp; done), (Below.next (Below.next (Below.next (Below.next (Below.next (Below.next b1 b2) b3) b4) b6) b7) b8)⟩
set_option maxRecDepth 100000 in
set_option maxHeartbeats 3200000 in
theorem slots_err_yes (S : ByteArray) (op : Nat) (ho : op < 256) (n : Int) (is : Bool) (N : ByteArray) (m k Bc Ec X1 X2 X3 Y1 Y2 Y3 : Nat) (HL : Hid (∀ w, Calls Try.prog 5 #[] w fun e w' => e = .returned (.bool true) ∧ Below w.heap.size w w')) (HW : Hid (∀ w, Calls Try.prog 8 #[] w fun e w' => ∃ g, e = .returned (.slice (some ⟨g, 0, none⟩) 256 256) ∧ w.heap.size ≤ g ∧ RowZ w' g .u32 256 (34 : TypeId) (wdF 56) ∧ Below w.heap.size w w')) (HU : Hid (∀ w, Calls Try.prog 9 #[.string S] w fun e w' => e = .returned (.tuple #[.int .i64 n, .bool is]) ∧ Below w.heap.size w w')) (HH : Hid (∀ w, Calls Try.prog 10 #[.string S, .int .i64 7, .int .i64 79] w fun e w' => e = .returned (.tuple #[.int .i64 0, .int .i64 1]) ∧ Below w.heap.size w w')) (HN : Hid (∀ w, Calls Try.prog 11 #[.int .i64 1] w fun e w' => e = .returned (.int .i64 1) ∧ w' = w)) (HO : Hid (∀ w, Calls Try.prog 12 #[.int .u8 (op : Int)] w fun e w' => e = .returned (.tuple #[.string N, .int .i64 (k : Int), .bool true]) ∧ Below w.heap.size w w')) (HY : Hid (∀ w, Calls Try.prog 13 #[.int .u8 (op : Int)] w fun e w' => e = .returned (.tuple #[.int .i64 (Bc : Int), .int .i64 (Ec : Int), .bool true]) ∧ Below w.heap.size w w')) (HV : Hid (∀ w, Calls Try.prog 9 #[.string N] w fun e w' => e = .returned (.tuple #[.int .i64 (m : Int), .bool true]) ∧ Below w.heap.size w w')) (T : Nat) (hwo : wdF 56 op = (T : Int)) (hand : bits .and .u32 (T : Int) 16777215 = (X3 : Int)) (hm : m < 56) (hk : k ≤ 12) (hbc : Bc ≤ 7) (hec : Ec ≤ 1) (t1 : (k : Int) * 256 = (Y1 : Int)) (t2 : (Bc : Int) * 4096 = (Y2 : Int)) (t3 : (Ec : Int) * 65536 = (Y3 : Int)) (o1 : bits .or .u32 ((m + 1 : Nat) : Int) (Y1 : Int) = (X1 : Int)) (o2 : bits .or .u32 (X1 : Int) (Y2 : Int) = (X2 : Int)) (o3 : bits .or .u32 (X2 : Int) (Y3 : Int) = (X3 : Int)) (q1 : Y1 ≤ 3072) (q2 : Y2 ≤ 28672) (q3 : Y3 ≤ 65536) (q4 : X3 < 100000) (w : World) : Calls Try.prog 4 #[.string S, .int .u8 (op : Int)] w fun e w' => e = .returned (.bool true) ∧ Below w.heap.size w w' := by
  have CD : Hid (∀ (w2 w3 w4 w6 w7 w8 : World) (g : Nat), RowZ w2 g .u32 256 (34 : TypeId) (wdF 56) → Below w2.heap.size w2 w3 → Below w3.heap.size w3 w4 → Below w4.heap.size w4 w6 → Below w6.heap.size w6 w7 → Below w7.heap.size w7 w8 → w8.cell? ⟨g, op, none⟩ = some (.int .u32 (T : Int))) := fun w2 w3 w4 w6 w7 w8 g hr h1 h2 h3 h4 h5 => by rw [(((((hr.next h1).next h2).next h3).next h4).next h5).cell ho, hwo]
  have hoi : (op : Int) < 256 := by omega
  have e5 : (m : Int) + 1 = ((m + 1 : Nat) : Int) := by omega
  have hK5 : m + 1 ≤ 56 := by omega
  clear hwo
  generalize m + 1 = K5 at *
  cases is
  all_goals
    go_enter Try.func4, Try.ntmps4
    go_wp2_with (first | (go_at_call 5; refine (HL.out _).mono ?_; rintro e w1 ⟨rfl, b1⟩) | (go_at_call 8; refine (HW.out _).mono ?_; rintro e w2 ⟨g, rfl, hg, hrow, b2⟩; have HRW := hidD hrow; clear hrow) | (go_at_call 9; refine (HU.out _).mono ?_; clear HU; rintro e w3 ⟨rfl, b3⟩) | (go_at_call 10; refine (HH.out _).mono ?_; rintro e w4 ⟨rfl, b4⟩) | (go_at_call 11; refine (HN.out _).mono ?_; rintro e w5 ⟨rfl, rfl⟩) | (go_at_call 12; refine (HO.out _).mono ?_; rintro e w6 ⟨rfl, b6⟩) | (go_at_call 13; refine (HY.out _).mono ?_; rintro e w7 ⟨rfl, b7⟩) | (go_at_call 9; refine (HV.out _).mono ?_; rintro e w8 ⟨rfl, b8⟩; have c8 := (CD.out w2 w3 _ w6 w7 w8 g HRW.out b3 b4 b6 b7 b8)))
    go_ret
    exact ⟨by first | rfl | (simp; done), (Below.next (Below.next (Below.next (Below.next (Below.next (Below.next b1 b2) b3) b4) b6) b7) b8)⟩
set_option maxRecDepth 100000 in
set_option maxHeartbeats 3200000 in
theorem slots_yes_no (S : ByteArray) (op : Nat) (ho : op < 256) (h : Nat) (hh : h < 256) (f : Nat) (hf : f < 56) (V : Nat) (HL : Hid (∀ w, Calls Try.prog 5 #[] w fun e w' => e = .returned (.bool true) ∧ Below w.heap.size w w')) (HW : Hid (∀ w, Calls Try.prog 8 #[] w fun e w' => ∃ g, e = .returned (.slice (some ⟨g, 0, none⟩) 256 256) ∧ w.heap.size ≤ g ∧ RowZ w' g .u32 256 (34 : TypeId) (wdF 56) ∧ Below w.heap.size w w')) (HN : Hid (∀ w, Calls Try.prog 11 #[.int .i64 0] w fun e w' => e = .returned (.int .i64 0) ∧ w' = w)) (HH : Hid (∀ w, Calls Try.prog 10 #[.string S, .int .i64 7, .int .i64 79] w fun e w' => e = .returned (.tuple #[.int .i64 (h : Int), .int .i64 0]) ∧ Below w.heap.size w w')) (HU : Hid (∀ w, Calls Try.prog 9 #[.string S] w fun e w' => e = .returned (.tuple #[.int .i64 (f : Int), .bool true]) ∧ Below w.heap.size w w')) (hwh : wdF 56 h = (V : Int)) (hq : (V : Int) / 16777216 = ((f + 1 : Nat) : Int)) (HO : Hid (∀ w, Calls Try.prog 12 #[.int .u8 (op : Int)] w fun e w' => e = .returned (.tuple #[.string ⟨#[]⟩, .int .i64 0, .bool false]) ∧ Below w.heap.size w w')) (HY : Hid (∀ w, Calls Try.prog 13 #[.int .u8 (op : Int)] w fun e w' => e = .returned (.tuple #[.int .i64 0, .int .i64 0, .bool false]) ∧ Below w.heap.size w w')) (HV : Hid (∀ w, Calls Try.prog 9 #[.string ⟨#[]⟩] w fun e w' => e = .returned (.tuple #[.int .i64 0, .bool false]) ∧ Below w.heap.size w w')) (T : Nat) (hwo : wdF 56 op = (T : Int)) (hand : bits .and .u32 (T : Int) 16777215 = 0) (w : World) : Calls Try.prog 4 #[.string S, .int .u8 (op : Int)] w fun e w' => e = .returned (.bool true) ∧ Below w.heap.size w w' := by
  have CC : Hid (∀ (w2 w3 w4 : World) (g : Nat), RowZ w2 g .u32 256 (34 : TypeId) (wdF 56) → Below w2.heap.size w2 w3 → Below w3.heap.size w3 w4 → w4.cell? ⟨g, h, none⟩ = some (.int .u32 (V : Int))) := fun w2 w3 w4 g hr h1 h2 => by rw [((hr.next h1).next h2).cell hh, hwh]
  have CD : Hid (∀ (w2 w3 w4 w6 w7 w8 : World) (g : Nat), RowZ w2 g .u32 256 (34 : TypeId) (wdF 56) → Below w2.heap.size w2 w3 → Below w3.heap.size w3 w4 → Below w4.heap.size w4 w6 → Below w6.heap.size w6 w7 → Below w7.heap.size w7 w8 → w8.cell? ⟨g, op, none⟩ = some (.int .u32 (T : Int))) := fun w2 w3 w4 w6 w7 w8 g hr h1 h2 h3 h4 h5 => by rw [(((((hr.next h1).next h2).next h3).next h4).next h5).cell ho, hwo]
  have hoi : (op : Int) < 256 := by omega
  have hhi : (h : Int) < 256 := by omega
  have e1 : (f : Int) + 1 = ((f + 1 : Nat) : Int) := by omega
  have hK : f + 1 ≤ 56 := by omega
  clear hwh
  generalize f + 1 = K at *
  clear hwo
  go_enter Try.func4, Try.ntmps4
  go_wp2_with (first | (go_at_call 5; refine (HL.out _).mono ?_; rintro e w1 ⟨rfl, b1⟩) | (go_at_call 8; refine (HW.out _).mono ?_; rintro e w2 ⟨g, rfl, hg, hrow, b2⟩; have HRW := hidD hrow; clear hrow) | (go_at_call 9; refine (HU.out _).mono ?_; clear HU; rintro e w3 ⟨rfl, b3⟩) | (go_at_call 10; refine (HH.out _).mono ?_; rintro e w4 ⟨rfl, b4⟩; have c4 := (CC.out w2 w3 w4 g HRW.out b3 b4)) | (go_at_call 11; refine (HN.out _).mono ?_; rintro e w5 ⟨rfl, rfl⟩) | (go_at_call 12; refine (HO.out _).mono ?_; rintro e w6 ⟨rfl, b6⟩) | (go_at_call 13; refine (HY.out _).mono ?_; rintro e w7 ⟨rfl, b7⟩) | (go_at_call 9; refine (HV.out _).mono ?_; rintro e w8 ⟨rfl, b8⟩; have c8 := (CD.out w2 w3 _ w6 w7 w8 g HRW.out b3 b4 b6 b7 b8)))
  go_ret
  exact ⟨by first | rfl | (simp; done), (Below.next (Below.next (Below.next (Below.next (Below.next (Below.next b1 b2) b3) b4) b6) b7) b8)⟩
set_option maxRecDepth 100000 in
set_option maxHeartbeats 3200000 in
theorem slots_yes_yes (S : ByteArray) (op : Nat) (ho : op < 256) (h : Nat) (hh : h < 256) (f : Nat) (hf : f < 56) (V : Nat) (N : ByteArray) (m k Bc Ec X1 X2 X3 Y1 Y2 Y3 : Nat) (HL : Hid (∀ w, Calls Try.prog 5 #[] w fun e w' => e = .returned (.bool true) ∧ Below w.heap.size w w')) (HW : Hid (∀ w, Calls Try.prog 8 #[] w fun e w' => ∃ g, e = .returned (.slice (some ⟨g, 0, none⟩) 256 256) ∧ w.heap.size ≤ g ∧ RowZ w' g .u32 256 (34 : TypeId) (wdF 56) ∧ Below w.heap.size w w')) (HN : Hid (∀ w, Calls Try.prog 11 #[.int .i64 0] w fun e w' => e = .returned (.int .i64 0) ∧ w' = w)) (HH : Hid (∀ w, Calls Try.prog 10 #[.string S, .int .i64 7, .int .i64 79] w fun e w' => e = .returned (.tuple #[.int .i64 (h : Int), .int .i64 0]) ∧ Below w.heap.size w w')) (HU : Hid (∀ w, Calls Try.prog 9 #[.string S] w fun e w' => e = .returned (.tuple #[.int .i64 (f : Int), .bool true]) ∧ Below w.heap.size w w')) (hwh : wdF 56 h = (V : Int)) (hq : (V : Int) / 16777216 = ((f + 1 : Nat) : Int)) (HO : Hid (∀ w, Calls Try.prog 12 #[.int .u8 (op : Int)] w fun e w' => e = .returned (.tuple #[.string N, .int .i64 (k : Int), .bool true]) ∧ Below w.heap.size w w')) (HY : Hid (∀ w, Calls Try.prog 13 #[.int .u8 (op : Int)] w fun e w' => e = .returned (.tuple #[.int .i64 (Bc : Int), .int .i64 (Ec : Int), .bool true]) ∧ Below w.heap.size w w')) (HV : Hid (∀ w, Calls Try.prog 9 #[.string N] w fun e w' => e = .returned (.tuple #[.int .i64 (m : Int), .bool true]) ∧ Below w.heap.size w w')) (T : Nat) (hwo : wdF 56 op = (T : Int)) (hand : bits .and .u32 (T : Int) 16777215 = (X3 : Int)) (hm : m < 56) (hk : k ≤ 12) (hbc : Bc ≤ 7) (hec : Ec ≤ 1) (t1 : (k : Int) * 256 = (Y1 : Int)) (t2 : (Bc : Int) * 4096 = (Y2 : Int)) (t3 : (Ec : Int) * 65536 = (Y3 : Int)) (o1 : bits .or .u32 ((m + 1 : Nat) : Int) (Y1 : Int) = (X1 : Int)) (o2 : bits .or .u32 (X1 : Int) (Y2 : Int) = (X2 : Int)) (o3 : bits .or .u32 (X2 : Int) (Y3 : Int) = (X3 : Int)) (q1 : Y1 ≤ 3072) (q2 : Y2 ≤ 28672) (q3 : Y3 ≤ 65536) (q4 : X3 < 100000) (w : World) : Calls Try.prog 4 #[.string S, .int .u8 (op : Int)] w fun e w' => e = .returned (.bool true) ∧ Below w.heap.size w w' := by
  have CC : Hid (∀ (w2 w3 w4 : World) (g : Nat), RowZ w2 g .u32 256 (34 : TypeId) (wdF 56) → Below w2.heap.size w2 w3 → Below w3.heap.size w3 w4 → w4.cell? ⟨g, h, none⟩ = some (.int .u32 (V : Int))) := fun w2 w3 w4 g hr h1 h2 => by rw [((hr.next h1).next h2).cell hh, hwh]
  have CD : Hid (∀ (w2 w3 w4 w6 w7 w8 : World) (g : Nat), RowZ w2 g .u32 256 (34 : TypeId) (wdF 56) → Below w2.heap.size w2 w3 → Below w3.heap.size w3 w4 → Below w4.heap.size w4 w6 → Below w6.heap.size w6 w7 → Below w7.heap.size w7 w8 → w8.cell? ⟨g, op, none⟩ = some (.int .u32 (T : Int))) := fun w2 w3 w4 w6 w7 w8 g hr h1 h2 h3 h4 h5 => by rw [(((((hr.next h1).next h2).next h3).next h4).next h5).cell ho, hwo]
  have hoi : (op : Int) < 256 := by omega
  have hhi : (h : Int) < 256 := by omega
  have e1 : (f : Int) + 1 = ((f + 1 : Nat) : Int) := by omega
  have hK : f + 1 ≤ 56 := by omega
  clear hwh
  generalize f + 1 = K at *
  have e5 : (m : Int) + 1 = ((m + 1 : Nat) : Int) := by omega
  have hK5 : m + 1 ≤ 56 := by omega
  clear hwo
  generalize m + 1 = K5 at *
  go_enter Try.func4, Try.ntmps4
  go_wp2_with (first | (go_at_call 5; refine (HL.out _).mono ?_; rintro e w1 ⟨rfl, b1⟩) | (go_at_call 8; refine (HW.out _).mono ?_; rintro e w2 ⟨g, rfl, hg, hrow, b2⟩; have HRW := hidD hrow; clear hrow) | (go_at_call 9; refine (HU.out _).mono ?_; clear HU; rintro e w3 ⟨rfl, b3⟩) | (go_at_call 10; refine (HH.out _).mono ?_; rintro e w4 ⟨rfl, b4⟩; have c4 := (CC.out w2 w3 w4 g HRW.out b3 b4)) | (go_at_call 11; refine (HN.out _).mono ?_; rintro e w5 ⟨rfl, rfl⟩) | (go_at_call 12; refine (HO.out _).mono ?_; rintro e w6 ⟨rfl, b6⟩) | (go_at_call 13; refine (HY.out _).mono ?_; rintro e w7 ⟨rfl, b7⟩) | (go_at_call 9; refine (HV.out _).mono ?_; rintro e w8 ⟨rfl, b8⟩; have c8 := (CD.out w2 w3 _ w6 w7 w8 g HRW.out b3 b4 b6 b7 b8)))
  go_ret
  exact ⟨by first | rfl | (simp; done), (Below.next (Below.next (Below.next (Below.next (Below.next (Below.next b1 b2) b3) b4) b6) b7) b8)⟩
set_option maxRecDepth 100000 in
set_option maxHeartbeats 3200000 in
theorem slots_no_no (S : ByteArray) (op : Nat) (ho : op < 256) (h : Nat) (hh : h < 256) (V V2 : Nat) (B : Bool) (HL : Hid (∀ w, Calls Try.prog 5 #[] w fun e w' => e = .returned (.bool true) ∧ Below w.heap.size w w')) (HW : Hid (∀ w, Calls Try.prog 8 #[] w fun e w' => ∃ g, e = .returned (.slice (some ⟨g, 0, none⟩) 256 256) ∧ w.heap.size ≤ g ∧ RowZ w' g .u32 256 (34 : TypeId) (wdF 56) ∧ Below w.heap.size w w')) (HN : Hid (∀ w, Calls Try.prog 11 #[.int .i64 0] w fun e w' => e = .returned (.int .i64 0) ∧ w' = w)) (HH : Hid (∀ w, Calls Try.prog 10 #[.string S, .int .i64 7, .int .i64 79] w fun e w' => e = .returned (.tuple #[.int .i64 (h : Int), .int .i64 0]) ∧ Below w.heap.size w w')) (HU : Hid (∀ w, Calls Try.prog 9 #[.string S] w fun e w' => e = .returned (.tuple #[.int .i64 0, .bool false]) ∧ Below w.heap.size w w')) (hwh : wdF 56 h = (V : Int)) (hq : (V : Int) / 16777216 = (V2 : Int)) (hB : ((V2 : Int) == 1) = B) (HO : Hid (∀ w, Calls Try.prog 12 #[.int .u8 (op : Int)] w fun e w' => e = .returned (.tuple #[.string ⟨#[]⟩, .int .i64 0, .bool false]) ∧ Below w.heap.size w w')) (HY : Hid (∀ w, Calls Try.prog 13 #[.int .u8 (op : Int)] w fun e w' => e = .returned (.tuple #[.int .i64 0, .int .i64 0, .bool false]) ∧ Below w.heap.size w w')) (HV : Hid (∀ w, Calls Try.prog 9 #[.string ⟨#[]⟩] w fun e w' => e = .returned (.tuple #[.int .i64 0, .bool false]) ∧ Below w.heap.size w w')) (T : Nat) (hwo : wdF 56 op = (T : Int)) (hand : bits .and .u32 (T : Int) 16777215 = 0) (w : World) : Calls Try.prog 4 #[.string S, .int .u8 (op : Int)] w fun e w' => e = .returned (.bool true) ∧ Below w.heap.size w w' := by
  have CC : Hid (∀ (w2 w3 w4 : World) (g : Nat), RowZ w2 g .u32 256 (34 : TypeId) (wdF 56) → Below w2.heap.size w2 w3 → Below w3.heap.size w3 w4 → w4.cell? ⟨g, h, none⟩ = some (.int .u32 (V : Int))) := fun w2 w3 w4 g hr h1 h2 => by rw [((hr.next h1).next h2).cell hh, hwh]
  have CD : Hid (∀ (w2 w3 w4 w6 w7 w8 : World) (g : Nat), RowZ w2 g .u32 256 (34 : TypeId) (wdF 56) → Below w2.heap.size w2 w3 → Below w3.heap.size w3 w4 → Below w4.heap.size w4 w6 → Below w6.heap.size w6 w7 → Below w7.heap.size w7 w8 → w8.cell? ⟨g, op, none⟩ = some (.int .u32 (T : Int))) := fun w2 w3 w4 w6 w7 w8 g hr h1 h2 h3 h4 h5 => by rw [(((((hr.next h1).next h2).next h3).next h4).next h5).cell ho, hwo]
  have hoi : (op : Int) < 256 := by omega
  have hhi : (h : Int) < 256 := by omega
  clear hwh
  cases B
  all_goals
    clear hwo
    go_enter Try.func4, Try.ntmps4
    go_wp2_with (first | (go_at_call 5; refine (HL.out _).mono ?_; rintro e w1 ⟨rfl, b1⟩) | (go_at_call 8; refine (HW.out _).mono ?_; rintro e w2 ⟨g, rfl, hg, hrow, b2⟩; have HRW := hidD hrow; clear hrow) | (go_at_call 9; refine (HU.out _).mono ?_; clear HU; rintro e w3 ⟨rfl, b3⟩) | (go_at_call 10; refine (HH.out _).mono ?_; rintro e w4 ⟨rfl, b4⟩; have c4 := (CC.out w2 w3 w4 g HRW.out b3 b4)) | (go_at_call 11; refine (HN.out _).mono ?_; rintro e w5 ⟨rfl, rfl⟩) | (go_at_call 12; refine (HO.out _).mono ?_; rintro e w6 ⟨rfl, b6⟩) | (go_at_call 13; refine (HY.out _).mono ?_; rintro e w7 ⟨rfl, b7⟩) | (go_at_call 9; refine (HV.out _).mono ?_; rintro e w8 ⟨rfl, b8⟩; have c8 := (CD.out w2 w3 _ w6 w7 w8 g HRW.out b3 b4 b6 b7 b8)))
    go_ret
    exact ⟨by first | rfl | (simp; done), (Below.next (Below.next (Below.next (Below.next (Below.next (Below.next b1 b2) b3) b4) b6) b7) b8)⟩
set_option maxRecDepth 100000 in
set_option maxHeartbeats 3200000 in
theorem slots_no_yes (S : ByteArray) (op : Nat) (ho : op < 256) (h : Nat) (hh : h < 256) (V V2 : Nat) (B : Bool) (N : ByteArray) (m k Bc Ec X1 X2 X3 Y1 Y2 Y3 : Nat) (HL : Hid (∀ w, Calls Try.prog 5 #[] w fun e w' => e = .returned (.bool true) ∧ Below w.heap.size w w')) (HW : Hid (∀ w, Calls Try.prog 8 #[] w fun e w' => ∃ g, e = .returned (.slice (some ⟨g, 0, none⟩) 256 256) ∧ w.heap.size ≤ g ∧ RowZ w' g .u32 256 (34 : TypeId) (wdF 56) ∧ Below w.heap.size w w')) (HN : Hid (∀ w, Calls Try.prog 11 #[.int .i64 0] w fun e w' => e = .returned (.int .i64 0) ∧ w' = w)) (HH : Hid (∀ w, Calls Try.prog 10 #[.string S, .int .i64 7, .int .i64 79] w fun e w' => e = .returned (.tuple #[.int .i64 (h : Int), .int .i64 0]) ∧ Below w.heap.size w w')) (HU : Hid (∀ w, Calls Try.prog 9 #[.string S] w fun e w' => e = .returned (.tuple #[.int .i64 0, .bool false]) ∧ Below w.heap.size w w')) (hwh : wdF 56 h = (V : Int)) (hq : (V : Int) / 16777216 = (V2 : Int)) (hB : ((V2 : Int) == 1) = B) (HO : Hid (∀ w, Calls Try.prog 12 #[.int .u8 (op : Int)] w fun e w' => e = .returned (.tuple #[.string N, .int .i64 (k : Int), .bool true]) ∧ Below w.heap.size w w')) (HY : Hid (∀ w, Calls Try.prog 13 #[.int .u8 (op : Int)] w fun e w' => e = .returned (.tuple #[.int .i64 (Bc : Int), .int .i64 (Ec : Int), .bool true]) ∧ Below w.heap.size w w')) (HV : Hid (∀ w, Calls Try.prog 9 #[.string N] w fun e w' => e = .returned (.tuple #[.int .i64 (m : Int), .bool true]) ∧ Below w.heap.size w w')) (T : Nat) (hwo : wdF 56 op = (T : Int)) (hand : bits .and .u32 (T : Int) 16777215 = (X3 : Int)) (hm : m < 56) (hk : k ≤ 12) (hbc : Bc ≤ 7) (hec : Ec ≤ 1) (t1 : (k : Int) * 256 = (Y1 : Int)) (t2 : (Bc : Int) * 4096 = (Y2 : Int)) (t3 : (Ec : Int) * 65536 = (Y3 : Int)) (o1 : bits .or .u32 ((m + 1 : Nat) : Int) (Y1 : Int) = (X1 : Int)) (o2 : bits .or .u32 (X1 : Int) (Y2 : Int) = (X2 : Int)) (o3 : bits .or .u32 (X2 : Int) (Y3 : Int) = (X3 : Int)) (q1 : Y1 ≤ 3072) (q2 : Y2 ≤ 28672) (q3 : Y3 ≤ 65536) (q4 : X3 < 100000) (w : World) : Calls Try.prog 4 #[.string S, .int .u8 (op : Int)] w fun e w' => e = .returned (.bool true) ∧ Below w.heap.size w w' := by
  have CC : Hid (∀ (w2 w3 w4 : World) (g : Nat), RowZ w2 g .u32 256 (34 : TypeId) (wdF 56) → Below w2.heap.size w2 w3 → Below w3.heap.size w3 w4 → w4.cell? ⟨g, h, none⟩ = some (.int .u32 (V : Int))) := fun w2 w3 w4 g hr h1 h2 => by rw [((hr.next h1).next h2).cell hh, hwh]
  have CD : Hid (∀ (w2 w3 w4 w6 w7 w8 : World) (g : Nat), RowZ w2 g .u32 256 (34 : TypeId) (wdF 56) → Below w2.heap.size w2 w3 → Below w3.heap.size w3 w4 → Below w4.heap.size w4 w6 → Below w6.heap.size w6 w7 → Below w7.heap.size w7 w8 → w8.cell? ⟨g, op, none⟩ = some (.int .u32 (T : Int))) := fun w2 w3 w4 w6 w7 w8 g hr h1 h2 h3 h4 h5 => by rw [(((((hr.next h1).next h2).next h3).next h4).next h5).cell ho, hwo]
  have hoi : (op : Int) < 256 := by omega
  have hhi : (h : Int) < 256 := by omega
  clear hwh
  cases B
  all_goals
    have e5 : (m : Int) + 1 = ((m + 1 : Nat) : Int) := by omega
    have hK5 : m + 1 ≤ 56 := by omega
    clear hwo
    generalize m + 1 = K5 at *
    go_enter Try.func4, Try.ntmps4
    go_wp2_with (first | (go_at_call 5; refine (HL.out _).mono ?_; rintro e w1 ⟨rfl, b1⟩) | (go_at_call 8; refine (HW.out _).mono ?_; rintro e w2 ⟨g, rfl, hg, hrow, b2⟩; have HRW := hidD hrow; clear hrow) | (go_at_call 9; refine (HU.out _).mono ?_; clear HU; rintro e w3 ⟨rfl, b3⟩) | (go_at_call 10; refine (HH.out _).mono ?_; rintro e w4 ⟨rfl, b4⟩; have c4 := (CC.out w2 w3 w4 g HRW.out b3 b4)) | (go_at_call 11; refine (HN.out _).mono ?_; rintro e w5 ⟨rfl, rfl⟩) | (go_at_call 12; refine (HO.out _).mono ?_; rintro e w6 ⟨rfl, b6⟩) | (go_at_call 13; refine (HY.out _).mono ?_; rintro e w7 ⟨rfl, b7⟩) | (go_at_call 9; refine (HV.out _).mono ?_; rintro e w8 ⟨rfl, b8⟩; have c8 := (CD.out w2 w3 _ w6 w7 w8 g HRW.out b3 b4 b6 b7 b8)))
    go_ret
    exact ⟨by first | rfl | (simp; done), (Below.next (Below.next (Below.next (Below.next (Below.next (Below.next b1 b2) b3) b4) b6) b7) b8)⟩
end Go.Proofs.Ytfecadongbmfhab
