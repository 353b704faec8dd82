/- What instructionOf, baseOf and extraOf answer. -/
import Derived.Test.YtfecadongbmfhaaOp3
import Derived.Test.YtfecadongbmfhaaOp4
import Derived.Test.YtfecadongbmfhaaOp5
namespace Go.Proofs.Ytfecadongbmfhaa
open Go.RowKit
set_option linter.unusedVariables false

theorem two_zero (w : World) : ((w.alloc (.cells #[.int .i64 0, .int .i64 0] (64 : TypeId))).alloc (.cells #[.int .i64 0, .int .i64 0] (64 : TypeId))).heap[w.heap.size]? = some (.cells #[.int .i64 0, .int .i64 0] (64 : TypeId) (0, 0))
    ∧ ((w.alloc (.cells #[.int .i64 0, .int .i64 0] (64 : TypeId))).alloc (.cells #[.int .i64 0, .int .i64 0] (64 : TypeId))).heap[w.heap.size + 1]? = some (.cells #[.int .i64 0, .int .i64 0] (64 : TypeId) (0, 0))
    ∧ Below w.heap.size w ((w.alloc (.cells #[.int .i64 0, .int .i64 0] (64 : TypeId))).alloc (.cells #[.int .i64 0, .int .i64 0] (64 : TypeId))) := by
  obtain ⟨h1, h2, h3, _⟩ := two_blocks w #[.int .i64 0, .int .i64 0] #[.int .i64 0, .int .i64 0] (64 : TypeId)
  exact ⟨h1, h2, h3⟩
theorem in_row {w : World} {g m k : Nat} (h : w.heap[g]? = some (.cells (inC m k) (64 : TypeId) (0, 0))) : w.cell? ⟨g, 0, none⟩ = some (.int .i64 (m : Int)) := by
  rw [cell_of_row _ _ _ _ _ _ h]; rfl
theorem in_row1 {w : World} {g m k : Nat} (h : w.heap[g]? = some (.cells (inC m k) (64 : TypeId) (0, 0))) : w.cell? ⟨g, 1, none⟩ = some (.int .i64 (k : Int)) := by
  rw [cell_of_row _ _ _ _ _ _ h]; rfl
/- what the call of one field's function is followed by -/
theorem in_two {w w0 w2 : World} {g : Nat} (hA : w0.heap[g]? = some (.cells #[.int .i64 0, .int .i64 0] (64 : TypeId) (0, 0))) (hB : w0.heap[g + 1]? = some (.cells #[.int .i64 0, .int .i64 0] (64 : TypeId) (0, 0))) (hg : w.heap.size ≤ g) (hL : Below w.heap.size w w0) (hb : Below w0.heap.size w0 w2) (m k : Nat) :
    w2.heap[g + 1]? = some (.cells #[.int .i64 0, .int .i64 0] (64 : TypeId) (0, 0))
    ∧ (w2.setRow (g + 1) (inC m k)).heap[g + 1]? = some (.cells (inC m k) (64 : TypeId) (0, 0))
    ∧ (w2.setRow (g + 1) (inC m k)).heap[g]? = some (.cells #[.int .i64 0, .int .i64 0] (64 : TypeId) (0, 0)) ∧ Below w.heap.size w (w2.setRow (g + 1) (inC m k)) := by
  have h1 := (hb.block _ (row_lt hB)).trans hB
  refine ⟨h1, setRow_heap _ _ _ _ _ _ h1, ?_, below_setRow (hL.trans (hb.mono hL.size)) (by omega) _⟩
  rw [setRow_other _ _ _ _ (by omega)]
  exact (hb.block _ (row_lt hA)).trans hA
def arm (m k : Nat) : Nat × Nat := if m = 0 then (0, 0) else (m, k)
set_option maxRecDepth 100000 in
set_option maxHeartbeats 1600000 in
theorem ins_0 (op a b m k : Nat) (ho : op < 256) (h1 : (op : Int) / 32 = (a : Int)) (h2 : (op : Int) / 4 % 8 = (b : Int)) (h3 : bits .and .u8 (op : Int) 3 = 0) (ha : a < 8) (hb : b < 8)
    (HC : Hid (∀ w, Calls Try.prog 55 #[.int .i64 (a : Int), .int .i64 (b : Int)] w fun e w' => e = .returned (.agg (inC m k)) ∧ Below w.heap.size w w')) (w : World) : Calls Try.prog 40 #[.int .u8 (op : Int)] w fun e w' => e = .returned (.agg (inC (arm m k).1 (arm m k).2)) ∧ Below w.heap.size w w' := by
  obtain ⟨hA, hB, hL⟩ := two_zero w
  have HA := hidD hA
  have HB := hidD hB
  have HL := hidD hL
  clear hA hB hL
  by_cases h0 : m = 0
  · subst h0
    rw [show arm 0 k = (0, 0) from rfl]
    go_enter Try.func40, Try.ntmps40
    go_wp2_with (first | (refine wpList_store_row rfl 64 _ _ rfl w.heap.size (inC 0 0) rfl rfl 64 #[.int .i64 0, .int .i64 0] R3.out in_size rfl (in_one 0 0) ?_) | (refine wpList_store_row rfl 64 _ _ rfl (w.heap.size + 1) (inC 0 k) rfl rfl 64 #[.int .i64 0, .int .i64 0] R1.out in_size rfl (in_one 0 k) ?_) | (go_at_call 55; refine (HC.out _).mono ?_; rintro e w2 ⟨rfl, hb2⟩; obtain ⟨r1, r2, r3, r4⟩ := in_two HA.out HB.out (Nat.le_refl _) HL.out hb2 0 k; have R1 := hidD r1; have R2 := hidD r2; have R3 := hidD r3; have R4 := hidD r4; have c0 := in_row r2; clear r1 r2 r3 r4 hb2))
    refine bodyPost_ret (results_cell_row (P := Try.prog) (p := 2) (ty := 64) (by kernel_rfl) _ _ w.heap.size 64 (inC 0 0) (0, 0) _ rfl (setRow_heap _ _ _ _ _ _ R3.out) Try.underlying64 rfl in_size) rfl ?_
    exact ⟨rfl, below_setRow R4.out (Nat.le_refl _) _⟩
  · have hm0 : ¬ (m : Int) = 0 := by omega
    rw [show arm m k = (m, k) from if_neg h0]
    go_enter Try.func40, Try.ntmps40
    go_wp2_with (first | (refine wpList_store_row rfl 64 _ _ rfl w.heap.size (inC m k) rfl rfl 64 #[.int .i64 0, .int .i64 0] R3.out in_size rfl (in_one m k) ?_) | (refine wpList_load_row rfl 64 _ rfl (w.heap.size + 1) rfl 64 (inC m k) (0, 0) _ R2.out Try.underlying64 rfl in_size ?_) | (refine wpList_store_row rfl 64 _ _ rfl (w.heap.size + 1) (inC m k) rfl rfl 64 #[.int .i64 0, .int .i64 0] R1.out in_size rfl (in_one m k) ?_) | (go_at_call 55; refine (HC.out _).mono ?_; rintro e w2 ⟨rfl, hb2⟩; obtain ⟨r1, r2, r3, r4⟩ := in_two HA.out HB.out (Nat.le_refl _) HL.out hb2 m k; have R1 := hidD r1; have R2 := hidD r2; have R3 := hidD r3; have R4 := hidD r4; have c0 := in_row r2; clear r1 r2 r3 r4 hb2))
    refine bodyPost_ret (results_cell_row (P := Try.prog) (p := 2) (ty := 64) (by kernel_rfl) _ _ w.heap.size 64 (inC m k) (0, 0) _ rfl (setRow_heap _ _ _ _ _ _ R3.out) Try.underlying64 rfl in_size) rfl ?_
    exact ⟨rfl, below_setRow R4.out (Nat.le_refl _) _⟩
set_option maxRecDepth 100000 in
set_option maxHeartbeats 1600000 in
theorem ins_1 (op a b m k : Nat) (ho : op < 256) (h1 : (op : Int) / 32 = (a : Int)) (h2 : (op : Int) / 4 % 8 = (b : Int)) (h3 : bits .and .u8 (op : Int) 3 = 1) (ha : a < 8) (hb : b < 8)
    (HC : Hid (∀ w, Calls Try.prog 56 #[.int .i64 (a : Int), .int .i64 (b : Int)] w fun e w' => e = .returned (.agg (inC m k)) ∧ Below w.heap.size w w')) (w : World) : Calls Try.prog 40 #[.int .u8 (op : Int)] w fun e w' => e = .returned (.agg (inC (arm m k).1 (arm m k).2)) ∧ Below w.heap.size w w' := by
  obtain ⟨hA, hB, hL⟩ := two_zero w
  have HA := hidD hA
  have HB := hidD hB
  have HL := hidD hL
  clear hA hB hL
  by_cases h0 : m = 0
  · subst h0
    rw [show arm 0 k = (0, 0) from rfl]
    go_enter Try.func40, Try.ntmps40
    go_wp2_with (first | (refine wpList_store_row rfl 64 _ _ rfl w.heap.size (inC 0 0) rfl rfl 64 #[.int .i64 0, .int .i64 0] R3.out in_size rfl (in_one 0 0) ?_) | (refine wpList_store_row rfl 64 _ _ rfl (w.heap.size + 1) (inC 0 k) rfl rfl 64 #[.int .i64 0, .int .i64 0] R1.out in_size rfl (in_one 0 k) ?_) | (go_at_call 56; refine (HC.out _).mono ?_; rintro e w2 ⟨rfl, hb2⟩; obtain ⟨r1, r2, r3, r4⟩ := in_two HA.out HB.out (Nat.le_refl _) HL.out hb2 0 k; have R1 := hidD r1; have R2 := hidD r2; have R3 := hidD r3; have R4 := hidD r4; have c0 := in_row r2; clear r1 r2 r3 r4 hb2))
    refine bodyPost_ret (results_cell_row (P := Try.prog) (p := 2) (ty := 64) (by kernel_rfl) _ _ w.heap.size 64 (inC 0 0) (0, 0) _ rfl (setRow_heap _ _ _ _ _ _ R3.out) Try.underlying64 rfl in_size) rfl ?_
    exact ⟨rfl, below_setRow R4.out (Nat.le_refl _) _⟩
  · have hm0 : ¬ (m : Int) = 0 := by omega
    rw [show arm m k = (m, k) from if_neg h0]
    go_enter Try.func40, Try.ntmps40
    go_wp2_with (first | (refine wpList_store_row rfl 64 _ _ rfl w.heap.size (inC m k) rfl rfl 64 #[.int .i64 0, .int .i64 0] R3.out in_size rfl (in_one m k) ?_) | (refine wpList_load_row rfl 64 _ rfl (w.heap.size + 1) rfl 64 (inC m k) (0, 0) _ R2.out Try.underlying64 rfl in_size ?_) | (refine wpList_store_row rfl 64 _ _ rfl (w.heap.size + 1) (inC m k) rfl rfl 64 #[.int .i64 0, .int .i64 0] R1.out in_size rfl (in_one m k) ?_) | (go_at_call 56; refine (HC.out _).mono ?_; rintro e w2 ⟨rfl, hb2⟩; obtain ⟨r1, r2, r3, r4⟩ := in_two HA.out HB.out (Nat.le_refl _) HL.out hb2 m k; have R1 := hidD r1; have R2 := hidD r2; have R3 := hidD r3; have R4 := hidD r4; have c0 := in_row r2; clear r1 r2 r3 r4 hb2))
    refine bodyPost_ret (results_cell_row (P := Try.prog) (p := 2) (ty := 64) (by kernel_rfl) _ _ w.heap.size 64 (inC m k) (0, 0) _ rfl (setRow_heap _ _ _ _ _ _ R3.out) Try.underlying64 rfl in_size) rfl ?_
    exact ⟨rfl, below_setRow R4.out (Nat.le_refl _) _⟩
set_option maxRecDepth 100000 in
set_option maxHeartbeats 1600000 in
theorem ins_2 (op a b m k : Nat) (ho : op < 256) (h1 : (op : Int) / 32 = (a : Int)) (h2 : (op : Int) / 4 % 8 = (b : Int)) (h3 : bits .and .u8 (op : Int) 3 = 2) (ha : a < 8) (hb : b < 8)
    (HC : Hid (∀ w, Calls Try.prog 57 #[.int .i64 (a : Int), .int .i64 (b : Int)] w fun e w' => e = .returned (.agg (inC m k)) ∧ Below w.heap.size w w')) (w : World) : Calls Try.prog 40 #[.int .u8 (op : Int)] w fun e w' => e = .returned (.agg (inC (arm m k).1 (arm m k).2)) ∧ Below w.heap.size w w' := by
  obtain ⟨hA, hB, hL⟩ := two_zero w
  have HA := hidD hA
  have HB := hidD hB
  have HL := hidD hL
  clear hA hB hL
  by_cases h0 : m = 0
  · subst h0
    rw [show arm 0 k = (0, 0) from rfl]
    go_enter Try.func40, Try.ntmps40
    go_wp2_with (first | (refine wpList_store_row rfl 64 _ _ rfl w.heap.size (inC 0 0) rfl rfl 64 #[.int .i64 0, .int .i64 0] R3.out in_size rfl (in_one 0 0) ?_) | (refine wpList_store_row rfl 64 _ _ rfl (w.heap.size + 1) (inC 0 k) rfl rfl 64 #[.int .i64 0, .int .i64 0] R1.out in_size rfl (in_one 0 k) ?_) | (go_at_call 57; refine (HC.out _).mono ?_; rintro e w2 ⟨rfl, hb2⟩; obtain ⟨r1, r2, r3, r4⟩ := in_two HA.out HB.out (Nat.le_refl _) HL.out hb2 0 k; have R1 := hidD r1; have R2 := hidD r2; have R3 := hidD r3; have R4 := hidD r4; have c0 := in_row r2; clear r1 r2 r3 r4 hb2))
    refine bodyPost_ret (results_cell_row (P := Try.prog) (p := 2) (ty := 64) (by kernel_rfl) _ _ w.heap.size 64 (inC 0 0) (0, 0) _ rfl (setRow_heap _ _ _ _ _ _ R3.out) Try.underlying64 rfl in_size) rfl ?_
    exact ⟨rfl, below_setRow R4.out (Nat.le_refl _) _⟩
  · have hm0 : ¬ (m : Int) = 0 := by omega
    rw [show arm m k = (m, k) from if_neg h0]
    go_enter Try.func40, Try.ntmps40
    go_wp2_with (first | (refine wpList_store_row rfl 64 _ _ rfl w.heap.size (inC m k) rfl rfl 64 #[.int .i64 0, .int .i64 0] R3.out in_size rfl (in_one m k) ?_) | (refine wpList_load_row rfl 64 _ rfl (w.heap.size + 1) rfl 64 (inC m k) (0, 0) _ R2.out Try.underlying64 rfl in_size ?_) | (refine wpList_store_row rfl 64 _ _ rfl (w.heap.size + 1) (inC m k) rfl rfl 64 #[.int .i64 0, .int .i64 0] R1.out in_size rfl (in_one m k) ?_) | (go_at_call 57; refine (HC.out _).mono ?_; rintro e w2 ⟨rfl, hb2⟩; obtain ⟨r1, r2, r3, r4⟩ := in_two HA.out HB.out (Nat.le_refl _) HL.out hb2 m k; have R1 := hidD r1; have R2 := hidD r2; have R3 := hidD r3; have R4 := hidD r4; have c0 := in_row r2; clear r1 r2 r3 r4 hb2))
    refine bodyPost_ret (results_cell_row (P := Try.prog) (p := 2) (ty := 64) (by kernel_rfl) _ _ w.heap.size 64 (inC m k) (0, 0) _ rfl (setRow_heap _ _ _ _ _ _ R3.out) Try.underlying64 rfl in_size) rfl ?_
    exact ⟨rfl, below_setRow R4.out (Nat.le_refl _) _⟩
set_option maxRecDepth 100000 in
set_option maxHeartbeats 800000 in
theorem ins_3 (op a b : Nat) (ho : op < 256) (h1 : (op : Int) / 32 = (a : Int)) (h2 : (op : Int) / 4 % 8 = (b : Int)) (h3 : bits .and .u8 (op : Int) 3 = 3) (ha : a < 8) (hb : b < 8) (w : World) : Calls Try.prog 40 #[.int .u8 (op : Int)] w fun e w' => e = .returned (.agg (inC 0 0)) ∧ Below w.heap.size w w' := by
  obtain ⟨hA, hB, hL⟩ := two_zero w
  have HA := hidD hA
  have HL := hidD hL
  have c0 := in_row (m := 0) (k := 0) hB
  clear hA hB hL
  go_enter Try.func40, Try.ntmps40
  go_wp2_with (refine wpList_store_row rfl 64 _ _ rfl w.heap.size (inC 0 0) rfl rfl 64 #[.int .i64 0, .int .i64 0] HA.out in_size rfl (in_one 0 0) ?_)
  refine bodyPost_ret (results_cell_row (P := Try.prog) (p := 2) (ty := 64) (by kernel_rfl) _ _ w.heap.size 64 (inC 0 0) (0, 0) _ rfl (setRow_heap _ _ _ _ _ _ HA.out) Try.underlying64 rfl in_size) rfl ?_
  exact ⟨rfl, below_setRow HL.out (Nat.le_refl _) _⟩
theorem low2 : ∀ op : Nat, op < 256 → bits .and .u8 (op : Int) 3 = ((op % 4 : Nat) : Int) := by decide +kernel
theorem fields (op : Nat) (h : op < 256) : (op : Int) / 32 = ((op / 32 : Nat) : Int) ∧ (op : Int) / 4 % 8 = ((op / 4 % 8 : Nat) : Int) ∧ bits .and .u8 (op : Int) 3 = ((op % 4 : Nat) : Int) := ⟨by omega, by omega, low2 op h⟩
theorem instructionOf_any (op : Nat) (ho : op < 256) (w : World) : Calls Try.prog 40 #[.int .u8 (op : Int)] w fun e w' => e = .returned (.agg (inC (inS op).1 (inS op).2)) ∧ Below w.heap.size w w' := by
  obtain ⟨h1, h2, h3⟩ := fields op ho
  have ha : op / 32 < 8 := by omega
  have hb : op / 4 % 8 < 8 := by omega
  have he : op = 32 * (op / 32) + 4 * (op / 4 % 8) + op % 4 := by omega
  have hm : op % 4 = 0 ∨ op % 4 = 1 ∨ op % 4 = 2 ∨ op % 4 = 3 := by omega
  rcases hm with hm | hm | hm | hm <;> rw [hm] at h3 he
  · have e := in_c0 _ ha _ hb
    rw [← show op = 32 * (op / 32) + 4 * (op / 4 % 8) from he] at e
    have := ins_0 op _ _ (c0S (op / 32) (op / 4 % 8)).1 (c0S (op / 32) (op / 4 % 8)).2 ho h1 h2 h3 ha hb (fun w => withC0_any _ _ ha hb w) w
    rw [e]
    exact this
  · have e := in_c1 _ ha _ hb
    rw [← he] at e
    have := ins_1 op _ _ (c1S (op / 32) (op / 4 % 8)).1 (c1S (op / 32) (op / 4 % 8)).2 ho h1 h2 h3 ha hb (fun w => withC1_any _ _ ha hb w) w
    rw [e]
    exact this
  · have e := in_c2 _ ha _ hb
    rw [← he] at e
    have := ins_2 op _ _ (c2S (op / 32) (op / 4 % 8)).1 (c2S (op / 32) (op / 4 % 8)).2 ho h1 h2 h3 ha hb (fun w => withC2_any _ _ ha hb w) w
    rw [e]
    exact this
  · have e := in_c3 _ ha _ hb
    rw [← he] at e
    rw [e]
    exact ins_3 op _ _ ho h1 h2 h3 ha hb w
end Go.Proofs.Ytfecadongbmfhaa
