/- What turned, turns and shifts answer, of both widths. -/
import Derived.Test.YtnldpofljeodiaaUtl
import Derived.Laws.BitsAllLaws
namespace Go.Proofs.Ytnldpofljeodiaa
open Go.RowKit
set_option linter.unusedVariables false

/- a word of W bits turned to the right by n -/
def rotr (W x n : Nat) : Nat := x / 2 ^ n ||| x * 2 ^ (W - n) % 2 ^ W
theorem rotr_lt (W x n : Nat) (h : x < 2 ^ W) : rotr W x n < 2 ^ W := Nat.or_lt_two_pow (Nat.lt_of_le_of_lt (Nat.div_le_self _ _) h) (Nat.mod_lt _ (Nat.two_pow_pos W))
def turnsS (W x a b c : Nat) : Nat := (rotr W x a ^^^ rotr W x b) ^^^ rotr W x c
theorem turnsS_lt (W x a b c : Nat) (h : x < 2 ^ W) : turnsS W x a b c < 2 ^ W := Nat.xor_lt_two_pow (Nat.xor_lt_two_pow (rotr_lt W x a h) (rotr_lt W x b h)) (rotr_lt W x c h)
def shiftsS (W x a b c : Nat) : Nat := (rotr W x a ^^^ rotr W x b) ^^^ (x / 2 ^ c)
theorem shiftsS_lt (W x a b c : Nat) (h : x < 2 ^ W) : shiftsS W x a b c < 2 ^ W := Nat.xor_lt_two_pow (Nat.xor_lt_two_pow (rotr_lt W x a h) (rotr_lt W x b h)) (Nat.lt_of_le_of_lt (Nat.div_le_self _ _) h)
def row3 (a b c : Nat) : Array Value := #[.int .i64 (a : Int), .int .i64 (b : Int), .int .i64 (c : Int)]

set_option maxRecDepth 100000 in
theorem turned64_any (x n : Nat) (hx : x < 18446744073709551616) (hn : n ≤ 64) (w : World) : Calls Try.prog 91 #[.int .u64 (x : Int), .int .i64 (n : Int), .int .i64 64] w fun e w' => e = .returned (.int .u64 (rotr 64 x n : Int)) ∧ Below w.heap.size w w' := by
  have hsub : (64 : Int) - (n : Int) = ((64 - n : Nat) : Int) := by omega
  have hor : bits .or .u64 ((x : Int) / 2 ^ n) (IntKind.u64.wrap ((x : Int) * 2 ^ (64 - n))) = (rotr 64 x n : Int) := by
    rw [show IntKind.u64.wrap ((x : Int) * 2 ^ (64 - n)) = (x : Int) * 2 ^ (64 - n) % 18446744073709551616 from rfl]
    rw [show (x : Int) / 2 ^ n = ((x / 2 ^ n : Nat) : Int) by simp, show (x : Int) * 2 ^ (64 - n) % 18446744073709551616 = ((x * 2 ^ (64 - n) % 18446744073709551616 : Nat) : Int) by simp, u64_or_nat _ _ (Nat.lt_of_le_of_lt (Nat.div_le_self _ _) hx) (Nat.mod_lt _ (by omega))]; rfl
  have hm : 64 - n ≤ 64 := by omega
  generalize 64 - n = m at *
  generalize (rotr 64 x n : Int) = R at *
  go_enter Try.func91, Try.ntmps91
  go_wp2_with fail
  go_quiet (fail)
  go_wp2_with fail
  go_ret
  exact ⟨rfl, below_drewN (Below.refl _ _) _⟩

set_option maxRecDepth 100000 in
theorem turned32_any (x n : Nat) (hx : x < 4294967296) (hn : n ≤ 32) (w : World) : Calls Try.prog 92 #[.int .u32 (x : Int), .int .i64 (n : Int), .int .i64 32] w fun e w' => e = .returned (.int .u32 (rotr 32 x n : Int)) ∧ Below w.heap.size w w' := by
  have hsub : (32 : Int) - (n : Int) = ((32 - n : Nat) : Int) := by omega
  have hor : bits .or .u32 ((x : Int) / 2 ^ n) ((x : Int) * 2 ^ (32 - n) % 4294967296) = (rotr 32 x n : Int) := by
    skip
    rw [show (x : Int) / 2 ^ n = ((x / 2 ^ n : Nat) : Int) by simp, show (x : Int) * 2 ^ (32 - n) % 4294967296 = ((x * 2 ^ (32 - n) % 4294967296 : Nat) : Int) by simp, u32_or_nat _ _ (Nat.lt_of_le_of_lt (Nat.div_le_self _ _) hx) (Nat.mod_lt _ (by omega))]; rfl
  have hm : 32 - n ≤ 32 := by omega
  generalize 32 - n = m at *
  generalize (rotr 32 x n : Int) = R at *
  go_enter Try.func92, Try.ntmps92
  go_wp2_with fail
  go_quiet (fail)
  go_wp2_with fail
  go_ret
  exact ⟨rfl, below_drewN (Below.refl _ _) _⟩

set_option maxRecDepth 100000 in
set_option maxHeartbeats 800000 in
theorem turns64_any (x a b c : Nat) (hx : x < 18446744073709551616) (ha : a ≤ 64) (hb : b ≤ 64) (hc : c ≤ 64) (w : World) : Calls Try.prog 83 #[.int .u64 (x : Int), .agg (row3 a b c), .int .i64 64] w fun e w' => e = .returned (.int .u64 (turnsS 64 x a b c : Int)) ∧ Below w.heap.size w w' := by
  have HT : Hid (∀ n : Nat, n ≤ 64 → ∀ w, Calls Try.prog 91 #[.int .u64 (x : Int), .int .i64 (n : Int), .int .i64 64] w fun e w' => e = .returned (.int .u64 (rotr 64 x n : Int)) ∧ Below w.heap.size w w') := fun n hn w => turned64_any x n hx hn w
  have h1 : bits .xor .u64 (rotr 64 x a : Int) (rotr 64 x b : Int) = ((rotr 64 x a ^^^ rotr 64 x b : Nat) : Int) := u64_xor_nat _ _ (rotr_lt 64 x a hx) (rotr_lt 64 x b hx)
  have hcW : c ≤ 64 := by omega
  have h2 : bits .xor .u64 ((rotr 64 x a ^^^ rotr 64 x b : Nat) : Int) ((rotr 64 x c : Int)) = (turnsS 64 x a b c : Int) := by
    skip
    exact u64_xor_nat _ _ (Nat.xor_lt_two_pow (n := 64) (rotr_lt 64 x a hx) (rotr_lt 64 x b hx)) (rotr_lt 64 x c hx)
  generalize (turnsS 64 x a b c : Int) = R at *
  generalize ((rotr 64 x a ^^^ rotr 64 x b : Nat) : Int) = R1 at *
  unfold row3
  have hr0 : (w.alloc (.cells #[.int .i64 (a : Int), .int .i64 (b : Int), .int .i64 (c : Int)] (94 : TypeId))).heap[w.heap.size]? = some (.cells #[.int .i64 (a : Int), .int .i64 (b : Int), .int .i64 (c : Int)] (94 : TypeId) (0, 0)) := heap_alloc_last _ _
  have HB : Hid (Below w.heap.size w (w.alloc (.cells #[.int .i64 (a : Int), .int .i64 (b : Int), .int .i64 (c : Int)] (94 : TypeId)))) := (Below.refl _ _).alloc (Nat.le_refl _) _
  have HC : Hid (∀ wA, Below (w.alloc (.cells #[.int .i64 (a : Int), .int .i64 (b : Int), .int .i64 (c : Int)] (94 : TypeId))).heap.size (w.alloc (.cells #[.int .i64 (a : Int), .int .i64 (b : Int), .int .i64 (c : Int)] (94 : TypeId))) wA → wA.heap[w.heap.size]? = some (.cells #[.int .i64 (a : Int), .int .i64 (b : Int), .int .i64 (c : Int)] (94 : TypeId) (0, 0))) := fun wA h => (h.block _ (row_lt hr0)).trans hr0
  clear hr0
  go_enter Try.func83, Try.ntmps83
  go_wp2_with fail
  generalize w.alloc (.cells #[.int .i64 (a : Int), .int .i64 (b : Int), .int .i64 (c : Int)] (94 : TypeId)) = w1 at *
  have c0 : ∀ i : BW w1, i.v.cell? ⟨w.heap.size, 0, none⟩ = some (.int .i64 (a : Int)) := fun i => by rw [cell_of_row _ _ _ _ _ _ (HC.out _ i.below)]; rfl
  have c1 : ∀ i : BW w1, i.v.cell? ⟨w.heap.size, 1, none⟩ = some (.int .i64 (b : Int)) := fun i => by rw [cell_of_row _ _ _ _ _ _ (HC.out _ i.below)]; rfl
  have c2 : ∀ i : BW w1, i.v.cell? ⟨w.heap.size, 2, none⟩ = some (.int .i64 (c : Int)) := fun i => by rw [cell_of_row _ _ _ _ _ _ (HC.out _ i.below)]; rfl
  refine wp_region_below (by kernel_rfl) (by kernel_rfl) ?_
  repeat (go_big_quiet_step ((go_at_call 91; exact Calls.below_of (HT.out _ (by assumption) _))))
  refine wpQuiet_nil ?_
  intro i
  clear c0 c1 c2
  go_wp2_with fail
  go_ret
  exact ⟨by first | rfl | (rw [h2]), HB.out.trans (i.below.mono HB.out.size)⟩

set_option maxRecDepth 100000 in
set_option maxHeartbeats 800000 in
theorem shifts64_any (x a b c : Nat) (hx : x < 18446744073709551616) (ha : a ≤ 64) (hb : b ≤ 64) (hc : c < 32) (w : World) : Calls Try.prog 82 #[.int .u64 (x : Int), .agg (row3 a b c), .int .i64 64] w fun e w' => e = .returned (.int .u64 (shiftsS 64 x a b c : Int)) ∧ Below w.heap.size w w' := by
  have HT : Hid (∀ n : Nat, n ≤ 64 → ∀ w, Calls Try.prog 91 #[.int .u64 (x : Int), .int .i64 (n : Int), .int .i64 64] w fun e w' => e = .returned (.int .u64 (rotr 64 x n : Int)) ∧ Below w.heap.size w w') := fun n hn w => turned64_any x n hx hn w
  have h1 : bits .xor .u64 (rotr 64 x a : Int) (rotr 64 x b : Int) = ((rotr 64 x a ^^^ rotr 64 x b : Nat) : Int) := u64_xor_nat _ _ (rotr_lt 64 x a hx) (rotr_lt 64 x b hx)
  have hcW : c ≤ 64 := by omega
  have h2 : bits .xor .u64 ((rotr 64 x a ^^^ rotr 64 x b : Nat) : Int) ((x : Int) / 2 ^ c) = (shiftsS 64 x a b c : Int) := by
    rw [show (x : Int) / 2 ^ c = ((x / 2 ^ c : Nat) : Int) by simp]
    exact u64_xor_nat _ _ (Nat.xor_lt_two_pow (n := 64) (rotr_lt 64 x a hx) (rotr_lt 64 x b hx)) (Nat.lt_of_le_of_lt (Nat.div_le_self _ _) hx)
  generalize (shiftsS 64 x a b c : Int) = R at *
  generalize ((rotr 64 x a ^^^ rotr 64 x b : Nat) : Int) = R1 at *
  unfold row3
  have hr0 : (w.alloc (.cells #[.int .i64 (a : Int), .int .i64 (b : Int), .int .i64 (c : Int)] (94 : TypeId))).heap[w.heap.size]? = some (.cells #[.int .i64 (a : Int), .int .i64 (b : Int), .int .i64 (c : Int)] (94 : TypeId) (0, 0)) := heap_alloc_last _ _
  have HB : Hid (Below w.heap.size w (w.alloc (.cells #[.int .i64 (a : Int), .int .i64 (b : Int), .int .i64 (c : Int)] (94 : TypeId)))) := (Below.refl _ _).alloc (Nat.le_refl _) _
  have HC : Hid (∀ wA, Below (w.alloc (.cells #[.int .i64 (a : Int), .int .i64 (b : Int), .int .i64 (c : Int)] (94 : TypeId))).heap.size (w.alloc (.cells #[.int .i64 (a : Int), .int .i64 (b : Int), .int .i64 (c : Int)] (94 : TypeId))) wA → wA.heap[w.heap.size]? = some (.cells #[.int .i64 (a : Int), .int .i64 (b : Int), .int .i64 (c : Int)] (94 : TypeId) (0, 0))) := fun wA h => (h.block _ (row_lt hr0)).trans hr0
  clear hr0
  go_enter Try.func82, Try.ntmps82
  go_wp2_with fail
  generalize w.alloc (.cells #[.int .i64 (a : Int), .int .i64 (b : Int), .int .i64 (c : Int)] (94 : TypeId)) = w1 at *
  have c0 : ∀ i : BW w1, i.v.cell? ⟨w.heap.size, 0, none⟩ = some (.int .i64 (a : Int)) := fun i => by rw [cell_of_row _ _ _ _ _ _ (HC.out _ i.below)]; rfl
  have c1 : ∀ i : BW w1, i.v.cell? ⟨w.heap.size, 1, none⟩ = some (.int .i64 (b : Int)) := fun i => by rw [cell_of_row _ _ _ _ _ _ (HC.out _ i.below)]; rfl
  have c2 : ∀ i : BW w1, i.v.cell? ⟨w.heap.size, 2, none⟩ = some (.int .i64 (c : Int)) := fun i => by rw [cell_of_row _ _ _ _ _ _ (HC.out _ i.below)]; rfl
  refine wp_region_below (by kernel_rfl) (by kernel_rfl) ?_
  repeat (go_big_quiet_step ((go_at_call 91; exact Calls.below_of (HT.out _ (by assumption) _))))
  refine wpQuiet_nil ?_
  intro i
  clear c0 c1 c2
  go_wp2_with fail
  go_ret
  exact ⟨by first | rfl | (rw [h2]), HB.out.trans (i.below.mono HB.out.size)⟩

set_option maxRecDepth 100000 in
set_option maxHeartbeats 800000 in
theorem turns32_any (x a b c : Nat) (hx : x < 4294967296) (ha : a ≤ 32) (hb : b ≤ 32) (hc : c ≤ 32) (w : World) : Calls Try.prog 86 #[.int .u32 (x : Int), .agg (row3 a b c), .int .i64 32] w fun e w' => e = .returned (.int .u32 (turnsS 32 x a b c : Int)) ∧ Below w.heap.size w w' := by
  have HT : Hid (∀ n : Nat, n ≤ 32 → ∀ w, Calls Try.prog 92 #[.int .u32 (x : Int), .int .i64 (n : Int), .int .i64 32] w fun e w' => e = .returned (.int .u32 (rotr 32 x n : Int)) ∧ Below w.heap.size w w') := fun n hn w => turned32_any x n hx hn w
  have h1 : bits .xor .u32 (rotr 32 x a : Int) (rotr 32 x b : Int) = ((rotr 32 x a ^^^ rotr 32 x b : Nat) : Int) := u32_xor_nat _ _ (rotr_lt 32 x a hx) (rotr_lt 32 x b hx)
  have hcW : c ≤ 32 := by omega
  have h2 : bits .xor .u32 ((rotr 32 x a ^^^ rotr 32 x b : Nat) : Int) ((rotr 32 x c : Int)) = (turnsS 32 x a b c : Int) := by
    skip
    exact u32_xor_nat _ _ (Nat.xor_lt_two_pow (n := 32) (rotr_lt 32 x a hx) (rotr_lt 32 x b hx)) (rotr_lt 32 x c hx)
  generalize (turnsS 32 x a b c : Int) = R at *
  generalize ((rotr 32 x a ^^^ rotr 32 x b : Nat) : Int) = R1 at *
  unfold row3
  have hr0 : (w.alloc (.cells #[.int .i64 (a : Int), .int .i64 (b : Int), .int .i64 (c : Int)] (94 : TypeId))).heap[w.heap.size]? = some (.cells #[.int .i64 (a : Int), .int .i64 (b : Int), .int .i64 (c : Int)] (94 : TypeId) (0, 0)) := heap_alloc_last _ _
  have HB : Hid (Below w.heap.size w (w.alloc (.cells #[.int .i64 (a : Int), .int .i64 (b : Int), .int .i64 (c : Int)] (94 : TypeId)))) := (Below.refl _ _).alloc (Nat.le_refl _) _
  have HC : Hid (∀ wA, Below (w.alloc (.cells #[.int .i64 (a : Int), .int .i64 (b : Int), .int .i64 (c : Int)] (94 : TypeId))).heap.size (w.alloc (.cells #[.int .i64 (a : Int), .int .i64 (b : Int), .int .i64 (c : Int)] (94 : TypeId))) wA → wA.heap[w.heap.size]? = some (.cells #[.int .i64 (a : Int), .int .i64 (b : Int), .int .i64 (c : Int)] (94 : TypeId) (0, 0))) := fun wA h => (h.block _ (row_lt hr0)).trans hr0
  clear hr0
  go_enter Try.func86, Try.ntmps86
  go_wp2_with fail
  generalize w.alloc (.cells #[.int .i64 (a : Int), .int .i64 (b : Int), .int .i64 (c : Int)] (94 : TypeId)) = w1 at *
  have c0 : ∀ i : BW w1, i.v.cell? ⟨w.heap.size, 0, none⟩ = some (.int .i64 (a : Int)) := fun i => by rw [cell_of_row _ _ _ _ _ _ (HC.out _ i.below)]; rfl
  have c1 : ∀ i : BW w1, i.v.cell? ⟨w.heap.size, 1, none⟩ = some (.int .i64 (b : Int)) := fun i => by rw [cell_of_row _ _ _ _ _ _ (HC.out _ i.below)]; rfl
  have c2 : ∀ i : BW w1, i.v.cell? ⟨w.heap.size, 2, none⟩ = some (.int .i64 (c : Int)) := fun i => by rw [cell_of_row _ _ _ _ _ _ (HC.out _ i.below)]; rfl
  refine wp_region_below (by kernel_rfl) (by kernel_rfl) ?_
  repeat (go_big_quiet_step ((go_at_call 92; exact Calls.below_of (HT.out _ (by assumption) _))))
  refine wpQuiet_nil ?_
  intro i
  clear c0 c1 c2
  go_wp2_with fail
  go_ret
  exact ⟨by first | rfl | (rw [h2]), HB.out.trans (i.below.mono HB.out.size)⟩

set_option maxRecDepth 100000 in
set_option maxHeartbeats 800000 in
theorem shifts32_any (x a b c : Nat) (hx : x < 4294967296) (ha : a ≤ 32) (hb : b ≤ 32) (hc : c < 32) (w : World) : Calls Try.prog 85 #[.int .u32 (x : Int), .agg (row3 a b c), .int .i64 32] w fun e w' => e = .returned (.int .u32 (shiftsS 32 x a b c : Int)) ∧ Below w.heap.size w w' := by
  have HT : Hid (∀ n : Nat, n ≤ 32 → ∀ w, Calls Try.prog 92 #[.int .u32 (x : Int), .int .i64 (n : Int), .int .i64 32] w fun e w' => e = .returned (.int .u32 (rotr 32 x n : Int)) ∧ Below w.heap.size w w') := fun n hn w => turned32_any x n hx hn w
  have h1 : bits .xor .u32 (rotr 32 x a : Int) (rotr 32 x b : Int) = ((rotr 32 x a ^^^ rotr 32 x b : Nat) : Int) := u32_xor_nat _ _ (rotr_lt 32 x a hx) (rotr_lt 32 x b hx)
  have hcW : c ≤ 32 := by omega
  have h2 : bits .xor .u32 ((rotr 32 x a ^^^ rotr 32 x b : Nat) : Int) ((x : Int) / 2 ^ c) = (shiftsS 32 x a b c : Int) := by
    rw [show (x : Int) / 2 ^ c = ((x / 2 ^ c : Nat) : Int) by simp]
    exact u32_xor_nat _ _ (Nat.xor_lt_two_pow (n := 32) (rotr_lt 32 x a hx) (rotr_lt 32 x b hx)) (Nat.lt_of_le_of_lt (Nat.div_le_self _ _) hx)
  generalize (shiftsS 32 x a b c : Int) = R at *
  generalize ((rotr 32 x a ^^^ rotr 32 x b : Nat) : Int) = R1 at *
  unfold row3
  have hr0 : (w.alloc (.cells #[.int .i64 (a : Int), .int .i64 (b : Int), .int .i64 (c : Int)] (94 : TypeId))).heap[w.heap.size]? = some (.cells #[.int .i64 (a : Int), .int .i64 (b : Int), .int .i64 (c : Int)] (94 : TypeId) (0, 0)) := heap_alloc_last _ _
  have HB : Hid (Below w.heap.size w (w.alloc (.cells #[.int .i64 (a : Int), .int .i64 (b : Int), .int .i64 (c : Int)] (94 : TypeId)))) := (Below.refl _ _).alloc (Nat.le_refl _) _
  have HC : Hid (∀ wA, Below (w.alloc (.cells #[.int .i64 (a : Int), .int .i64 (b : Int), .int .i64 (c : Int)] (94 : TypeId))).heap.size (w.alloc (.cells #[.int .i64 (a : Int), .int .i64 (b : Int), .int .i64 (c : Int)] (94 : TypeId))) wA → wA.heap[w.heap.size]? = some (.cells #[.int .i64 (a : Int), .int .i64 (b : Int), .int .i64 (c : Int)] (94 : TypeId) (0, 0))) := fun wA h => (h.block _ (row_lt hr0)).trans hr0
  clear hr0
  go_enter Try.func85, Try.ntmps85
  go_wp2_with fail
  generalize w.alloc (.cells #[.int .i64 (a : Int), .int .i64 (b : Int), .int .i64 (c : Int)] (94 : TypeId)) = w1 at *
  have c0 : ∀ i : BW w1, i.v.cell? ⟨w.heap.size, 0, none⟩ = some (.int .i64 (a : Int)) := fun i => by rw [cell_of_row _ _ _ _ _ _ (HC.out _ i.below)]; rfl
  have c1 : ∀ i : BW w1, i.v.cell? ⟨w.heap.size, 1, none⟩ = some (.int .i64 (b : Int)) := fun i => by rw [cell_of_row _ _ _ _ _ _ (HC.out _ i.below)]; rfl
  have c2 : ∀ i : BW w1, i.v.cell? ⟨w.heap.size, 2, none⟩ = some (.int .i64 (c : Int)) := fun i => by rw [cell_of_row _ _ _ _ _ _ (HC.out _ i.below)]; rfl
  refine wp_region_below (by kernel_rfl) (by kernel_rfl) ?_
  repeat (go_big_quiet_step ((go_at_call 92; exact Calls.below_of (HT.out _ (by assumption) _))))
  refine wpQuiet_nil ?_
  intro i
  clear c0 c1 c2
  go_wp2_with fail
  go_ret
  exact ⟨by first | rfl | (rw [h2]), HB.out.trans (i.below.mono HB.out.size)⟩
end Go.Proofs.Ytnldpofljeodiaa
