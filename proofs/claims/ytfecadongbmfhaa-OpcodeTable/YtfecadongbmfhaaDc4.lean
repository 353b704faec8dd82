/- What the document's Of, Number and among answer. -/
import Derived.Test.YtfecadongbmfhaaDc1
import Derived.Test.YtfecadongbmfhaaDc2
import Derived.Test.YtfecadongbmfhaaDc3
namespace Go.Proofs.Ytfecadongbmfhaa
open Go.RowKit
set_option linter.unusedVariables false

set_option maxRecDepth 100000 in
set_option maxHeartbeats 1600000 in
theorem rof_0 (op a b k : Nat) (L : List UInt8) (ho : op < 256) (h1 : (op : Int) / 32 = (a : Int)) (h2 : (op : Int) / 4 % 8 = (b : Int)) (h3 : bits .and .u8 (op : Int) 3 = 0) (ha : a < 8) (hb : b < 8)
    (HC : Hid (∀ w, Calls Try.prog 44 #[.int .i64 (a : Int), .int .i64 (b : Int)] w fun e w' => e = .returned (.tuple #[.string (bA L), .int .i64 (k : Int)]) ∧ Below w.heap.size w w')) (w : World) : Calls Try.prog 15 #[.int .u8 (op : Int)] w fun e w' => e = .returned (if L = [] then .tuple #[.string (bA []), .int .i64 0, .bool false] else .tuple #[.string (bA L), .int .i64 (k : Int), .bool true]) ∧ Below w.heap.size w w' := by
  have hl := bA_list L
  by_cases h0 : L = []
  · rw [if_pos h0]
    subst h0
    clear hl
    change Hid (∀ w, Calls Try.prog 44 #[.int .i64 (a : Int), .int .i64 (b : Int)] w fun e w' => e = .returned (.tuple #[.string ⟨#[]⟩, .int .i64 (k : Int)]) ∧ Below w.heap.size w w') at HC
    go_enter Try.func15, Try.ntmps15
    go_wp2_with (go_at_call 44; refine (HC.out _).mono ?_; rintro e w2 ⟨rfl, hb2⟩)
    refine bodyPost_ret (v := .tuple #[.string ⟨#[]⟩, .int .i64 0, .bool false]) (by simp [results, Try.results15, go_sem]) rfl ?_
    exact ⟨rfl, hb2⟩
  · rw [if_neg h0]
    have hq : ((bA L).toList == []) = false := by rw [hl]; exact beq_eq_false_iff_ne.2 h0
    have hq2 : ¬ (bA L).toList = [] := by rw [hl]; exact h0
    have hq3 : (bA L).toList.isEmpty = false := by rw [hl]; cases L with | nil => exact absurd rfl h0 | cons x l => rfl
    clear hl
    generalize bA L = N at *
    go_enter Try.func15, Try.ntmps15
    go_wp2_with (go_at_call 44; refine (HC.out _).mono ?_; rintro e w2 ⟨rfl, hb2⟩)
    refine bodyPost_ret (v := .tuple #[.string N, .int .i64 (k : Int), .bool true]) (by simp [results, Try.results15, go_sem]) rfl ?_
    exact ⟨rfl, hb2⟩
set_option maxRecDepth 100000 in
set_option maxHeartbeats 1600000 in
theorem rof_1 (op a b k : Nat) (L : List UInt8) (ho : op < 256) (h1 : (op : Int) / 32 = (a : Int)) (h2 : (op : Int) / 4 % 8 = (b : Int)) (h3 : bits .and .u8 (op : Int) 3 = 1) (ha : a < 8) (hb : b < 8)
    (HC : Hid (∀ w, Calls Try.prog 42 #[.int .i64 (a : Int), .int .i64 (b : Int)] w fun e w' => e = .returned (.tuple #[.string (bA L), .int .i64 (k : Int)]) ∧ Below w.heap.size w w')) (w : World) : Calls Try.prog 15 #[.int .u8 (op : Int)] w fun e w' => e = .returned (if L = [] then .tuple #[.string (bA []), .int .i64 0, .bool false] else .tuple #[.string (bA L), .int .i64 (k : Int), .bool true]) ∧ Below w.heap.size w w' := by
  have hl := bA_list L
  by_cases h0 : L = []
  · rw [if_pos h0]
    subst h0
    clear hl
    change Hid (∀ w, Calls Try.prog 42 #[.int .i64 (a : Int), .int .i64 (b : Int)] w fun e w' => e = .returned (.tuple #[.string ⟨#[]⟩, .int .i64 (k : Int)]) ∧ Below w.heap.size w w') at HC
    go_enter Try.func15, Try.ntmps15
    go_wp2_with (go_at_call 42; refine (HC.out _).mono ?_; rintro e w2 ⟨rfl, hb2⟩)
    refine bodyPost_ret (v := .tuple #[.string ⟨#[]⟩, .int .i64 0, .bool false]) (by simp [results, Try.results15, go_sem]) rfl ?_
    exact ⟨rfl, hb2⟩
  · rw [if_neg h0]
    have hq : ((bA L).toList == []) = false := by rw [hl]; exact beq_eq_false_iff_ne.2 h0
    have hq2 : ¬ (bA L).toList = [] := by rw [hl]; exact h0
    have hq3 : (bA L).toList.isEmpty = false := by rw [hl]; cases L with | nil => exact absurd rfl h0 | cons x l => rfl
    clear hl
    generalize bA L = N at *
    go_enter Try.func15, Try.ntmps15
    go_wp2_with (go_at_call 42; refine (HC.out _).mono ?_; rintro e w2 ⟨rfl, hb2⟩)
    refine bodyPost_ret (v := .tuple #[.string N, .int .i64 (k : Int), .bool true]) (by simp [results, Try.results15, go_sem]) rfl ?_
    exact ⟨rfl, hb2⟩
set_option maxRecDepth 100000 in
set_option maxHeartbeats 1600000 in
theorem rof_2 (op a b k : Nat) (L : List UInt8) (ho : op < 256) (h1 : (op : Int) / 32 = (a : Int)) (h2 : (op : Int) / 4 % 8 = (b : Int)) (h3 : bits .and .u8 (op : Int) 3 = 2) (ha : a < 8) (hb : b < 8)
    (HC : Hid (∀ w, Calls Try.prog 43 #[.int .i64 (a : Int), .int .i64 (b : Int)] w fun e w' => e = .returned (.tuple #[.string (bA L), .int .i64 (k : Int)]) ∧ Below w.heap.size w w')) (w : World) : Calls Try.prog 15 #[.int .u8 (op : Int)] w fun e w' => e = .returned (if L = [] then .tuple #[.string (bA []), .int .i64 0, .bool false] else .tuple #[.string (bA L), .int .i64 (k : Int), .bool true]) ∧ Below w.heap.size w w' := by
  have hl := bA_list L
  by_cases h0 : L = []
  · rw [if_pos h0]
    subst h0
    clear hl
    change Hid (∀ w, Calls Try.prog 43 #[.int .i64 (a : Int), .int .i64 (b : Int)] w fun e w' => e = .returned (.tuple #[.string ⟨#[]⟩, .int .i64 (k : Int)]) ∧ Below w.heap.size w w') at HC
    go_enter Try.func15, Try.ntmps15
    go_wp2_with (go_at_call 43; refine (HC.out _).mono ?_; rintro e w2 ⟨rfl, hb2⟩)
    refine bodyPost_ret (v := .tuple #[.string ⟨#[]⟩, .int .i64 0, .bool false]) (by simp [results, Try.results15, go_sem]) rfl ?_
    exact ⟨rfl, hb2⟩
  · rw [if_neg h0]
    have hq : ((bA L).toList == []) = false := by rw [hl]; exact beq_eq_false_iff_ne.2 h0
    have hq2 : ¬ (bA L).toList = [] := by rw [hl]; exact h0
    have hq3 : (bA L).toList.isEmpty = false := by rw [hl]; cases L with | nil => exact absurd rfl h0 | cons x l => rfl
    clear hl
    generalize bA L = N at *
    go_enter Try.func15, Try.ntmps15
    go_wp2_with (go_at_call 43; refine (HC.out _).mono ?_; rintro e w2 ⟨rfl, hb2⟩)
    refine bodyPost_ret (v := .tuple #[.string N, .int .i64 (k : Int), .bool true]) (by simp [results, Try.results15, go_sem]) rfl ?_
    exact ⟨rfl, hb2⟩
set_option maxRecDepth 100000 in
set_option maxHeartbeats 800000 in
theorem rof_3 (op a b : Nat) (ho : op < 256) (h1 : (op : Int) / 32 = (a : Int)) (h2 : (op : Int) / 4 % 8 = (b : Int)) (h3 : bits .and .u8 (op : Int) 3 = 3) (ha : a < 8) (hb : b < 8) (w : World) : Calls Try.prog 15 #[.int .u8 (op : Int)] w fun e w' => e = .returned (.tuple #[.string (bA []), .int .i64 0, .bool false]) ∧ Below w.heap.size w w' := by
  go_enter Try.func15, Try.ntmps15
  go_wp2_with fail
  refine bodyPost_ret (v := .tuple #[.string ⟨#[]⟩, .int .i64 0, .bool false]) (by simp [results, Try.results15, go_sem]) rfl ?_
  exact ⟨rfl, Below.refl _ _⟩
theorem nm_nil (k : Nat) (hk : k ≤ 56) : nmS k = [] ↔ k = 0 := (by decide +kernel : ∀ k ≤ 56, nmS k = [] ↔ k = 0) k hk
theorem c_le : ∀ a < 8, ∀ b < 8, (c0S a b).1 ≤ 56 ∧ (c1S a b).1 ≤ 56 ∧ (c2S a b).1 ≤ 56 ∧ ((c0S a b).1 ≠ 0 → d0K a b = (c0S a b).2) := by decide +kernel
/- what Of tells, with the names as they are read -/
def ofR (op : Nat) : Value := if (inS op).1 = 0 then .tuple #[.string (bA []), .int .i64 0, .bool false] else .tuple #[.string (bA (nmS (inS op).1)), .int .i64 ((inS op).2 : Int), .bool true]
theorem refOf_any (op : Nat) (ho : op < 256) (w : World) : Calls Try.prog 15 #[.int .u8 (op : Int)] w fun e w' => e = .returned (ofR op) ∧ Below w.heap.size w w' := by
  obtain ⟨h1, h2, h3⟩ := fields op ho
  have ha : op / 32 < 8 := by omega
  have hb : op / 4 % 8 < 8 := by omega
  have he : op = 32 * (op / 32) + 4 * (op / 4 % 8) + op % 4 := by omega
  have hm : op % 4 = 0 ∨ op % 4 = 1 ∨ op % 4 = 2 ∨ op % 4 = 3 := by omega
  obtain ⟨l0, l1, l2, l3⟩ := c_le _ ha _ hb
  unfold ofR
  rcases hm with hm | hm | hm | hm <;> rw [hm] at h3 he
  · have e := in_c0 _ ha _ hb
    rw [← show op = 32 * (op / 32) + 4 * (op / 4 % 8) from he] at e
    have := rof_0 op _ _ (d0K (op / 32) (op / 4 % 8)) (nmS (c0S (op / 32) (op / 4 % 8)).1) ho h1 h2 h3 ha hb (fun w => none_any _ _ ha hb w) w
    rw [e]
    by_cases h0 : (c0S (op / 32) (op / 4 % 8)).1 = 0
    · rw [if_pos h0, if_pos rfl]; rw [if_pos ((nm_nil _ l0).2 h0)] at this; exact this
    · rw [if_neg h0, if_neg h0]; rw [if_neg (fun h => h0 ((nm_nil _ l0).1 h)), l3 h0] at this; exact this
  · have e := in_c1 _ ha _ hb
    rw [← he] at e
    have := rof_1 op _ _ (c1S (op / 32) (op / 4 % 8)).2 (nmS (c1S (op / 32) (op / 4 % 8)).1) ho h1 h2 h3 ha hb (fun w => one_any _ _ ha hb w) w
    rw [e]
    by_cases h0 : (c1S (op / 32) (op / 4 % 8)).1 = 0
    · rw [if_pos h0, if_pos rfl]; rw [if_pos ((nm_nil _ l1).2 h0)] at this; exact this
    · rw [if_neg h0, if_neg h0]; rw [if_neg (fun h => h0 ((nm_nil _ l1).1 h))] at this; exact this
  · have e := in_c2 _ ha _ hb
    rw [← he] at e
    have := rof_2 op _ _ (c2S (op / 32) (op / 4 % 8)).2 (nmS (c2S (op / 32) (op / 4 % 8)).1) ho h1 h2 h3 ha hb (fun w => same_below (fun w => two_any _ _ ha hb w) w) w
    rw [e]
    by_cases h0 : (c2S (op / 32) (op / 4 % 8)).1 = 0
    · rw [if_pos h0, if_pos rfl]; rw [if_pos ((nm_nil _ l2).2 h0)] at this; exact this
    · rw [if_neg h0, if_neg h0]; rw [if_neg (fun h => h0 ((nm_nil _ l2).1 h))] at this; exact this
  · have e := in_c3 _ ha _ hb
    rw [← he] at e
    rw [e, if_pos rfl]
    exact rof_3 op _ _ ho h1 h2 h3 ha hb w
end Go.Proofs.Ytfecadongbmfhaa
