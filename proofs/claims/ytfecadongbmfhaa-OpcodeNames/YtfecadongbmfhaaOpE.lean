/- What Known and Class answer; what Of and Code tell of each other. -/
import Derived.Test.YtfecadongbmfhaaOpD
namespace Go.Proofs.Ytfecadongbmfhaa
open Go.RowKit
set_option linter.unusedVariables false

set_option maxRecDepth 100000 in
theorem known_any (s : List UInt8) (hs : s.length ≤ 140737488355328) (w : World) : Calls Try.prog 25 #[.string ⟨s.toArray⟩] w fun e w' => e = .returned (.bool (!(fiS s == 0))) ∧ Below w.heap.size w w' := by
  have HF : Hid (∀ w, Calls Try.prog 48 #[.string ⟨s.toArray⟩] w fun e w' => e = .returned (.int .i64 (fiS s : Int)) ∧ Below w.heap.size w w') := fun w => find_any s hs w
  generalize fiS s = f at *
  by_cases h0 : f = 0
  · subst h0
    go_enter Try.func25, Try.ntmps25
    go_wp2_with (go_at_call 48; refine (HF.out _).mono ?_; rintro e w1 ⟨rfl, hb1⟩)
    go_ret
    exact ⟨rfl, hb1⟩
  · have h1 : ((f : Int) == 0) = false := beq_eq_false_iff_ne.2 (by omega)
    have h2 : ¬ (f : Int) = 0 := by omega
    rw [beq_eq_false_iff_ne.2 h0]
    go_enter Try.func25, Try.ntmps25
    go_wp2_with (go_at_call 48; refine (HF.out _).mono ?_; rintro e w1 ⟨rfl, hb1⟩)
    go_ret
    exact ⟨by first | rfl | (simp [h0]), hb1⟩
set_option maxRecDepth 100000 in
theorem class_any (s : List UInt8) (hs : s.length ≤ 140737488355328) (w : World) : Calls Try.prog 26 #[.string ⟨s.toArray⟩] w fun e w' => e = .returned (.int .i64 (clS (fiS s) : Int)) ∧ Below w.heap.size w w' := by
  have HF : Hid (∀ w, Calls Try.prog 48 #[.string ⟨s.toArray⟩] w fun e w' => e = .returned (.int .i64 (fiS s : Int)) ∧ Below w.heap.size w w') := fun w => find_any s hs w
  have HC : Hid (∀ w, Calls Try.prog 49 #[.int .i64 (fiS s : Int)] w fun e w' => e = .returned (.int .i64 (clS (fiS s) : Int)) ∧ w' = w) := fun w => classOf_any _ (fi_le s) w
  generalize clS (fiS s) = c at *
  generalize fiS s = f at *
  go_enter Try.func26, Try.ntmps26
  go_wp2_with (first | (go_at_call 49; refine (HC.out _).mono ?_; rintro e w2 ⟨rfl, rfl⟩) | (go_at_call 48; refine (HF.out _).mono ?_; rintro e w1 ⟨rfl, hb1⟩))
  go_ret
  exact ⟨rfl, hb1⟩
theorem co_back : ∀ op : Nat, op < 256 → (inS op).1 ≠ 0 → coS (inS op).1 ((inS op).2 : Int) = op := by
  intro op ho h0
  obtain ⟨h1, h2, h3⟩ := co_spec (inS op).1 ((inS op).2 : Int) 256
  rw [show coA (inS op).1 ((inS op).2 : Int) 256 = coS (inS op).1 ((inS op).2 : Int) from rfl] at h1 h2 h3
  have inj : ∀ i < 256, ∀ j < 256, (inS i).1 ≠ 0 → inS i = inS j → i = j := by decide +kernel
  have hle : coS (inS op).1 ((inS op).2 : Int) ≤ op := by
    rcases Nat.lt_or_ge op (coS (inS op).1 ((inS op).2 : Int)) with h | h
    · exact absurd ⟨rfl, rfl⟩ (h2 op h)
    · exact h
  have hm := h3 (by omega)
  exact (inj op ho _ (by omega) h0 (Prod.ext hm.1.symm (by have := hm.2; omega))).symm
theorem in_inj : ∀ i < 256, ∀ j < 256, (inS i).1 ≠ 0 → inS i = inS j → i = j := by decide +kernel
theorem cl_pos : ∀ m ≤ 56, m ≠ 0 → clS m ≠ 0 := by decide +kernel
theorem bA_beq (a b : List UInt8) : ((bA a).toList == (bA b).toList) = (a == b) := by rw [bA_list, bA_list]
/- of an instruction -/
theorem of_ins {op : Nat} (ho : op < 256) (h : (inS op).1 ≠ 0) (w : World) : Calls Try.prog 14 #[.int .u8 (op : Int)] w fun e w' => e = .returned (.tuple #[.string (bA (nmS (inS op).1)), .int .i64 ((inS op).2 : Int), .bool true]) ∧ Below w.heap.size w w' := by
  have := of_any op ho w
  unfold ofV at this
  rw [beq_eq_false_iff_ne.2 h] at this
  exact this
theorem of_no {op : Nat} (ho : op < 256) (h : (inS op).1 = 0) (w : World) : Calls Try.prog 14 #[.int .u8 (op : Int)] w fun e w' => e = .returned (.tuple #[.string ⟨#[]⟩, .int .i64 0, .bool false]) ∧ Below w.heap.size w w' := by
  have := of_any op ho w
  unfold ofV at this
  rw [in_none op ho h, h] at this
  exact this
theorem code_ins {op : Nat} (ho : op < 256) (h : (inS op).1 ≠ 0) (w : World) : Calls Try.prog 20 #[.string (bA (nmS (inS op).1)), .int .i64 ((inS op).2 : Int)] w fun e w' => e = .returned (.tuple #[.int .u8 (op : Int), .bool true]) ∧ Below w.heap.size w w' := by
  have hm := (in_lt op ho).1
  have := code_any (nmS (inS op).1) (by rw [nm_len _ hm (by omega)]; decide) ((inS op).2 : Int) w
  rw [fi_of _ hm (by omega)] at this
  unfold coV at this
  rw [co_back op ho h, if_neg (by omega)] at this
  exact this
theorem code_no {s : List UInt8} (hs : s.length ≤ 140737488355328) {x : Int} (h : fiS s = 0 ∨ coS (fiS s) x = 256) (w : World) : Calls Try.prog 20 #[.string (bA s), .int .i64 x] w fun e w' => e = .returned (.tuple #[.int .u8 0, .bool false]) ∧ Below w.heap.size w w' := by
  have := code_any s hs x w
  unfold coV at this
  rw [if_pos h] at this
  exact this
theorem code_yes {s : List UInt8} (hs : s.length ≤ 140737488355328) {x : Int} (h : ¬ (fiS s = 0 ∨ coS (fiS s) x = 256)) : ∃ c : Nat, c < 256 ∧ (inS c).1 ≠ 0 ∧ nmS (inS c).1 = s ∧ ((inS c).2 : Int) = x ∧ ∀ w, Calls Try.prog 20 #[.string (bA s), .int .i64 x] w fun e w' => e = .returned (.tuple #[.int .u8 (c : Int), .bool true]) ∧ Below w.heap.size w w' := by
  have h0 : fiS s ≠ 0 := fun hh => h (Or.inl hh)
  have h1 : coS (fiS s) x ≠ 256 := fun hh => h (Or.inr hh)
  obtain ⟨g1, g2, g3⟩ := co_spec (fiS s) x 256
  rw [show coA (fiS s) x 256 = coS (fiS s) x from rfl] at g1 g2 g3
  obtain ⟨m1, m2⟩ := g3 (by omega)
  refine ⟨coS (fiS s) x, by omega, by rw [m1]; exact h0, by rw [m1]; exact fi_name h0, m2, fun w => ?_⟩
  have := code_any s hs x w
  unfold coV at this
  rw [if_neg h] at this
  exact this
end Go.Proofs.Ytfecadongbmfhaa
