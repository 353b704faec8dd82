/- OpcodeTable: for every place and every word the law returns true. -/
import Derived.Test.YtfecadongbmfhaaSmw
import Derived.Test.YtfecadongbmfhaaRue
import Derived.Test.YtfecadongbmfhaaRfw
namespace Go.Proofs.Ytfecadongbmfhaa
open Go.RowKit
set_option linter.unusedVariables false

abbrev Same2 (g h : Nat) (w : World) : Prop := Calls Try.prog 12 #[.slice (some ⟨g, 0, none⟩) 256 256, .slice (some ⟨h, 0, none⟩) 256 256] w fun e w' => e = .returned (.bool true) ∧ Below w.heap.size w w'
theorem same2_of {g h : Nat} {w : World} (h1 : RowZ w g .u32 256 (22 : TypeId) (wdF 56)) (h2 : RowZ w h .u32 256 (22 : TypeId) (wdF 56)) : Same2 g h w :=
  sameWords_any 256 (by decide) g h 256 256 (wdF 56) w h1.lt h2.lt (fun k hk => h1.cell hk) (fun k hk => h2.cell hk)
abbrev WR (w : World) (g : Nat) : Prop := RowZ w g .u32 256 (22 : TypeId) (wdF 56)
set_option maxRecDepth 100000 in
set_option maxHeartbeats 3200000 in
theorem table_out (x v : Int) (hx : ¬ (0 ≤ x ∧ x < 256)) (w : World) : Calls Try.prog 3 #[.int .i64 x, .int .u32 v] w fun e w' => e = .returned (.bool true) ∧ Below w.heap.size w w' := by
  have HA : Hid (∀ w, Calls Try.prog 9 #[] w fun e w' => ∃ g, e = .returned (.slice (some ⟨g, 0, none⟩) 256 256) ∧ w.heap.size ≤ g ∧ WR w' g ∧ Below w.heap.size w w') := fun w => refWords_any w
  have HB : Hid (∀ w, Calls Try.prog 10 #[] w fun e w' => ∃ g, e = .returned (.slice (some ⟨g, 0, none⟩) 256 256) ∧ w.heap.size ≤ g ∧ WR w' g ∧ Below w.heap.size w w') := fun w => words_any w
  have HC : Hid (∀ w, Calls Try.prog 11 #[] w fun e w' => ∃ g, e = .returned (.slice (some ⟨g, 0, none⟩) 256 256) ∧ w.heap.size ≤ g ∧ WR w' g ∧ Below w.heap.size w w') := fun w => rule_any w
  have HL : Hid (∀ w, Calls Try.prog 13 #[] w fun e w' => e = .returned (.bool true) ∧ Below w.heap.size w w') := fun w => live_any w
  by_cases h0 : 0 ≤ x
  · have h1 : ¬ x < 256 := by omega
    have d0 : decide (0 ≤ x) = true := decide_eq_true h0
    have d1 : decide (x < 256) = false := decide_eq_false h1
    clear hx
    go_enter Try.func3, Try.ntmps3
    go_wp2_with (first
      | (go_at_call 13; refine (HL.out _).mono ?_; rintro e wa ⟨rfl, ba⟩)
      | (go_at_call 12; refine Calls.mono S9.out ?_; rintro e w9 ⟨rfl, b9⟩)
      | (go_at_call 11; have := S7b; refine (HC.out _).mono ?_; rintro e w8 ⟨g5, rfl, _, r8, b8⟩; have S9 := hidD (same2_of r8 ((R7.out.next b7).next b8)))
      | (go_at_call 12; refine Calls.mono S7.out ?_; rintro e w7 ⟨rfl, b7⟩; have S7b := trivial)
      | (go_at_call 10; have := S5b; refine (HB.out _).mono ?_; rintro e w6 ⟨g4, rfl, _, r6, b6⟩; have R7 := hidD (R5.out.next b6); have S7 := hidD (same2_of r6 R7.out))
      | (go_at_call 12; refine Calls.mono S5.out ?_; rintro e w5 ⟨rfl, b5⟩; have S5b := trivial; have R5 := hidD ((R3.out.next b4).next b5))
      | (go_at_call 12; refine Calls.mono S4.out ?_; rintro e w4 ⟨rfl, b4⟩; have S5 := hidD (same2_of (r3.next b4) (R3.out.next b4)))
      | (go_at_call 11; refine (HC.out _).mono ?_; rintro e w3 ⟨g3, rfl, _, r3, b3⟩; have R3 := hidD ((R1.out.next b2).next b3); have S4 := hidD (same2_of (r2.next b3) R3.out))
      | (go_at_call 10; refine (HB.out _).mono ?_; rintro e w2 ⟨g2, rfl, _, r2, b2⟩)
      | (go_at_call 9; refine (HA.out _).mono ?_; rintro e w1 ⟨g1, rfl, _, r1, b1⟩; have R1 := hidD r1))
    go_ret
    exact ⟨rfl, Below.next (Below.next (Below.next (Below.next (Below.next (Below.next (Below.next (Below.next (Below.next b1 b2) b3) b4) b5) b6) b7) b8) b9) ba⟩
  · have d0 : decide (0 ≤ x) = false := decide_eq_false h0
    clear hx
    go_enter Try.func3, Try.ntmps3
    go_wp2_with (first
      | (go_at_call 13; refine (HL.out _).mono ?_; rintro e wa ⟨rfl, ba⟩)
      | (go_at_call 12; refine Calls.mono S9.out ?_; rintro e w9 ⟨rfl, b9⟩)
      | (go_at_call 11; have := S7b; refine (HC.out _).mono ?_; rintro e w8 ⟨g5, rfl, _, r8, b8⟩; have S9 := hidD (same2_of r8 ((R7.out.next b7).next b8)))
      | (go_at_call 12; refine Calls.mono S7.out ?_; rintro e w7 ⟨rfl, b7⟩; have S7b := trivial)
      | (go_at_call 10; have := S5b; refine (HB.out _).mono ?_; rintro e w6 ⟨g4, rfl, _, r6, b6⟩; have R7 := hidD (R5.out.next b6); have S7 := hidD (same2_of r6 R7.out))
      | (go_at_call 12; refine Calls.mono S5.out ?_; rintro e w5 ⟨rfl, b5⟩; have S5b := trivial; have R5 := hidD ((R3.out.next b4).next b5))
      | (go_at_call 12; refine Calls.mono S4.out ?_; rintro e w4 ⟨rfl, b4⟩; have S5 := hidD (same2_of (r3.next b4) (R3.out.next b4)))
      | (go_at_call 11; refine (HC.out _).mono ?_; rintro e w3 ⟨g3, rfl, _, r3, b3⟩; have R3 := hidD ((R1.out.next b2).next b3); have S4 := hidD (same2_of (r2.next b3) R3.out))
      | (go_at_call 10; refine (HB.out _).mono ?_; rintro e w2 ⟨g2, rfl, _, r2, b2⟩)
      | (go_at_call 9; refine (HA.out _).mono ?_; rintro e w1 ⟨g1, rfl, _, r1, b1⟩; have R1 := hidD r1))
    go_ret
    exact ⟨rfl, Below.next (Below.next (Below.next (Below.next (Below.next (Below.next (Below.next (Below.next (Below.next b1 b2) b3) b4) b5) b6) b7) b8) b9) ba⟩
theorem two_put {w : World} {n g1 g2 g3 : Nat} (v : Int) (hn : n < 256) (h2 : Hid (g1 ≠ g2)) (h3 : Hid (g1 ≠ g3 ∧ g2 ≠ g3)) (r1 : WR w g1) (r2 : WR w g2) (r3 : WR w g3) :
    Hid (WR ((w.setCell ⟨g2, n, none⟩ (.int .u32 v)).setCell ⟨g3, n, none⟩ (.int .u32 v)) g1) ∧ w.cell? ⟨g2, n, none⟩ = some (.int .u32 (wdF 56 n)) ∧ w.frozen? ⟨g2, n, none⟩ = false ∧
    (w.setCell ⟨g2, n, none⟩ (.int .u32 v)).cell? ⟨g3, n, none⟩ = some (.int .u32 (wdF 56 n)) ∧ (w.setCell ⟨g2, n, none⟩ (.int .u32 v)).frozen? ⟨g3, n, none⟩ = false :=
  ⟨(r1.other h2.out n _).other h3.out.1 n _, r2.cell hn, r2.frozen n, (r3.other h3.out.2.symm n _).cell hn, (r3.other h3.out.2.symm n _).frozen n⟩
theorem two_bel {w w5 : World} {n g2 g3 : Nat} {v : Int} (h : Below w.heap.size w w5) (h2 : Hid (w.heap.size ≤ g2)) (h3 : Hid (w.heap.size ≤ g3)) : Below w.heap.size w ((w5.setCell ⟨g2, n, none⟩ (.int .u32 v)).setCell ⟨g3, n, none⟩ (.int .u32 v)) :=
  below_setCell (below_setCell h h2.out n _) h3.out n _
set_option maxRecDepth 100000 in
set_option maxHeartbeats 3200000 in
theorem table_in (n : Nat) (hn : n < 256) (v : Int) (w : World) : Calls Try.prog 3 #[.int .i64 (n : Int), .int .u32 v] w fun e w' => e = .returned (.bool true) ∧ Below w.heap.size w w' := by
  have HA : Hid (∀ w, Calls Try.prog 9 #[] w fun e w' => ∃ g, e = .returned (.slice (some ⟨g, 0, none⟩) 256 256) ∧ w.heap.size ≤ g ∧ WR w' g ∧ Below w.heap.size w w') := fun w => refWords_any w
  have HB : Hid (∀ w, Calls Try.prog 10 #[] w fun e w' => ∃ g, e = .returned (.slice (some ⟨g, 0, none⟩) 256 256) ∧ w.heap.size ≤ g ∧ WR w' g ∧ Below w.heap.size w w') := fun w => words_any w
  have HC : Hid (∀ w, Calls Try.prog 11 #[] w fun e w' => ∃ g, e = .returned (.slice (some ⟨g, 0, none⟩) 256 256) ∧ w.heap.size ≤ g ∧ WR w' g ∧ Below w.heap.size w w') := fun w => rule_any w
  have HL : Hid (∀ w, Calls Try.prog 13 #[] w fun e w' => e = .returned (.bool true) ∧ Below w.heap.size w w') := fun w => live_any w
  have h0 : (0 : Int) ≤ (n : Int) := by omega
  have h1 : (n : Int) < 256 := by omega
  have d0 : decide ((0 : Int) ≤ (n : Int)) = true := decide_eq_true h0
  have d1 : decide ((n : Int) < 256) = true := decide_eq_true h1
  go_enter Try.func3, Try.ntmps3
  go_wp2_with (first
    | (go_at_call 13; refine (HL.out _).mono ?_; rintro e wa ⟨rfl, ba⟩)
    | (go_at_call 12; refine Calls.mono S9.out ?_; rintro e w9 ⟨rfl, b9⟩)
    | (go_at_call 11; have := S7b; refine (HC.out _).mono ?_; rintro e w8 ⟨g5, rfl, _, r8, b8⟩; have S9 := hidD (same2_of r8 ((R7.out.next b7).next b8)))
    | (go_at_call 12; refine Calls.mono S7.out ?_; rintro e w7 ⟨rfl, b7⟩; have S7b := trivial)
    | (go_at_call 10; have := S5b; refine (HB.out _).mono ?_; rintro e w6 ⟨g4, rfl, _, r6, b6⟩; have R7 := hidD (R5.out.next b6); have S7 := hidD (same2_of r6 R7.out))
    | (go_at_call 12; refine Calls.mono S5.out ?_; rintro e w5 ⟨rfl, b5⟩; have S5b := trivial; obtain ⟨R5, c2, c2f, c3, c3f⟩ := two_put v hn hg2 hg3 ((R3.out.next b4).next b5) ((r2.next b3).next (Below.next b4 b5)) (r3.next (Below.next b4 b5)); have HB5 := hidD (two_bel (n := n) (v := v) (g2 := g2) (g3 := g3) (Below.next (Below.next (Below.next (Below.next b1 b2) b3) b4) b5) hz2 hz3))
    | (go_at_call 12; refine Calls.mono S4.out ?_; rintro e w4 ⟨rfl, b4⟩; have S5 := hidD (same2_of (r3.next b4) (R3.out.next b4)))
    | (go_at_call 11; refine (HC.out _).mono ?_; rintro e w3 ⟨g3, rfl, g3s, r3, b3⟩; have hg3 : Hid (g1 ≠ g3 ∧ g2 ≠ g3) := (⟨fun h => by have := (R1.out.next b2).lt; omega, fun h => by have := r2.lt; omega⟩ : g1 ≠ g3 ∧ g2 ≠ g3); have hz3 := hidD (Nat.le_trans (Below.next b1 b2).size g3s); clear g3s; have R3 := hidD ((R1.out.next b2).next b3); have S4 := hidD (same2_of (r2.next b3) R3.out))
    | (go_at_call 10; refine (HB.out _).mono ?_; rintro e w2 ⟨g2, rfl, g2s, r2, b2⟩; have hg2 : Hid (g1 ≠ g2) := (fun h => by have := R1.out.lt; omega : g1 ≠ g2); have hz2 := hidD (Nat.le_trans b1.size g2s); clear g2s)
    | (go_at_call 9; refine (HA.out _).mono ?_; rintro e w1 ⟨g1, rfl, _, r1, b1⟩; have R1 := hidD r1))
  go_ret
  exact ⟨rfl, Below.next (Below.next (Below.next (Below.next (Below.next HB5.out b6) b7) b8) b9) ba⟩
theorem table_any (x v : Int) (w : World) : Calls Try.prog 3 #[.int .i64 x, .int .u32 v] w fun e w' => e = .returned (.bool true) ∧ Below w.heap.size w w' := by
  by_cases hx : 0 ≤ x ∧ x < 256
  · obtain ⟨n, rfl⟩ : ∃ n : Nat, x = n := ⟨x.toNat, by omega⟩
    exact table_in n (by omega) v w
  · exact table_out x v hx w
end Go.Proofs.Ytfecadongbmfhaa
