/- What alive of the statements answers: true, and nothing that was there has changed. -/
import Derived.Test.YtnjjpahpaeblfabAdd
import Derived.Test.YtnjjpahpaeblfabTexts
import Derived.Test.YtnjjpahpaeblfabSum
namespace Go.Proofs.Ytnjjpahpaeblfab
open Go.RowKit Go.Maps Go.Sort
set_option linter.unusedVariables false

def nC : Nt := ⟨[99], 0, 0, [[98]]⟩
def nB : Nt := ⟨[98], 0, 0, [[97]]⟩
def nA : Nt := ⟨[97], 0, 0, []⟩

theorem okC : NtOk nC := ⟨by decide, by decide, by decide, by decide, by decide, by simp [StrsOk, nC, maxLen]⟩
theorem okB' : NtOk nB := ⟨by decide, by decide, by decide, by decide, by decide, by simp [StrsOk, nB, maxLen]⟩
theorem okA : NtOk nA := ⟨by decide, by decide, by decide, by decide, by decide, by simp [StrsOk, nA]⟩
theorem addI1 : addI [] nC = 0 := by decide
theorem addI2 : addI [nC] nB = 0 := by decide
theorem addI3 : addI [nC, nB] nA = 0 := by decide
theorem order1 : orderOf [nC, nB] = ([], 12) := by decide
theorem namesABC : namesOf [nC, nB, nA] = [[97], [98], [99]] := by
  have hp : ([nC, nB, nA].map Nt.name).Perm [[97], [98], [99]] := List.reverse_perm [[97], [98], [99]]
  rw [namesOf, mergeSort_of_perm hp]
  exact List.mergeSort_of_pairwise (by decide)
theorem next1 : nextOf [nC, nB, nA] [] = some [97] := by rw [nextOf, namesABC]; decide
theorem next2 : nextOf [nC, nB, nA] [[97]] = some [98] := by rw [nextOf, namesABC]; decide
theorem next3 : nextOf [nC, nB, nA] [[97], [98]] = some [99] := by rw [nextOf, namesABC]; decide
theorem order2 : orderOf [nC, nB, nA] = ([[97], [98], [99]], 0) := by
  have hl : lacksB [nC, nB, nA] = false := by decide
  have h1 : orderTo [nC, nB, nA] 1 = some [[97]] := orderTo_succ_some (o := []) rfl next1
  have h2 : orderTo [nC, nB, nA] 2 = some [[97], [98]] := orderTo_succ_some h1 next2
  have h3 : orderTo [nC, nB, nA] 3 = some [[97], [98], [99]] := orderTo_succ_some h2 next3
  have h4 : orderTo [nC, nB, nA] [nC, nB, nA].length = some [[97], [98], [99]] := h3
  unfold orderOf
  rw [hl, h4]
  rfl

theorem hidIt {q : Prop} (h : q) : Hid q := h

/-- A note more, where nothing bars it. -/
theorem add_ok (n : Nt) (hn : NtOk n) (sl : Value) (w : World) (hs : StrsAt w sl n.leans) (p b : Nat) (F : Nat → Prop) (S : List Nt) (D : DataW Value) (h : SH w p b F S D) (hI : addI S n = 0) :
    Calls Try.prog 7 #[.pointer (some ⟨p, 0, none⟩), noteV n sl] w fun e w' => e = .returned (.int .i64 0) ∧ (∃ F' D', SH w' p b F' (S ++ [n]) D') ∧ w.grownBy w' (some b) := by
  refine (add_any n hn sl w hs p b F S D h).mono ?_
  rintro e w' ⟨F', D', rfl, hS, _, _, hg⟩
  rw [addS, hI] at hS
  rw [hI]
  exact ⟨rfl, ⟨F', D', hS⟩, hg⟩

theorem strs_lit {w : World} {g : Nat} {ss : List (List UInt8)} (hg : g < w.heap.size) (hc : ∀ j, j < ss.length → w.cell? ⟨g, j, none⟩ = some (encStr (ss.getD j []))) : StrsAt w (.slice (some ⟨g, 0, none⟩) ss.length ss.length) ss :=
  .inr ⟨g, 0, ss.length, rfl, hg, fun j hj => by simpa using hc j hj⟩

set_option maxRecDepth 100000 in
set_option maxHeartbeats 2000000 in
theorem alive_any (w : World) : Calls Try.prog 4 #[] w fun e w' => e = .returned (.bool true) ∧ Below w.heap.size w w' := by
  go_enter Try.func4, Try.ntmps4
  go_wp2_with fail
  refine (new_any w).mono ?_
  rintro e w1 ⟨p, b, rfl, hS1, hp, hb, hb1⟩
  have HB1 : Hid (Below w.heap.size w w1) := hb1
  have hw1 := hb1.size
  have hs1 : StrsAt (w1.alloc (.cells #[.string ⟨#[98]⟩] 9)) (.slice (some ⟨w1.heap.size, 0, none⟩) 1 1) nC.leans := strs_lit (ss := [[98]]) (by simp) (fun j hj => by obtain rfl : j = 0 := by { simp at hj; omega }; simp [encStr])
  have hc1 : Calls Try.prog 7 #[.pointer (some ⟨p, 0, none⟩), .agg #[.string ⟨#[99]⟩, .int .i64 0, .int .u32 0, .slice (some ⟨w1.heap.size, 0, none⟩) 1 1]] (w1.alloc (.cells #[.string ⟨#[98]⟩] 9)) fun e w' => e = .returned (.int .i64 0) ∧ (∃ F' D', SH w' p b F' ([] ++ [nC]) D') ∧ (w1.alloc (.cells #[.string ⟨#[98]⟩] 9)).grownBy w' (some b) :=
    add_ok nC okC _ _ hs1 p b _ [] _ (hS1.below ((Below.refl _ _).alloc (Nat.le_refl _) _) (Nat.le_refl _)) addI1
  have HC1 := hidIt hc1
  clear hs1 hc1 hS1 hb1
  go_wp2_with fail
  refine HC1.out.mono ?_
  rintro e w2 ⟨rfl, ⟨F2, D2, hS2⟩, hg2⟩
  have HB2 : Hid (Below w.heap.size w w2) := (HB1.out.alloc hw1 _).grown hg2 (by simp; omega) (fun j hj => by cases hj; exact hb)
  have hw2 := HB2.out.size
  have hs2 : StrsAt (w2.alloc (.cells #[.string ⟨#[97]⟩] 9)) (.slice (some ⟨w2.heap.size, 0, none⟩) 1 1) nB.leans := strs_lit (ss := [[97]]) (by simp) (fun j hj => by obtain rfl : j = 0 := by { simp at hj; omega }; simp [encStr])
  have hc2 : Calls Try.prog 7 #[.pointer (some ⟨p, 0, none⟩), .agg #[.string ⟨#[98]⟩, .int .i64 0, .int .u32 0, .slice (some ⟨w2.heap.size, 0, none⟩) 1 1]] (w2.alloc (.cells #[.string ⟨#[97]⟩] 9)) fun e w' => e = .returned (.int .i64 0) ∧ (∃ F' D', SH w' p b F' ([nC] ++ [nB]) D') ∧ (w2.alloc (.cells #[.string ⟨#[97]⟩] 9)).grownBy w' (some b) :=
    add_ok nB okB' _ _ hs2 p b _ [nC] _ (hS2.below ((Below.refl _ _).alloc (Nat.le_refl _) _) (Nat.le_refl _)) addI2
  have HC2 := hidIt hc2
  clear hs2 hc2 hS2 hg2 HC1
  go_wp2_with fail
  refine HC2.out.mono ?_
  rintro e w3 ⟨rfl, ⟨F3, D3, hS3⟩, hg3⟩
  have HB3 : Hid (Below w.heap.size w w3) := (HB2.out.alloc hw2 _).grown hg3 (by simp; omega) (fun j hj => by cases hj; exact hb)
  have hw3 := HB3.out.size
  have HS3 : Hid (SH w3 p b F3 [nC, nB] D3) := hS3
  clear hS3 hg3 HC2
  go_wp2_with fail
  refine (order_any w3 p b F3 [nC, nB] D3 HS3.out).mono ?_
  rintro e w4 ⟨v4, rfl, hr4, hb4⟩
  rw [order1] at hr4 ⊢
  obtain ⟨a4, c4, rfl⟩ := row_shape hr4
  have HB4 : Hid (Below w.heap.size w w4) := HB3.out.trans (hb4.mono hw3)
  have hw4 := HB4.out.size
  have hs4 : StrsAt w4 (.slice none 0 0) nA.leans := .inl ⟨rfl, none, 0, rfl, fun _ => rfl⟩
  have hc4 : Calls Try.prog 7 #[.pointer (some ⟨p, 0, none⟩), .agg #[.string ⟨#[97]⟩, .int .i64 0, .int .u32 0, .slice none 0 0]] w4 fun e w' => e = .returned (.int .i64 0) ∧ (∃ F' D', SH w' p b F' ([nC, nB] ++ [nA]) D') ∧ w4.grownBy w' (some b) :=
    add_ok nA okA _ _ hs4 p b _ [nC, nB] _ (HS3.out.below hb4 (Nat.le_refl _)) addI3
  have HC4 := hidIt hc4
  clear hs4 hc4 hr4 hb4
  go_wp2_with fail
  refine HC4.out.mono ?_
  rintro e w5 ⟨rfl, ⟨F5, D5, hS5⟩, hg5⟩
  have HB5 : Hid (Below w.heap.size w w5) := HB4.out.grown hg5 hw4 (fun j hj => by cases hj; exact hb)
  have hw5 := HB5.out.size
  have HS5 : Hid (SH w5 p b F5 [nC, nB, nA] D5) := hS5
  clear hS5 hg5 HC4
  go_wp2_with fail
  refine (order_any w5 p b F5 [nC, nB, nA] D5 HS5.out).mono ?_
  rintro e w6 ⟨v6, rfl, hr6, hb6⟩
  rw [order2] at hr6 ⊢
  obtain ⟨a6, c6, rfl⟩ := row_shape hr6
  have HB6 : Hid (Below w.heap.size w w6) := HB5.out.trans (hb6.mono hw5)
  have hw6 := HB6.out.size
  have hr6' : w6.ownsRow w5.heap.size 9 1 (.slice a6 ([[97], [98], [99]] : List (List UInt8)).length c6) ([[97], [98], [99]] : List (List UInt8)).length (([[97], [98], [99]] : List (List UInt8)).map encStr) := hr6
  have hs6 := (StrsAt.of_row hr6').below ((Below.refl w6.heap.size w6).alloc (Nat.le_refl _) (.cells #[.string ⟨#[97]⟩, .string ⟨#[98]⟩, .string ⟨#[99]⟩] 9)) (Nat.le_refl _)
  have hs7 : StrsAt (w6.alloc (.cells #[.string ⟨#[97]⟩, .string ⟨#[98]⟩, .string ⟨#[99]⟩] 9)) (.slice (some ⟨w6.heap.size, 0, none⟩) 3 3) [[97], [98], [99]] := strs_lit (ss := [[97], [98], [99]]) (by simp) (fun j hj => by
    have hj' : j = 0 ∨ j = 1 ∨ j = 2 := by { simp at hj; omega }
    rcases hj' with rfl | rfl | rfl <;> simp [encStr])
  have hc6 : Calls Try.prog 11 #[.slice a6 3 c6, .slice (some ⟨w6.heap.size, 0, none⟩) 3 3] (w6.alloc (.cells #[.string ⟨#[97]⟩, .string ⟨#[98]⟩, .string ⟨#[99]⟩] 9)) fun e w' => e = .returned (.bool true) ∧ Below (w6.alloc (.cells #[.string ⟨#[97]⟩, .string ⟨#[98]⟩, .string ⟨#[99]⟩] 9)).heap.size (w6.alloc (.cells #[.string ⟨#[97]⟩, .string ⟨#[98]⟩, .string ⟨#[99]⟩] 9)) w' :=
    texts_any [[97], [98], [99]] [[97], [98], [99]] (by simp [StrsOk, maxLen]) (by simp [StrsOk, maxLen]) a6 _ c6 3 _ hs6 hs7
  have HC6 := hidIt hc6
  clear hr6 hr6' hs6 hs7 hc6 hb6
  go_wp2_with fail
  refine HC6.out.mono ?_
  rintro e w7 ⟨rfl, hb7⟩
  have HB7 : Hid (Below w.heap.size w w7) := (HB6.out.alloc hw6 _).trans (hb7.mono (by simp; omega))
  clear hb7 HC6
  have hc7 : Calls Try.prog 15 #[.slice none 0 0] w7 fun e w' => e = .returned (.int .u32 2166136261) ∧ w' = w7 := sum_any [] (by simp [WordsOk]) none 0 w7 (.inl ⟨rfl, none, 0, rfl⟩)
  have HC7 := hidIt hc7
  clear hc7
  go_wp2_with fail
  refine HC7.out.mono ?_
  rintro e w8 ⟨rfl, rfl⟩
  go_wp2
  go_ret
  exact ⟨rfl, HB7.out⟩
end Go.Proofs.Ytnjjpahpaeblfab
