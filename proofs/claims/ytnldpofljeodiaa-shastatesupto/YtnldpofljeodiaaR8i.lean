/- Plain: the document's round, of either width. -/
import Derived.Test.YtnldpofljeodiaaGe
import Derived.Test.YtnldpofljeodiaaGf
namespace Go.Proofs.Ytnldpofljeodiaa
open Go.RowKit
set_option linter.unusedVariables false

def nbK (k : Nat) : Nat := if 256 < k then 8 else 4
def tuN (k i : Nat) : Nat := if 256 < k then [28, 34, 39, 14, 18, 41, 1, 8, 7, 19, 61, 6].getD i 0 else [2, 13, 22, 6, 11, 25, 7, 18, 3, 17, 19, 10].getD i 0
theorem tuR_row (k : Nat) : tuR k = rowZ .i64 12 (fun i => (tuN k i : Int)) := by
  unfold tuR tuN; split <;> rfl
theorem tu_le (k i : Nat) : tuN k i ≤ wdt k ∧ tuN k i ≤ 64 := by
  by_cases hi : i < 12
  · unfold tuN wdt
    split <;> (rcases (show i = 0 ∨ i = 1 ∨ i = 2 ∨ i = 3 ∨ i = 4 ∨ i = 5 ∨ i = 6 ∨ i = 7 ∨ i = 8 ∨ i = 9 ∨ i = 10 ∨ i = 11 by omega) with rfl | rfl | rfl | rfl | rfl | rfl | rfl | rfl | rfl | rfl | rfl | rfl <;> decide)
  · have : tuN k i = 0 := by
      unfold tuN; split <;> (rw [List.getD_eq_getElem?_getD, List.getElem?_eq_none (by simp; omega)]; rfl)
    rw [this]; exact ⟨Nat.zero_le _, Nat.zero_le _⟩
theorem tu_sh (k : Nat) : tuN k 8 ≤ 32 ∧ tuN k 11 ≤ 32 := by unfold tuN; split <;> decide
def bkK (k : Nat) (b : Nat → UInt8) (t : Nat) : List Nat := bwL (mdK k) (fun t => beTo b (t * nbK k) (nbK k)) (fun x => shiftsS (wdt k) x (tuN k 6) (tuN k 7) (tuN k 8)) (fun x => shiftsS (wdt k) x (tuN k 9) (tuN k 10) (tuN k 11)) t
theorem bkK_w (k : Nat) (h : 256 < k) (b : Nat → UInt8) (t : Nat) : bkK k b t = bkW b t := by
  unfold bkK bkW mdK nbK wdt tuN; simp only [if_pos h]; rfl
theorem bkK_n (k : Nat) (h : ¬ 256 < k) (b : Nat → UInt8) (t : Nat) : bkK k b t = bkN b t := by
  unfold bkK bkN mdK nbK wdt tuN; simp only [if_neg h]; rfl
theorem bw_far (M : Nat) (be s0 s1 : Nat → Nat) (t j : Nat) (hj : j < t) : ∀ d, (bwL M be s0 s1 (t + d)).getD j 0 = (bwL M be s0 s1 t).getD j 0
  | 0 => rfl
  | d + 1 => by rw [← Nat.add_assoc, bw_next, if_neg (by omega)]; exact bw_far M be s0 s1 t j hj d
theorem bw_at (M : Nat) (be s0 s1 : Nat → Nat) (t n : Nat) (h : t < n) : (bwL M be s0 s1 n).getD t 0 = bwN M be s0 s1 (bwL M be s0 s1 n) t := by
  have e1 : (bwL M be s0 s1 n).getD t 0 = bwN M be s0 s1 (bwL M be s0 s1 t) t := by
    have := bw_far M be s0 s1 (t + 1) t (by omega) (n - (t + 1))
    rw [show t + 1 + (n - (t + 1)) = n by omega] at this
    rw [this, bw_next, if_pos rfl]
  have far : ∀ j, j < t → (bwL M be s0 s1 n).getD j 0 = (bwL M be s0 s1 t).getD j 0 := fun j hj => by
    have := bw_far M be s0 s1 t j hj (n - t)
    rw [show t + (n - t) = n by omega] at this; exact this
  rw [e1]
  unfold bwN
  by_cases h16 : t < 16
  · rw [if_pos h16, if_pos h16]
  · rw [if_neg h16, if_neg h16, far (t - 2) (by omega), far (t - 7) (by omega), far (t - 15) (by omega), far (t - 16) (by omega)]
def wX (k : Nat) (b : Nat → UInt8) (j : Nat) : Nat := (bkK k b (nkK k)).getD j 0
theorem nk_le (k : Nat) : 64 ≤ nkK k ∧ nkK k ≤ 80 := by unfold nkK; split <;> omega
theorem wX_lo (k : Nat) (b : Nat → UInt8) (j : Nat) (h : j < 16) : wX k b j = beTo b (j * nbK k) (nbK k) := by
  have := nk_le k
  unfold wX bkK
  rw [bw_at _ _ _ _ j (nkK k) (by omega)]
  unfold bwN
  rw [if_pos h]
theorem wX_hi (k : Nat) (b : Nat → UInt8) (t : Nat) (h : 16 ≤ t) (hn : t < nkK k) : wX k b t = (((shiftsS (wdt k) (wX k b (t - 2)) (tuN k 9) (tuN k 10) (tuN k 11) + wX k b (t - 7)) % mdK k + shiftsS (wdt k) (wX k b (t - 15)) (tuN k 6) (tuN k 7) (tuN k 8)) % mdK k + wX k b (t - 16)) % mdK k := by
  unfold wX bkK
  rw [bw_at _ _ _ _ t (nkK k) hn]
  unfold bwN
  rw [if_neg (by omega)]
theorem wX_lt (k : Nat) (b : Nat → UInt8) (j : Nat) : wX k b j < mdK k := by
  refine bw_lt _ (by unfold mdK; split <;> omega) _ _ _ (fun t => ?_) _ _
  have := beTo_lt b (t * nbK k) (nbK k)
  unfold nbK mdK at *
  split at this <;> rename_i h <;> simp only [h, if_true, if_false] at * <;> exact this
def ccK (k : Nat) (b : Nat → UInt8) (c : Nat → Nat) (t : Nat) : Nat → Nat := ccT (mdK k) (fun y => turnsS (wdt k) y (tuN k 3) (tuN k 4) (tuN k 5)) (fun y => turnsS (wdt k) y (tuN k 0) (tuN k 1) (tuN k 2)) (coS k) (wX k b) c t
theorem ccK_lt (k : Nat) (b : Nat → UInt8) (c : Nat → Nat) (h : ∀ j, c j < mdK k) (t j : Nat) : ccK k b c t j < mdK k := cc_lt _ (by unfold mdK; split <;> omega) _ _ _ _ _ h t j
theorem afK_cc (k : Nat) (b : Nat → UInt8) (c : Nat → Nat) (j : Nat) : afK k b c j = (c j + ccK k b c (nkK k) j) % mdK k := by
  have hx : ∀ t, wX k b t = (bkK k b (nkK k)).getD t 0 := fun _ => rfl
  unfold afK ccK
  by_cases h : 256 < k
  · rw [if_pos h]
    have hX : wX k b = fun t => (bkW b 80).getD t 0 := by
      funext t; rw [hx, bkK_w k h, show nkK k = 80 from if_pos h]
    rw [hX, show nkK k = 80 from if_pos h]
    unfold afW caW mdK wdt tuN
    simp only [if_pos h]; rfl
  · rw [if_neg h]
    have hX : wX k b = fun t => (bkN b 64).getD t 0 := by
      funext t; rw [hx, bkK_n k h, show nkK k = 64 from if_neg h]
    rw [hX, show nkK k = 64 from if_neg h]
    unfold afN caN mdK wdt tuN
    simp only [if_neg h]; rfl
end Go.Proofs.Ytnldpofljeodiaa
