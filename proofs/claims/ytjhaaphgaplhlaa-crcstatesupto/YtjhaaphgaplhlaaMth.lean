/- Plain facts of registers: bits that go in one by one, that this is linear, and that a register's own highest bits shift it. -/
import Derived.RowKit
namespace Go.Proofs.Ytjhaaphgaplhlaa
open Go
set_option linter.unusedVariables false

def sel (c : Bool) (P : Nat) : Nat := if c then P else 0
/-- What one bit makes of a register of w bits. -/
def stepB (w P r : Nat) (c : Bool) : Nat := (2 * r) % 2 ^ w ^^^ sel (r.testBit (w - 1) != c) P
def runB (w P : Nat) : Nat → List Bool → Nat
  | r, [] => r
  | r, c :: l => runB w P (stepB w P r c) l
/-- The bits of a byte in the order in which a register takes them. -/
def bitsOf (inn : Bool) (b : Nat) : List Bool := (List.range 8).map fun i => b.testBit (if inn then i else 7 - i)
def streamOf (inn : Bool) (l : List UInt8) : List Bool := l.flatMap fun b => bitsOf inn b.toNat
/-- The lowest k bits turned round. -/
def rev (v : Nat) : Nat → Nat
  | 0 => 0
  | k + 1 => 2 * rev v k + (v.testBit k).toNat

theorem xor_lt {a b w : Nat} (ha : a < 2 ^ w) (hb : b < 2 ^ w) : a ^^^ b < 2 ^ w := Nat.xor_lt_two_pow ha hb
theorem sel_lt {c : Bool} {P w : Nat} (h : P < 2 ^ w) : sel c P < 2 ^ w := by unfold sel; split; exact h; exact Nat.two_pow_pos w
theorem step_lt {w P r : Nat} {c : Bool} (hP : P < 2 ^ w) : stepB w P r c < 2 ^ w := xor_lt (Nat.mod_lt _ (Nat.two_pow_pos w)) (sel_lt hP)
theorem run_lt {w P : Nat} (hP : P < 2 ^ w) : ∀ (l : List Bool) (r : Nat), r < 2 ^ w → runB w P r l < 2 ^ w
  | [], r, h => h
  | c :: l, r, h => run_lt hP l _ (step_lt hP)
theorem run_append (w P : Nat) : ∀ (k l : List Bool) (r : Nat), runB w P r (k ++ l) = runB w P (runB w P r k) l
  | [], l, r => rfl
  | c :: k, l, r => run_append w P k l _

theorem sel_xor (a b : Bool) (P : Nat) : sel (a ^^ b) P = sel a P ^^^ sel b P := by cases a <;> cases b <;> simp [sel]
theorem dbl_xor (a b w : Nat) : (2 * (a ^^^ b)) % 2 ^ w = (2 * a) % 2 ^ w ^^^ (2 * b) % 2 ^ w := by
  apply Nat.eq_of_testBit_eq
  intro i
  simp only [Nat.testBit_xor, Nat.testBit_mod_two_pow]
  cases i with
  | zero => simp [Nat.testBit_zero]
  | succ i => simp only [Nat.testBit_succ, Nat.mul_div_cancel_left _ (show 0 < 2 by omega), Nat.testBit_xor]; cases decide (i + 1 < w) <;> simp
theorem xor4 (a b c d : Nat) : (a ^^^ b) ^^^ (c ^^^ d) = (a ^^^ c) ^^^ (b ^^^ d) := by
  apply Nat.eq_of_testBit_eq; intro i; simp only [Nat.testBit_xor]; cases a.testBit i <;> cases b.testBit i <;> cases c.testBit i <;> cases d.testBit i <;> rfl
theorem step_xor (w P r s : Nat) (c d : Bool) : stepB w P (r ^^^ s) (c ^^ d) = stepB w P r c ^^^ stepB w P s d := by
  unfold stepB
  rw [dbl_xor, Nat.testBit_xor, show ((r.testBit (w - 1) ^^ s.testBit (w - 1)) != (c ^^ d)) = ((r.testBit (w - 1) != c) ^^ (s.testBit (w - 1) != d)) by cases r.testBit (w - 1) <;> cases s.testBit (w - 1) <;> cases c <;> cases d <;> rfl, sel_xor, xor4]
/-- LINEAR: registers and bits go together by exclusive or. -/
theorem run_xor (w P : Nat) : ∀ (k l : List Bool) (r s : Nat), k.length = l.length → runB w P (r ^^^ s) (List.zipWith xor k l) = runB w P r k ^^^ runB w P s l
  | [], [], r, s, _ => rfl
  | [], _ :: _, _, _, h => by simp at h
  | _ :: _, [], _, _, h => by simp at h
  | c :: k, d :: l, r, s, h => by
    simp only [List.zipWith_cons_cons, runB]
    rw [step_xor, run_xor w P k l _ _ (by simpa using h)]

/-- n bits of 0. -/
def noB (w P : Nat) : Nat → Nat → Nat
  | 0, r => r
  | n + 1, r => noB w P n (stepB w P r false)
theorem run_false (w P : Nat) : ∀ (n r : Nat), runB w P r (List.replicate n false) = noB w P n r
  | 0, r => rfl
  | n + 1, r => run_false w P n _
theorem no_lt {w P : Nat} (hP : P < 2 ^ w) : ∀ (n r : Nat), r < 2 ^ w → noB w P n r < 2 ^ w
  | 0, r, h => h
  | n + 1, r, h => no_lt hP n _ (step_lt hP)
theorem no_add (w P : Nat) : ∀ (m n r : Nat), noB w P (m + n) r = noB w P n (noB w P m r)
  | 0, n, r => by rw [Nat.zero_add]; rfl
  | m + 1, n, r => by rw [Nat.add_right_comm]; exact no_add w P m n _
theorem no_succ (w P n r : Nat) : noB w P (n + 1) r = stepB w P (noB w P n r) false := no_add w P n 1 r
theorem no_xor (w P : Nat) : ∀ (n r s : Nat), noB w P n (r ^^^ s) = noB w P n r ^^^ noB w P n s
  | 0, r, s => rfl
  | n + 1, r, s => by
    have h := step_xor w P r s false false
    show noB w P n (stepB w P (r ^^^ s) false) = _
    rw [show stepB w P (r ^^^ s) false = stepB w P r false ^^^ stepB w P s false from h, no_xor w P n]; rfl
theorem step_zero (w P : Nat) : stepB w P 0 false = 0 := by simp [stepB, sel]
theorem no_zero (w P : Nat) : ∀ n, noB w P n 0 = 0
  | 0 => rfl
  | n + 1 => by show noB w P n (stepB w P 0 false) = 0; rw [step_zero]; exact no_zero w P n
theorem zip_false (l : List Bool) : List.zipWith xor l (List.replicate l.length false) = l := by
  induction l with
  | nil => rfl
  | cons c l ih => rw [List.length_cons, List.replicate_succ, List.zipWith_cons_cons, ih]; simp
/-- What a register makes of bits, and what the register adds to it. -/
theorem run_split (w P r s : Nat) (l : List Bool) : runB w P (r ^^^ s) l = runB w P r l ^^^ noB w P l.length s := by
  have h := run_xor w P l (List.replicate l.length false) r s (by simp)
  rw [zip_false, run_false] at h
  exact h
theorem run_parts (w P r : Nat) (l : List Bool) : runB w P r l = runB w P 0 l ^^^ noB w P l.length r := by
  have := run_split w P 0 r l
  rwa [Nat.zero_xor] at this

/-- The highest k bits of a register of w bits, the highest first; noughts where there are none. -/
def topB (w r : Nat) : Nat → List Bool
  | 0 => []
  | k + 1 => (r.testBit (w - 1)) :: topB w ((2 * r) % 2 ^ w) k
theorem topB_length (w : Nat) : ∀ (k r : Nat), (topB w r k).length = k
  | 0, r => rfl
  | k + 1, r => by rw [topB, List.length_cons, topB_length w k]
theorem mod_dbl (w r k : Nat) : ((2 * r) % 2 ^ w * 2 ^ k) % 2 ^ w = (r * 2 ^ (k + 1)) % 2 ^ w := by
  rw [Nat.mod_mul_mod, Nat.pow_succ]; congr 1; rw [Nat.mul_comm 2 r, Nat.mul_assoc, Nat.mul_comm 2]
/-- SHIFT: a register's own highest bits shift it. -/
theorem run_top (w P : Nat) : ∀ (k r : Nat), r < 2 ^ w → runB w P r (topB w r k) = (r * 2 ^ k) % 2 ^ w
  | 0, r, h => by show r = _; rw [Nat.pow_zero, Nat.mul_one, Nat.mod_eq_of_lt h]
  | k + 1, r, h => by
    rw [topB, runB]
    have : stepB w P r (r.testBit (w - 1)) = (2 * r) % 2 ^ w := by unfold stepB; simp [sel]
    rw [this, run_top w P k _ (Nat.mod_lt _ (Nat.two_pow_pos w)), mod_dbl]
theorem topB_get (w : Nat) : ∀ (k r i : Nat), i < k → r < 2 ^ w → (topB w r k)[i]? = some (decide (i < w) && r.testBit (w - 1 - i))
  | 0, r, i, h, _ => by omega
  | k + 1, r, 0, h, hr => by
    rw [topB, List.getElem?_cons_zero, Nat.sub_zero]
    cases w with
    | zero => have : r = 0 := by simpa using hr
              subst this; simp
    | succ w => simp
  | k + 1, r, i + 1, h, hr => by
    rw [topB, List.getElem?_cons_succ, topB_get w k _ i (by omega) (Nat.mod_lt _ (Nat.two_pow_pos w)), Nat.testBit_mod_two_pow]
    by_cases hi : i + 1 < w
    · obtain ⟨j, hj⟩ : ∃ j, w - 1 - i = j + 1 := ⟨w - 1 - i - 1, by omega⟩
      rw [hj, Nat.testBit_succ, Nat.mul_div_cancel_left _ (by omega), show w - 1 - (i + 1) = j by omega, decide_eq_true (show i < w by omega), decide_eq_true (show j + 1 < w by omega), decide_eq_true hi]
      rfl
    · by_cases hi2 : i < w
      · have : w - 1 - i = 0 := by omega
        rw [this, Nat.testBit_zero, decide_eq_false hi]
        simp
      · rw [decide_eq_false hi2, decide_eq_false hi]; rfl

theorem rev_testBit (v : Nat) : ∀ (k j : Nat), (rev v k).testBit j = (decide (j < k) && v.testBit (k - 1 - j))
  | 0, j => by simp [rev]
  | k + 1, j => by
    rw [rev]
    cases j with
    | zero =>
      rw [Nat.testBit_zero]
      simp only [Nat.zero_lt_succ, decide_true, Bool.true_and, Nat.add_sub_cancel, Nat.sub_zero]
      cases v.testBit k <;> simp <;> omega
    | succ j =>
      rw [Nat.testBit_succ, show (2 * rev v k + (v.testBit k).toNat) / 2 = rev v k by cases v.testBit k <;> simp <;> omega, rev_testBit v k j]
      by_cases hj : j < k
      · rw [show k + 1 - 1 - (j + 1) = k - 1 - j by omega, decide_eq_true hj, decide_eq_true (show j + 1 < k + 1 by omega)]
      · rw [decide_eq_false hj, decide_eq_false (show ¬ j + 1 < k + 1 by omega)]; rfl
theorem lt_of_bits {v w : Nat} (h : ∀ i, w ≤ i → v.testBit i = false) : v < 2 ^ w := Nat.lt_pow_two_of_testBit v h
theorem testBit_ge {v w i : Nat} (h : v < 2 ^ w) (hi : w ≤ i) : v.testBit i = false := Nat.testBit_lt_two_pow (Nat.lt_of_lt_of_le h (Nat.pow_le_pow_right (by omega) hi))
theorem rev_lt (v k : Nat) : rev v k < 2 ^ k := lt_of_bits fun i hi => by rw [rev_testBit]; simp; omega
theorem rev_rev {v k : Nat} (h : v < 2 ^ k) : rev (rev v k) k = v := by
  apply Nat.eq_of_testBit_eq; intro i
  rw [rev_testBit, rev_testBit]
  by_cases hi : i < k
  · rw [show k - 1 - (k - 1 - i) = i by omega, decide_eq_true hi, decide_eq_true (show k - 1 - i < k by omega)]; rfl
  · rw [testBit_ge h (Nat.le_of_not_lt hi), decide_eq_false hi]; rfl
theorem rev_xor (a b k : Nat) : rev (a ^^^ b) k = rev a k ^^^ rev b k := by
  apply Nat.eq_of_testBit_eq; intro i
  rw [rev_testBit, Nat.testBit_xor, Nat.testBit_xor, rev_testBit, rev_testBit]
  cases decide (i < k) <;> simp
theorem rev_inj {a b k : Nat} (ha : a < 2 ^ k) (hb : b < 2 ^ k) (h : rev a k = rev b k) : a = b := by rw [← rev_rev ha, h, rev_rev hb]
theorem xor_cancel {a b c : Nat} (h : a ^^^ c = b ^^^ c) : a = b := by
  have := congrArg (· ^^^ c) h
  simpa [Nat.xor_assoc] using this
end Go.Proofs.Ytjhaaphgaplhlaa
