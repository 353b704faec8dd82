/- Plain facts of registers: products modulo the polynomial, powers of x, bursts, residues, tables. -/
import Derived.Test.YtjhaaphgaplhlaaMth
namespace Go.Proofs.Ytjhaaphgaplhlaa
open Go
set_option linter.unusedVariables false

/-- The product of a and b, k bits of b being done, the highest first. -/
def timesTo (w P a b : Nat) : Nat → Nat
  | 0 => 0
  | k + 1 => stepB w P (timesTo w P a b k) false ^^^ sel (b.testBit (w - 1 - k)) a
def timesB (w P a b : Nat) : Nat := timesTo w P a b w
theorem times_lt {w P a b : Nat} (hP : P < 2 ^ w) (ha : a < 2 ^ w) : ∀ k, timesTo w P a b k < 2 ^ w
  | 0 => Nat.two_pow_pos w
  | k + 1 => xor_lt (step_lt hP) (sel_lt ha)
def sumB (w P a b : Nat) : Nat → Nat
  | 0 => 0
  | k + 1 => sumB w P a b k ^^^ sel (b.testBit k) (noB w P k a)
theorem no_sel (w P n : Nat) (c : Bool) (a : Nat) : noB w P n (sel c a) = sel c (noB w P n a) := by cases c <;> simp [sel, no_zero]
theorem times_sum_at (w P a b : Nat) : ∀ (k n : Nat), n + k = w → noB w P n (timesTo w P a b k) ^^^ sumB w P a b n = sumB w P a b w
  | 0, n, h => by rw [timesTo, no_zero, Nat.zero_xor, show n = w by omega]
  | k + 1, n, h => by
    rw [timesTo, no_xor, no_sel, show w - 1 - k = n by omega, Nat.xor_assoc, Nat.xor_comm (sel _ _), ← times_sum_at w P a b k (n + 1) (by omega)]
    rfl
theorem times_sum (w P a b : Nat) : timesB w P a b = sumB w P a b w := by
  have := times_sum_at w P a b w 0 (by omega)
  simpa [timesB, noB, sumB] using this
theorem sum_xor (w P a c b : Nat) : ∀ k, sumB w P (a ^^^ c) b k = sumB w P a b k ^^^ sumB w P c b k
  | 0 => by simp [sumB]
  | k + 1 => by
    rw [sumB, sumB, sumB, sum_xor w P a c b k, no_xor, show sel (b.testBit k) (noB w P k a ^^^ noB w P k c) = sel (b.testBit k) (noB w P k a) ^^^ sel (b.testBit k) (noB w P k c) by cases b.testBit k <;> simp [sel], xor4]
theorem no_swap (w P m n r : Nat) : noB w P m (noB w P n r) = noB w P n (noB w P m r) := by rw [← no_add, ← no_add, Nat.add_comm]
theorem sum_no (w P a b n : Nat) : ∀ k, sumB w P (noB w P n a) b k = noB w P n (sumB w P a b k)
  | 0 => by rw [sumB, sumB, no_zero]
  | k + 1 => by rw [sumB, sumB, sum_no w P a b n k, no_xor, no_sel, no_swap]
theorem sum_zero (w P b : Nat) : ∀ k, sumB w P 0 b k = 0
  | 0 => rfl
  | k + 1 => by rw [sumB, sum_zero w P b k, no_zero]; cases b.testBit k <;> simp [sel]
theorem sum_sel (w P a b : Nat) (c : Bool) (k : Nat) : sumB w P (sel c a) b k = sel c (sumB w P a b k) := by cases c <;> simp [sel, sum_zero]
theorem sum_sum (w P a b c n : Nat) : ∀ k, sumB w P (sumB w P c a k) b n = sumB w P (sumB w P c b n) a k
  | 0 => by rw [sumB, sum_zero, sumB]
  | k + 1 => by rw [sumB, sum_xor, sum_sum w P a b c n k, sum_sel, sum_no, sumB]
theorem no_one {w P : Nat} : ∀ k, k < w → noB w P k 1 = 2 ^ k
  | 0, h => rfl
  | k + 1, h => by
    rw [no_succ, no_one k (by omega), stepB, Nat.testBit_two_pow, decide_eq_false (by omega), ← Nat.pow_succ', Nat.mod_eq_of_lt (Nat.pow_lt_pow_right (by omega) h)]
    simp [sel]
theorem mod_succ_bit (b k : Nat) : b % 2 ^ k ^^^ sel (b.testBit k) (2 ^ k) = b % 2 ^ (k + 1) := by
  apply Nat.eq_of_testBit_eq; intro i
  have hs : (sel (b.testBit k) (2 ^ k)).testBit i = (b.testBit k && decide (k = i)) := by cases b.testBit k <;> simp [sel, Nat.testBit_two_pow]
  rw [Nat.testBit_xor, Nat.testBit_mod_two_pow, Nat.testBit_mod_two_pow, hs]
  by_cases h : i < k
  · rw [decide_eq_true h, decide_eq_true (show i < k + 1 by omega), decide_eq_false (show ¬ k = i by omega)]; simp
  · by_cases h2 : k = i
    · subst h2; simp
    · rw [decide_eq_false h, decide_eq_false (show ¬ i < k + 1 by omega), decide_eq_false h2]; simp
theorem sum_one (w P b : Nat) : ∀ k, k ≤ w → sumB w P 1 b k = b % 2 ^ k
  | 0, _ => by rw [sumB, Nat.pow_zero, Nat.mod_one]
  | k + 1, h => by rw [sumB, sum_one w P b k (by omega), no_one k (by omega), mod_succ_bit]
theorem sum_comm {w P a b : Nat} (ha : a < 2 ^ w) (hb : b < 2 ^ w) : sumB w P a b w = sumB w P b a w := by
  have := sum_sum w P a b 1 w w
  rw [sum_one w P a w (Nat.le_refl _), sum_one w P b w (Nat.le_refl _), Nat.mod_eq_of_lt ha, Nat.mod_eq_of_lt hb] at this
  exact this
/-- The product with the n-th power of x is n bits of 0. -/
theorem times_pow {w P a n : Nat} (hw : 0 < w) (hP : P < 2 ^ w) (ha : a < 2 ^ w) : timesB w P a (noB w P n 1) = noB w P n a := by
  have h1 : 1 < 2 ^ w := Nat.one_lt_two_pow (by omega)
  rw [times_sum, sum_comm ha (no_lt hP n 1 h1), sum_no, sum_one w P a w (Nat.le_refl _), Nat.mod_eq_of_lt ha]

/-- A nought is made of nothing else, where the polynomial has its lowest bit. -/
theorem step_inj {w P r : Nat} (hw : 0 < w) (hP : P.testBit 0 = true) (hr : r < 2 ^ w) (h : stepB w P r false = 0) : r = 0 := by
  have h0 := congrArg (fun x => x.testBit 0) h
  have ht : r.testBit (w - 1) = false := by
    simp only [stepB, Nat.testBit_xor, Nat.testBit_mod_two_pow, Nat.zero_testBit] at h0
    cases hb : r.testBit (w - 1) with
    | false => rfl
    | true => rw [hb] at h0; simp [sel, hP] at h0
  rw [stepB, ht] at h
  simp [sel] at h
  obtain ⟨v, rfl⟩ : ∃ v, w = v + 1 := ⟨w - 1, by omega⟩
  have hlt : r < 2 ^ v := by
    refine lt_of_bits fun i hi => ?_
    by_cases he : i = v
    · subst he; exact ht
    · exact testBit_ge hr (by omega)
  rw [Nat.mod_eq_of_lt (by rw [Nat.pow_succ]; omega)] at h
  omega
theorem no_inj {w P : Nat} (hw : 0 < w) (hP : P.testBit 0 = true) (hPl : P < 2 ^ w) : ∀ (n r : Nat), r < 2 ^ w → noB w P n r = 0 → r = 0
  | 0, r, _, h => h
  | n + 1, r, hr, h => step_inj hw hP hr (no_inj hw hP hPl n _ (step_lt hPl) h)

def natOf : List Bool → Nat
  | [] => 0
  | c :: l => 2 * natOf l + c.toNat
theorem natOf_testBit : ∀ (l : List Bool) (i : Nat), (natOf l).testBit i = l.getD i false
  | [], i => by simp [natOf]
  | c :: l, 0 => by rw [natOf, Nat.testBit_zero]; cases c <;> simp <;> omega
  | c :: l, i + 1 => by rw [natOf, Nat.testBit_succ, show (2 * natOf l + c.toNat) / 2 = natOf l by cases c <;> simp <;> omega, natOf_testBit l i]; rfl
/-- A register that has these bits at its upper end. -/
def endOf (w : Nat) (e : List Bool) : Nat := rev (natOf e) w
theorem endOf_testBit (w : Nat) (e : List Bool) (j : Nat) : (endOf w e).testBit j = (decide (j < w) && e.getD (w - 1 - j) false) := by rw [endOf, rev_testBit, natOf_testBit]
theorem top_end {w : Nat} {e : List Bool} (h : e.length ≤ w) : topB w (endOf w e) e.length = e := by
  apply List.ext_getElem?
  intro i
  by_cases hi : i < e.length
  · rw [topB_get w e.length (endOf w e) i hi (rev_lt _ _), endOf_testBit, show w - 1 - (w - 1 - i) = i by omega, decide_eq_true (show i < w by omega), decide_eq_true (show w - 1 - i < w by omega), List.getD_eq_getElem?_getD, List.getElem?_eq_getElem hi]
    rfl
  · rw [List.getElem?_eq_none (by rw [topB_length]; omega), List.getElem?_eq_none (by omega)]
theorem end_shift {w : Nat} {e : List Bool} (h : e.length ≤ w) : (endOf w e * 2 ^ e.length) % 2 ^ w = 0 := by
  apply Nat.eq_of_testBit_eq; intro i
  rw [Nat.testBit_mod_two_pow, Nat.zero_testBit, Nat.testBit_mul_two_pow, endOf_testBit]
  by_cases hi : i < w
  · by_cases hk : e.length ≤ i
    · rw [List.getD_eq_getElem?_getD, List.getElem?_eq_none (show e.length ≤ w - 1 - (i - e.length) by omega)]; simp
    · rw [decide_eq_false (show ¬ (i ≥ e.length) by omega)]; simp
  · rw [decide_eq_false hi]; rfl
/-- Bits that go into nothing, as many as the width at most. -/
theorem run_end {w P : Nat} {e : List Bool} (h : e.length ≤ w) : runB w P 0 e = noB w P e.length (endOf w e) := by
  have h1 := run_top w P e.length (endOf w e) (rev_lt _ _)
  rw [top_end h, end_shift h, run_parts] at h1
  exact xor_cancel (c := noB w P e.length (endOf w e)) (by rw [h1, Nat.xor_self])
theorem run_end_at {w P R : Nat} {e : List Bool} (h : e.length ≤ w) : runB w P R e = noB w P e.length (R ^^^ endOf w e) := by
  rw [run_parts, run_end h, no_xor, Nat.xor_comm]
theorem end_zero {w : Nat} {e : List Bool} (h : e.length ≤ w) (h0 : endOf w e = 0) : ∀ c ∈ e, c = false := by
  intro c hc
  obtain ⟨i, hi, rfl⟩ := List.mem_iff_getElem.1 hc
  have := endOf_testBit w e (w - 1 - i)
  rw [h0, Nat.zero_testBit, show w - 1 - (w - 1 - i) = i by omega, decide_eq_true (show w - 1 - i < w by omega), List.getD_eq_getElem?_getD, List.getElem?_eq_getElem hi] at this
  simpa using this.symm
theorem run_falses {w P : Nat} {e : List Bool} (r : Nat) (h : ∀ c ∈ e, c = false) : runB w P r e = noB w P e.length r := by
  rw [List.eq_replicate_of_mem h, run_false, List.length_replicate]
/-- BURSTS. -/
theorem burst {w P R : Nat} {k l e : List Bool} {p q : Nat} (hw : 0 < w) (hP : P.testBit 0 = true) (hPl : P < 2 ^ w) (hkl : k.length = l.length) (he : e.length ≤ w)
    (hz : List.zipWith xor k l = List.replicate p false ++ (e ++ List.replicate q false)) : runB w P R k = runB w P R l ↔ ∀ c ∈ e, c = false := by
  have h := run_xor w P k l R R hkl
  rw [Nat.xor_self, hz, run_append, run_false, no_zero, run_append, run_false] at h
  constructor
  · intro hk
    rw [hk, Nat.xor_self, run_end he, ← no_add] at h
    exact end_zero he (no_inj hw hP hPl _ _ (rev_lt _ _) h)
  · intro hc
    rw [run_falses 0 hc, no_zero, no_zero] at h
    exact xor_cancel (c := runB w P R l) (by rw [← h, Nat.xor_self])

/-- A byte goes in by the table. -/
theorem zip_zip : ∀ (k l : List Bool), k.length = l.length → List.zipWith xor k (List.zipWith xor k l) = l
  | [], [], _ => rfl
  | [], _ :: _, h => by simp at h
  | _ :: _, [], h => by simp at h
  | c :: k, d :: l, h => by simp only [List.zipWith_cons_cons]; rw [zip_zip k l (by simpa using h)]; cases c <;> cases d <;> rfl
theorem run_table {w P r : Nat} {c : List Bool} (hr : r < 2 ^ w) : runB w P r c = (r * 2 ^ c.length) % 2 ^ w ^^^ runB w P 0 (List.zipWith xor (topB w r c.length) c) := by
  have h := run_xor w P (topB w r c.length) (List.zipWith xor (topB w r c.length) c) r 0 (by simp [topB_length])
  rw [zip_zip _ _ (by rw [topB_length]), Nat.xor_zero, run_top w P _ r hr] at h
  exact h
theorem bitsOf_length (inn : Bool) (b : Nat) : (bitsOf inn b).length = 8 := by simp [bitsOf]
theorem bitsOf_xor (inn : Bool) (a b : Nat) : bitsOf inn (a ^^^ b) = List.zipWith xor (bitsOf inn a) (bitsOf inn b) := by
  simp only [bitsOf, Nat.testBit_xor, List.zipWith_map]
  rw [List.zipWith_self]
theorem bitsOf_get (inn : Bool) (b i : Nat) (h : i < 8) : (bitsOf inn b)[i]? = some (b.testBit (if inn then i else 7 - i)) := by
  simp [bitsOf, h]
/-- Where 'first' has the register's highest bits. -/
theorem run_byte {w P r first c : Nat} {inn : Bool} (hr : r < 2 ^ w) (hf : bitsOf inn first = topB w r 8) : runB w P r (bitsOf inn c) = (r * 256) % 2 ^ w ^^^ runB w P 0 (bitsOf inn (first ^^^ c)) := by
  have h := run_table (P := P) (c := bitsOf inn c) hr
  rw [bitsOf_length, ← hf, ← bitsOf_xor] at h
  exact h
end Go.Proofs.Ytjhaaphgaplhlaa
