/- Texts of one proof, one behind the other. -/
import Derived.Test.YtgefampdfhbmbaaChecked
import Derived.ProofKit
import Derived.OpenShut
import Derived.ShutString
import Derived.ChangeOld
import Derived.SizedLaws
import Derived.RowKit
import Derived.BigQuiet
import Derived.Laws.ShiftsVarLaws
import Derived.Laws.BitsAllLaws
import Derived.Laws.Unary
import Derived.Below
import Derived.Deep.WholeRow
import Derived.Laws.Alloc2
import Derived.Laws.Pointers
import Derived.Laws.Build
import Derived.Laws.AppendOwnNone
import Derived.Laws.CopyOwn
import Derived.OwnWalk
import Derived.Deep.QuietTactic
import Derived.Deep.RegionWith
import Derived.Deep.OwnRows
import Derived.Laws.Slices
import Derived.Laws.IdiomStrings
/- The knobs of the program, for every row. -/
namespace Go.Proofs.Ytgefampdfhbmbaa
open Go.RowKit
theorem Try.own0 : ownKnob Try.prog.godebug = none := by kernel_rfl
theorem Try.laid0 : laidOutB Try.prog = true := by kernel_rfl
end Go.Proofs.Ytgefampdfhbmbaa
/- Plain facts of bytes as polynomials over two elements: products modulo a polynomial of degree 8, powers, orders, logarithms, inverses. -/
namespace Go.Proofs.Ytgefampdfhbmbaa
open Go
set_option linter.unusedVariables false
def sel (c : Bool) (P : Nat) : Nat := if c then P else 0
/-- What one bit makes of a register of w bits. -/
def stepB (w P r : Nat) (c : Bool) : Nat := (2 * r) % 2 ^ w ^^^ sel (r.testBit (w - 1) != c) P
theorem xor_lt {a b w : Nat} (ha : a < 2 ^ w) (hb : b < 2 ^ w) : a ^^^ b < 2 ^ w := Nat.xor_lt_two_pow ha hb
theorem sel_lt {c : Bool} {P w : Nat} (h : P < 2 ^ w) : sel c P < 2 ^ w := by unfold sel; split; exact h; exact Nat.two_pow_pos w
theorem step_lt {w P r : Nat} {c : Bool} (hP : P < 2 ^ w) : stepB w P r c < 2 ^ w := xor_lt (Nat.mod_lt _ (Nat.two_pow_pos w)) (sel_lt hP)
theorem sel_xor (a b : Bool) (P : Nat) : sel (a ^^ b) P = sel a P ^^^ sel b P := by cases a <;> cases b <;> simp [sel]
theorem dbl_xor (a b w : Nat) : (2 * (a ^^^ b)) % 2 ^ w = (2 * a) % 2 ^ w ^^^ (2 * b) % 2 ^ w := by
  apply Nat.eq_of_testBit_eq
  intro i
  simp only [Nat.testBit_xor, Nat.testBit_mod_two_pow]
  cases i with
  | zero => simp [Nat.testBit_zero]
  | succ i => simp only [Nat.testBit_succ, Nat.mul_div_cancel_left _ (show 0 < 2 by omega), Nat.testBit_xor]; cases decide (i + 1 < w) <;> simp
theorem xor4 (a b c d : Nat) : (a ^^^ b) ^^^ (c ^^^ d) = (a ^^^ c) ^^^ (b ^^^ d) := by
  apply Nat.eq_of_testBit_eq; intro i; simp only [Nat.testBit_xor]; cases a.testBit i <;> cases b.testBit i <;> cases c.testBit i <;> cases d.testBit i <;> rfl
theorem step_xor (w P r s : Nat) (c d : Bool) : stepB w P (r ^^^ s) (c ^^ d) = stepB w P r c ^^^ stepB w P s d := by
  unfold stepB
  rw [dbl_xor, Nat.testBit_xor, show ((r.testBit (w - 1) ^^ s.testBit (w - 1)) != (c ^^ d)) = ((r.testBit (w - 1) != c) ^^ (s.testBit (w - 1) != d)) by cases r.testBit (w - 1) <;> cases s.testBit (w - 1) <;> cases c <;> cases d <;> rfl, sel_xor, xor4]
/-- n bits of 0. -/
def noB (w P : Nat) : Nat → Nat → Nat
  | 0, r => r
  | n + 1, r => noB w P n (stepB w P r false)
theorem no_lt {w P : Nat} (hP : P < 2 ^ w) : ∀ (n r : Nat), r < 2 ^ w → noB w P n r < 2 ^ w
  | 0, r, h => h
  | n + 1, r, h => no_lt hP n _ (step_lt hP)
theorem no_add (w P : Nat) : ∀ (m n r : Nat), noB w P (m + n) r = noB w P n (noB w P m r)
  | 0, n, r => by rw [Nat.zero_add]; rfl
  | m + 1, n, r => by rw [Nat.add_right_comm]; exact no_add w P m n _
theorem no_succ (w P n r : Nat) : noB w P (n + 1) r = stepB w P (noB w P n r) false := no_add w P n 1 r
theorem no_xor (w P : Nat) : ∀ (n r s : Nat), noB w P n (r ^^^ s) = noB w P n r ^^^ noB w P n s
  | 0, r, s => rfl
  | n + 1, r, s => by
    have h := step_xor w P r s false false
    show noB w P n (stepB w P (r ^^^ s) false) = _
    rw [show stepB w P (r ^^^ s) false = stepB w P r false ^^^ stepB w P s false from h, no_xor w P n]; rfl
theorem step_zero (w P : Nat) : stepB w P 0 false = 0 := by simp [stepB, sel]
theorem no_zero (w P : Nat) : ∀ n, noB w P n 0 = 0
  | 0 => rfl
  | n + 1 => by show noB w P n (stepB w P 0 false) = 0; rw [step_zero]; exact no_zero w P n
theorem lt_of_bits {v w : Nat} (h : ∀ i, w ≤ i → v.testBit i = false) : v < 2 ^ w := Nat.lt_pow_two_of_testBit v h
theorem testBit_ge {v w i : Nat} (h : v < 2 ^ w) (hi : w ≤ i) : v.testBit i = false := Nat.testBit_lt_two_pow (Nat.lt_of_lt_of_le h (Nat.pow_le_pow_right (by omega) hi))
/-- The product of a and b, k bits of b being done, the highest first. -/
def timesTo (w P a b : Nat) : Nat → Nat
  | 0 => 0
  | k + 1 => stepB w P (timesTo w P a b k) false ^^^ sel (b.testBit (w - 1 - k)) a
def timesB (w P a b : Nat) : Nat := timesTo w P a b w
theorem times_lt {w P a b : Nat} (hP : P < 2 ^ w) (ha : a < 2 ^ w) : ∀ k, timesTo w P a b k < 2 ^ w
  | 0 => Nat.two_pow_pos w
  | k + 1 => xor_lt (step_lt hP) (sel_lt ha)
def sumB (w P a b : Nat) : Nat → Nat
  | 0 => 0
  | k + 1 => sumB w P a b k ^^^ sel (b.testBit k) (noB w P k a)
theorem no_sel (w P n : Nat) (c : Bool) (a : Nat) : noB w P n (sel c a) = sel c (noB w P n a) := by cases c <;> simp [sel, no_zero]
theorem times_sum_at (w P a b : Nat) : ∀ (k n : Nat), n + k = w → noB w P n (timesTo w P a b k) ^^^ sumB w P a b n = sumB w P a b w
  | 0, n, h => by rw [timesTo, no_zero, Nat.zero_xor, show n = w by omega]
  | k + 1, n, h => by
    rw [timesTo, no_xor, no_sel, show w - 1 - k = n by omega, Nat.xor_assoc, Nat.xor_comm (sel _ _), ← times_sum_at w P a b k (n + 1) (by omega)]
    rfl
theorem times_sum (w P a b : Nat) : timesB w P a b = sumB w P a b w := by
  have := times_sum_at w P a b w 0 (by omega)
  simpa [timesB, noB, sumB] using this
theorem sum_xor (w P a c b : Nat) : ∀ k, sumB w P (a ^^^ c) b k = sumB w P a b k ^^^ sumB w P c b k
  | 0 => by simp [sumB]
  | k + 1 => by
    rw [sumB, sumB, sumB, sum_xor w P a c b k, no_xor, show sel (b.testBit k) (noB w P k a ^^^ noB w P k c) = sel (b.testBit k) (noB w P k a) ^^^ sel (b.testBit k) (noB w P k c) by cases b.testBit k <;> simp [sel], xor4]
theorem no_swap (w P m n r : Nat) : noB w P m (noB w P n r) = noB w P n (noB w P m r) := by rw [← no_add, ← no_add, Nat.add_comm]
theorem sum_no (w P a b n : Nat) : ∀ k, sumB w P (noB w P n a) b k = noB w P n (sumB w P a b k)
  | 0 => by rw [sumB, sumB, no_zero]
  | k + 1 => by rw [sumB, sumB, sum_no w P a b n k, no_xor, no_sel, no_swap]
theorem sum_zero (w P b : Nat) : ∀ k, sumB w P 0 b k = 0
  | 0 => rfl
  | k + 1 => by rw [sumB, sum_zero w P b k, no_zero]; cases b.testBit k <;> simp [sel]
theorem sum_sel (w P a b : Nat) (c : Bool) (k : Nat) : sumB w P (sel c a) b k = sel c (sumB w P a b k) := by cases c <;> simp [sel, sum_zero]
theorem sum_sum (w P a b c n : Nat) : ∀ k, sumB w P (sumB w P c a k) b n = sumB w P (sumB w P c b n) a k
  | 0 => by rw [sumB, sum_zero, sumB]
  | k + 1 => by rw [sumB, sum_xor, sum_sum w P a b c n k, sum_sel, sum_no, sumB]
theorem no_one {w P : Nat} : ∀ k, k < w → noB w P k 1 = 2 ^ k
  | 0, h => rfl
  | k + 1, h => by
    rw [no_succ, no_one k (by omega), stepB, Nat.testBit_two_pow, decide_eq_false (by omega), ← Nat.pow_succ', Nat.mod_eq_of_lt (Nat.pow_lt_pow_right (by omega) h)]
    simp [sel]
theorem mod_succ_bit (b k : Nat) : b % 2 ^ k ^^^ sel (b.testBit k) (2 ^ k) = b % 2 ^ (k + 1) := by
  apply Nat.eq_of_testBit_eq; intro i
  have hs : (sel (b.testBit k) (2 ^ k)).testBit i = (b.testBit k && decide (k = i)) := by cases b.testBit k <;> simp [sel, Nat.testBit_two_pow]
  rw [Nat.testBit_xor, Nat.testBit_mod_two_pow, Nat.testBit_mod_two_pow, hs]
  by_cases h : i < k
  · rw [decide_eq_true h, decide_eq_true (show i < k + 1 by omega), decide_eq_false (show ¬ k = i by omega)]; simp
  · by_cases h2 : k = i
    · subst h2; simp
    · rw [decide_eq_false h, decide_eq_false (show ¬ i < k + 1 by omega), decide_eq_false h2]; simp
theorem sum_one (w P b : Nat) : ∀ k, k ≤ w → sumB w P 1 b k = b % 2 ^ k
  | 0, _ => by rw [sumB, Nat.pow_zero, Nat.mod_one]
  | k + 1, h => by rw [sumB, sum_one w P b k (by omega), no_one k (by omega), mod_succ_bit]
theorem sum_comm {w P a b : Nat} (ha : a < 2 ^ w) (hb : b < 2 ^ w) : sumB w P a b w = sumB w P b a w := by
  have := sum_sum w P a b 1 w w
  rw [sum_one w P a w (Nat.le_refl _), sum_one w P b w (Nat.le_refl _), Nat.mod_eq_of_lt ha, Nat.mod_eq_of_lt hb] at this
  exact this

theorem pigeon : ∀ (n : Nat) (f : Nat → Nat), (∀ i, i ≤ n → f i < n) → ∃ i j, i < j ∧ j ≤ n ∧ f i = f j
  | 0, f, h => absurd (h 0 (Nat.le_refl _)) (Nat.not_lt_zero _)
  | n + 1, f, h => by
    by_cases hv : ∃ i, i ≤ n ∧ f i = f (n + 1)
    · obtain ⟨i, hi, he⟩ := hv
      exact ⟨i, n + 1, by omega, Nat.le_refl _, he⟩
    · have hne : ∀ i, i ≤ n → f i ≠ f (n + 1) := fun i hi he => hv ⟨i, hi, he⟩
      obtain ⟨i, j, hij, hj, he⟩ := pigeon n (fun i => if f i < f (n + 1) then f i else f i - 1) (fun i hi => by
        have h1 := h i (by omega)
        have h2 := h (n + 1) (Nat.le_refl _)
        have h3 := hne i hi
        show (if f i < f (n + 1) then f i else f i - 1) < n
        split <;> omega)
      refine ⟨i, j, hij, by omega, ?_⟩
      have h1 := hne i (by omega)
      have h2 := hne j hj
      skip
      split at he <;> split at he <;> omega

/-- The product of two bytes; P: the polynomial without its highest bit. -/
def bm (P : UInt8) (a b : UInt8) : UInt8 := UInt8.ofNat (timesB 8 P.toNat a.toNat b.toNat)
theorem u8_lt (a : UInt8) : a.toNat < 2 ^ 8 := a.toNat_lt
theorem bm_nat (P a b : UInt8) : (bm P a b).toNat = timesB 8 P.toNat a.toNat b.toNat := by
  rw [bm, UInt8.toNat_ofNat']
  exact Nat.mod_eq_of_lt (times_lt (u8_lt P) (u8_lt a) 8)
theorem bm_sum (P a b : UInt8) : (bm P a b).toNat = sumB 8 P.toNat a.toNat b.toNat 8 := by rw [bm_nat, times_sum]
theorem bm_comm (P a b : UInt8) : bm P a b = bm P b a := UInt8.toNat.inj (by rw [bm_sum, bm_sum, sum_comm (u8_lt a) (u8_lt b)])
theorem bm_right (P a b c : UInt8) : bm P (bm P c a) b = bm P (bm P c b) a := UInt8.toNat.inj (by rw [bm_sum, bm_sum, bm_sum, bm_sum, sum_sum])
theorem bm_assoc (P a b c : UInt8) : bm P (bm P a b) c = bm P a (bm P b c) := by rw [bm_comm P a b, bm_right, bm_comm P _ a]
theorem bm_xor (P a b c : UInt8) : bm P (a ^^^ b) c = bm P a c ^^^ bm P b c := UInt8.toNat.inj (by rw [bm_sum, UInt8.toNat_xor, UInt8.toNat_xor, bm_sum, bm_sum, sum_xor])
theorem bm_xor' (P a b c : UInt8) : bm P c (a ^^^ b) = bm P c a ^^^ bm P c b := by rw [bm_comm, bm_xor, bm_comm P a, bm_comm P b]
theorem one_bm (P a : UInt8) : bm P 1 a = a := UInt8.toNat.inj (by rw [bm_sum, show (1 : UInt8).toNat = 1 from rfl, sum_one 8 _ _ 8 (Nat.le_refl _), Nat.mod_eq_of_lt (u8_lt a)])
theorem bm_one (P a : UInt8) : bm P a 1 = a := by rw [bm_comm, one_bm]
theorem zero_bm (P a : UInt8) : bm P 0 a = 0 := UInt8.toNat.inj (by rw [bm_sum, show (0 : UInt8).toNat = 0 from rfl, sum_zero])
theorem bm_zero (P a : UInt8) : bm P a 0 = 0 := by rw [bm_comm, zero_bm]

/-- The n-th power of g. -/
def pw (P g : UInt8) : Nat → UInt8
  | 0 => 1
  | n + 1 => bm P (pw P g n) g
theorem pw_add (P g : UInt8) (m : Nat) : ∀ n, pw P g (m + n) = bm P (pw P g m) (pw P g n)
  | 0 => by rw [Nat.add_zero, pw, bm_one]
  | n + 1 => by rw [Nat.add_succ, pw, pw_add P g m n, bm_assoc]; rfl
theorem pw_mul (P g : UInt8) (m : Nat) : ∀ n, pw P (pw P g m) n = pw P g (m * n)
  | 0 => rfl
  | n + 1 => by rw [pw, pw_mul P g m n, Nat.mul_succ, pw_add]
theorem pw_one (P g : UInt8) : pw P g 1 = g := by rw [pw, pw, one_bm]
theorem one_pw (P : UInt8) : ∀ n, pw P 1 n = 1
  | 0 => rfl
  | n + 1 => by rw [pw, one_pw P n, bm_one]
theorem pw_prod (P a b : UInt8) : ∀ n, pw P (bm P a b) n = bm P (pw P a n) (pw P b n)
  | 0 => by rw [pw, pw, pw, bm_one]
  | n + 1 => by rw [pw, pw, pw, pw_prod P a b n, bm_assoc, bm_assoc, ← bm_assoc P (pw P b n), bm_comm P (pw P b n) a, bm_assoc P a]
theorem pw_stays (P g : UInt8) (n : Nat) (h : pw P g n = 0) : ∀ m, pw P g (n + m) = 0 := fun m => by rw [pw_add, h, zero_bm]

/-- The order: the least n above 0 and within f with pw n = 1. -/
def ordGo (P g : UInt8) : Nat → UInt8 → Nat → Nat
  | 0, _, _ => 0
  | f + 1, x, n => if bm P x g = 1 then n + 1 else ordGo P g f (bm P x g) (n + 1)
def ordS (P g : UInt8) : Nat := ordGo P g 255 1 0
theorem ordGo_spec (P g : UInt8) : ∀ f n, (ordGo P g f (pw P g n) n = 0 ∧ ∀ m, n < m → m ≤ n + f → pw P g m ≠ 1) ∨
    (n < ordGo P g f (pw P g n) n ∧ ordGo P g f (pw P g n) n ≤ n + f ∧ pw P g (ordGo P g f (pw P g n) n) = 1 ∧ ∀ m, n < m → m < ordGo P g f (pw P g n) n → pw P g m ≠ 1)
  | 0, n => .inl ⟨rfl, fun m h1 h2 => by omega⟩
  | f + 1, n => by
    unfold ordGo
    by_cases h : bm P (pw P g n) g = 1
    · rw [if_pos h]
      exact .inr ⟨by omega, by omega, h, fun m h1 h2 => by omega⟩
    · rw [if_neg h]
      have hn : ∀ m, m = n + 1 → pw P g m ≠ 1 := fun m hm => by subst hm; exact h
      rcases ordGo_spec P g f (n + 1) with ⟨h1, h2⟩ | ⟨h1, h2, h3, h4⟩
      · refine .inl ⟨h1, fun m ha hb => ?_⟩
        by_cases hm : m = n + 1
        · exact hn m hm
        · exact h2 m (by omega) (by omega)
      · refine .inr ⟨by exact Nat.lt_trans (by omega) h1, Nat.le_trans h2 (by omega), h3, fun m ha hb => ?_⟩
        by_cases hm : m = n + 1
        · exact hn m hm
        · exact h4 m (by omega) hb
theorem ord_spec (P g : UInt8) : (ordS P g = 0 ∧ ∀ m, 0 < m → m ≤ 255 → pw P g m ≠ 1) ∨
    (0 < ordS P g ∧ ordS P g ≤ 255 ∧ pw P g (ordS P g) = 1 ∧ ∀ m, 0 < m → m < ordS P g → pw P g m ≠ 1) := by
  have := ordGo_spec P g 255 0
  simpa [ordS, pw] using this
theorem pw_none {P g : UInt8} {k : Nat} (hk : pw P g k = 1) : ∀ n, n ≤ k → pw P g n ≠ 0 := fun n hn h0 => by
  have := pw_stays P g n h0 (k - n)
  rw [show n + (k - n) = k by omega, hk] at this
  exact absurd this (by decide)
/-- Powers ahead of the order differ. -/
theorem pw_apart {P g : UInt8} {k : Nat} (hk : pw P g k = 1) (hm : ∀ m, 0 < m → m < k → pw P g m ≠ 1) {i j : Nat} (hij : i < j) (hj : j < k) : pw P g i ≠ pw P g j := fun he => by
  have h1 : pw P g (i + (k - j)) = pw P g (j + (k - j)) := by rw [pw_add, he, ← pw_add]
  rw [show j + (k - j) = k by omega, hk] at h1
  exact hm _ (by omega) (by omega) h1
/-- None has the order 256. -/
theorem ord_256 (P g : UInt8) : ordGo P g 256 1 0 = ordS P g := by
  rcases ordGo_spec P g 256 0 with ⟨h1, h2⟩ | ⟨h1, h2, h3, h4⟩
  · rcases ord_spec P g with ⟨h5, h6⟩ | ⟨h5, h6, h7, h8⟩
    · rw [h5]; exact h1
    · exact absurd h7 (h2 _ h5 (by omega))
  · simp only [pw] at h1 h2 h3 h4
    rcases ord_spec P g with ⟨h5, h6⟩ | ⟨h5, h6, h7, h8⟩
    · have e : ordGo P g 256 1 0 = 256 := by
        by_cases hq : ordGo P g 256 1 0 ≤ 255
        · exact absurd h3 (h6 _ h1 hq)
        · omega
      rw [e] at h3 h4
      obtain ⟨i, j, hij, hj, he⟩ := pigeon 255 (fun i => (pw P g i).toNat - 1) (fun i hi => by
        have h9 := pw_none h3 i (by omega)
        have := u8_lt (pw P g i)
        have : (pw P g i).toNat ≠ 0 := fun h0 => h9 (UInt8.toNat.inj h0)
        show (pw P g i).toNat - 1 < 255
        omega)
      have ha : ∀ i, i ≤ 255 → (pw P g i).toNat ≠ 0 := fun i hi h0 => pw_none h3 i (by omega) (UInt8.toNat.inj h0)
      have ha1 := ha i (by omega)
      have ha2 := ha j hj
      exact absurd (UInt8.toNat.inj (show (pw P g i).toNat = (pw P g j).toNat by omega)) (pw_apart h3 h4 hij (by omega))
    · have ha : ¬ ordGo P g 256 1 0 < ordS P g := fun h => h8 _ h1 h h3
      have hb : ¬ ordS P g < ordGo P g 256 1 0 := fun h => h4 _ h5 h h7
      omega
/-- Where the order is 255, each but 0 is a power. -/
theorem pw_all {P g : UInt8} (h : ordS P g = 255) {a : UInt8} (ha : a ≠ 0) : ∃ n, n < 255 ∧ pw P g n = a := by
  rcases ord_spec P g with ⟨h5, h6⟩ | ⟨h5, h6, h7, h8⟩
  · omega
  · rw [h] at h7 h8
    apply Classical.byContradiction
    intro hno
    have hne : ∀ n, n < 255 → (pw P g n).toNat ≠ a.toNat := fun n hn he => hno ⟨n, hn, UInt8.toNat.inj he⟩
    have hnz : ∀ n, n < 255 → (pw P g n).toNat ≠ 0 := fun n hn h0 => pw_none h7 n (by omega) (UInt8.toNat.inj h0)
    have haz : a.toNat ≠ 0 := fun h0 => ha (UInt8.toNat.inj h0)
    have hal := u8_lt a
    obtain ⟨i, j, hij, hj, he⟩ := pigeon 254 (fun i => if (pw P g i).toNat < a.toNat then (pw P g i).toNat - 1 else (pw P g i).toNat - 2) (fun i hi => by
      have h1 := hne i (by omega)
      have h2 := hnz i (by omega)
      have h3 := u8_lt (pw P g i)
      show (if (pw P g i).toNat < a.toNat then (pw P g i).toNat - 1 else (pw P g i).toNat - 2) < 254
      split <;> omega)
    have h1 := hne i (by omega)
    have h2 := hnz i (by omega)
    have h3 := hne j (by omega)
    have h4 := hnz j (by omega)
    refine absurd (UInt8.toNat.inj (show (pw P g i).toNat = (pw P g j).toNat from ?_)) (pw_apart h7 h8 hij (by omega))
    skip
    split at he <;> split at he <;> omega
theorem pw_255 {P g : UInt8} (h : ordS P g = 255) : pw P g 255 = 1 := by
  rcases ord_spec P g with ⟨h5, h6⟩ | ⟨h5, h6, h7, h8⟩
  · omega
  · rw [h] at h7; exact h7
theorem pw_inj {P g : UInt8} (h : ordS P g = 255) {i j : Nat} (hi : i < 255) (hj : j < 255) (he : pw P g i = pw P g j) : i = j := by
  rcases ord_spec P g with ⟨h5, h6⟩ | ⟨h5, h6, h7, h8⟩
  · omega
  · rw [h] at h7 h8
    rcases Nat.lt_trichotomy i j with hlt | heq | hgt
    · exact absurd he (pw_apart h7 h8 hlt hj)
    · exact heq
    · exact absurd he.symm (pw_apart h7 h8 hgt hi)
theorem pw_mod {P g : UInt8} (h : ordS P g = 255) (n : Nat) : pw P g n = pw P g (n % 255) := by
  have e := Nat.div_add_mod n 255
  rw [← e, pw_add, ← pw_mul, pw_255 h, one_pw, one_bm, e]
theorem pw_ne {P g : UInt8} (h : ordS P g = 255) (n : Nat) : pw P g n ≠ 0 := by
  rw [pw_mod h]; exact pw_none (pw_255 h) _ (by have := Nat.mod_lt n (show 0 < 255 by omega); omega)
/-- The table of logarithms, k powers being put in. -/
def lgTo (P g : UInt8) : Nat → Nat → Nat
  | 0, _ => 0
  | k + 1, a => if a = (pw P g k).toNat then k else lgTo P g k a
def lg (P g : UInt8) (a : UInt8) : Nat := lgTo P g 255 a.toNat
theorem lgTo_lt (P g : UInt8) (a : Nat) : ∀ k, lgTo P g k a ≤ k - 1
  | 0 => Nat.le_refl _
  | k + 1 => by
    have := lgTo_lt P g a k
    unfold lgTo; split <;> omega
theorem lg_lt (P g a : UInt8) : lg P g a < 255 := by have := lgTo_lt P g a.toNat 255; unfold lg; omega
theorem lgTo_at {P g : UInt8} (h : ordS P g = 255) {n : Nat} : ∀ k, n < k → k ≤ 255 → lgTo P g k (pw P g n).toNat = n
  | 0, h1, _ => by omega
  | k + 1, h1, h2 => by
    unfold lgTo
    split
    · rename_i he
      exact (pw_inj h (by omega) (by omega) (UInt8.toNat.inj he)).symm
    · rename_i hne
      refine lgTo_at h k ?_ (by omega)
      rcases Nat.lt_or_ge n k with hlt | hge
      · exact hlt
      · have : n = k := by omega
        subst this; exact absurd rfl hne
theorem lg_pw {P g : UInt8} (h : ordS P g = 255) {n : Nat} (hn : n < 255) : lg P g (pw P g n) = n := lgTo_at h 255 hn (Nat.le_refl _)
theorem pw_lg {P g : UInt8} (h : ordS P g = 255) {a : UInt8} (ha : a ≠ 0) : pw P g (lg P g a) = a := by
  obtain ⟨n, hn, rfl⟩ := pw_all h ha
  rw [lg_pw h hn]
theorem lgTo_zero {P g : UInt8} (h : ordS P g = 255) : ∀ k, k ≤ 255 → lgTo P g k 0 = 0
  | 0, _ => rfl
  | k + 1, hk => by
    unfold lgTo
    rw [if_neg (fun he => pw_none (pw_255 h) k (by omega) (UInt8.toNat.inj he.symm)), lgTo_zero h k (by omega)]
theorem lg_zero {P g : UInt8} (h : ordS P g = 255) : lg P g 0 = 0 := lgTo_zero h 255 (Nat.le_refl _)
/-- The product by logarithms. -/
theorem mul_lg {P g : UInt8} (h : ordS P g = 255) {a b : UInt8} (ha : a ≠ 0) (hb : b ≠ 0) : pw P g ((lg P g a + lg P g b) % 255) = bm P a b := by
  rw [← pw_mod h, pw_add, pw_lg h ha, pw_lg h hb]
theorem bm_ne {P g : UInt8} (h : ordS P g = 255) {a b : UInt8} (ha : a ≠ 0) (hb : b ≠ 0) : bm P a b ≠ 0 := by
  rw [← mul_lg h ha hb]; exact pw_ne h _
theorem fermat {P g : UInt8} (h : ordS P g = 255) {a : UInt8} (ha : a ≠ 0) : pw P a 255 = 1 := by
  rw [← pw_lg h ha, pw_mul, Nat.mul_comm, ← pw_mul, pw_255 h, one_pw]
/-- The inverse. -/
def inv (P a : UInt8) : UInt8 := pw P a 254
theorem bm_inv {P g : UInt8} (h : ordS P g = 255) {a : UInt8} (ha : a ≠ 0) : bm P a (inv P a) = 1 := by
  rw [bm_comm]; exact fermat h ha
theorem inv_lg {P g : UInt8} (h : ordS P g = 255) {a : UInt8} (ha : a ≠ 0) : inv P a = pw P g ((255 - lg P g a) % 255) := by
  have hl := lg_lt P g a
  have h1 : bm P a (pw P g (255 - lg P g a)) = 1 := by
    have : bm P (pw P g (lg P g a)) (pw P g (255 - lg P g a)) = 1 := by rw [← pw_add, show lg P g a + (255 - lg P g a) = 255 by omega, pw_255 h]
    rwa [pw_lg h ha] at this
  rw [← pw_mod h]
  calc inv P a = bm P (inv P a) (bm P a (pw P g (255 - lg P g a))) := by rw [h1, bm_one]
    _ = bm P (bm P a (inv P a)) (pw P g (255 - lg P g a)) := by rw [← bm_assoc, bm_comm P (inv P a)]
    _ = _ := by rw [bm_inv h ha, one_bm]
/-- A quotient by logarithms; d: 255 more than the difference, so that none is below 0. -/
theorem div_lg {P g : UInt8} (h : ordS P g = 255) {a b : UInt8} (ha : a ≠ 0) (hb : b ≠ 0) : pw P g ((lg P g a + 255 - lg P g b) % 255) = bm P a (inv P b) := by
  have hl := lg_lt P g b
  rw [inv_lg h hb, ← pw_mod h, ← pw_mod h, show lg P g a + 255 - lg P g b = lg P g a + (255 - lg P g b) by omega, pw_add, pw_lg h ha]
theorem pow_lg {P g : UInt8} (h : ordS P g = 255) {a : UInt8} (ha : a ≠ 0) (n : Nat) : pw P g ((lg P g a * n) % 255) = pw P a n := by
  rw [← pw_mod h, ← pw_mul, pw_lg h ha]
end Go.Proofs.Ytgefampdfhbmbaa
/- Plain facts: the document's product, by long division, is the product; remainders and irreducible polynomials; elements' orders divide 255. -/
namespace Go.Proofs.Ytgefampdfhbmbaa
open Go
set_option linter.unusedVariables false

/-- The product with no polynomial taken away, k bits of b being done. -/
def prodTo (a b : Nat) : Nat → Nat
  | 0 => 0
  | k + 1 => prodTo a b k ^^^ sel (b.testBit k) (a * 2 ^ k)
/-- The long division by poly, k steps being done, from bit 14 downwards. -/
def redTo (poly p : Nat) : Nat → Nat
  | 0 => p
  | k + 1 => redTo poly p k ^^^ sel ((redTo poly p k).testBit (14 - k)) (poly * 2 ^ (6 - k))

theorem sum_bxor (w P a b c : Nat) : ∀ k, sumB w P a (b ^^^ c) k = sumB w P a b k ^^^ sumB w P a c k
  | 0 => by simp [sumB]
  | k + 1 => by rw [sumB, sumB, sumB, sum_bxor w P a b c k, Nat.testBit_xor, sel_xor, xor4]
theorem sum_high (w P a b k : Nat) (h : ∀ i, k ≤ i → b.testBit i = false) : ∀ m, sumB w P a b (k + m) = sumB w P a b k
  | 0 => rfl
  | m + 1 => by rw [← Nat.add_assoc, sumB, h (k + m) (by omega), sum_high w P a b k h m]; simp [sel]
theorem sum_none (w P a b : Nat) : ∀ k, (∀ i, i < k → b.testBit i = false) → sumB w P a b k = 0
  | 0, _ => rfl
  | k + 1, h => by rw [sumB, h k (by omega), sum_none w P a b k fun i hi => h i (by omega)]; simp [sel]
theorem shl_bit (b j i : Nat) : (b * 2 ^ j).testBit i = (decide (j ≤ i) && b.testBit (i - j)) := by rw [← Nat.shiftLeft_eq, Nat.testBit_shiftLeft]
theorem sum_shl (w P a b j : Nat) : ∀ k, sumB w P a (b * 2 ^ j) (k + j) = noB w P j (sumB w P a b k)
  | 0 => by
    rw [Nat.zero_add, sum_none, sumB, no_zero]
    intro i hi
    rw [shl_bit, decide_eq_false (by omega)]; rfl
  | k + 1 => by
    rw [show k + 1 + j = k + j + 1 by omega, sumB, sum_shl w P a b j k, shl_bit, decide_eq_true (by omega), Bool.true_and, Nat.add_sub_cancel, sumB, no_xor, no_sel, ← no_add]
theorem sum_to {w P a b k n : Nat} (h : b < 2 ^ k) (hn : k ≤ n) : sumB w P a b n = sumB w P a b k := by
  obtain ⟨m, rfl⟩ : ∃ m, n = k + m := ⟨n - k, by omega⟩
  exact sum_high w P a b k (fun i hi => testBit_ge h hi) m
theorem res_byte {P v : Nat} (h : v < 256) : sumB 8 P 1 v 15 = v := by
  rw [sum_to (k := 8) h (by omega), sum_one 8 P v 8 (Nat.le_refl _), Nat.mod_eq_of_lt h]
theorem res_shl {P a i : Nat} (h : a < 256) (hi : i ≤ 7) : sumB 8 P 1 (a * 2 ^ i) 15 = noB 8 P i a := by
  have hl : a * 2 ^ i < 2 ^ (8 + i) := by rw [Nat.pow_add]; exact Nat.mul_lt_mul_of_pos_right h (Nat.two_pow_pos i)
  rw [sum_to hl (by omega), sum_shl, sum_one 8 P a 8 (Nat.le_refl _), Nat.mod_eq_of_lt h]
theorem no_eight {P : Nat} (hP : P < 256) : noB 8 P 8 1 = P := by
  rw [no_succ, no_one 7 (by omega)]
  simp [stepB, sel, Nat.testBit]
theorem res_poly {P j : Nat} (hP : P < 256) (hj : j ≤ 6) : sumB 8 P 1 ((256 + P) * 2 ^ j) 15 = 0 := by
  have hl : (256 + P) * 2 ^ j < 2 ^ (9 + j) := by rw [Nat.pow_add]; exact Nat.mul_lt_mul_of_pos_right (by omega) (Nat.two_pow_pos j)
  have h8 : (256 + P).testBit 8 = true := by
    rw [Nat.testBit_eq_decide_div_mod_eq, show (256 + P) / 2 ^ 8 = 1 by omega]; rfl
  rw [sum_to hl (by omega), sum_shl, sumB, sum_one 8 P _ 8 (Nat.le_refl _), no_eight hP, h8, show (256 + P) % 2 ^ 8 = P by omega]
  simp [sel, no_zero]
theorem prod_lt {a b : Nat} (h : a < 256) : ∀ k, k ≤ 8 → prodTo a b k < 2 ^ 15
  | 0, _ => by simp [prodTo]
  | k + 1, hk => by
    refine xor_lt (prod_lt h k (by omega)) (sel_lt ?_)
    have h2 : a * 2 ^ k < 2 ^ (8 + k) := by rw [Nat.pow_add]; exact Nat.mul_lt_mul_of_pos_right h (Nat.two_pow_pos k)
    exact Nat.lt_of_lt_of_le h2 (Nat.pow_le_pow_right (by omega) (by omega))
theorem sum_bsel (w P a b : Nat) (c : Bool) (k : Nat) : sumB w P a (sel c b) k = sel c (sumB w P a b k) := by
  cases c
  · exact sum_none w P a 0 k fun i _ => Nat.zero_testBit i
  · rfl
theorem res_prod {P a b : Nat} (h : a < 256) : ∀ k, k ≤ 8 → sumB 8 P 1 (prodTo a b k) 15 = sumB 8 P a b k
  | 0, _ => sum_none 8 P 1 0 15 fun i _ => Nat.zero_testBit i
  | k + 1, hk => by rw [prodTo, sum_bxor, res_prod h k (by omega), sum_bsel, res_shl h (by omega), sumB]
theorem red_lt {P p : Nat} (hP : P < 256) (hp : p < 2 ^ 15) : ∀ k, k ≤ 7 → redTo (256 + P) p k < 2 ^ (15 - k)
  | 0, _ => hp
  | k + 1, hk => by
    have ih := red_lt hP hp k (by omega)
    rw [redTo]
    have hl : (256 + P) * 2 ^ (6 - k) < 2 ^ (15 - k) := by
      rw [show 15 - k = 9 + (6 - k) by omega, Nat.pow_add]; exact Nat.mul_lt_mul_of_pos_right (by omega) (Nat.two_pow_pos _)
    have h8 : (256 + P).testBit 8 = true := by
      rw [Nat.testBit_eq_decide_div_mod_eq, show (256 + P) / 2 ^ 8 = 1 by omega]; rfl
    refine lt_of_bits fun i hi => ?_
    by_cases he : i = 14 - k
    · subst he
      rw [Nat.testBit_xor]
      cases hc : (redTo (256 + P) p k).testBit (14 - k)
      · simp [sel]
      · rw [sel, if_pos rfl, shl_bit, decide_eq_true (by omega), show 14 - k - (6 - k) = 8 by omega, h8]; rfl
    · rw [testBit_ge (xor_lt ih (sel_lt hl)) (by omega)]
theorem res_red {P p : Nat} (hP : P < 256) : ∀ k, k ≤ 7 → sumB 8 P 1 (redTo (256 + P) p k) 15 = sumB 8 P 1 p 15
  | 0, _ => rfl
  | k + 1, hk => by
    rw [redTo, sum_bxor, res_red hP k (by omega), sum_bsel, res_poly hP (by omega)]
    cases (redTo (256 + P) p k).testBit (14 - k) <;> simp [sel]
/-- Long division gives the product. -/
theorem red_prod (P a b : UInt8) : redTo (256 + P.toNat) (prodTo a.toNat b.toNat 8) 7 = (bm P a b).toNat := by
  have hP := u8_lt P
  have ha := u8_lt a
  have h1 := red_lt (p := prodTo a.toNat b.toNat 8) hP (prod_lt ha 8 (Nat.le_refl _)) 7 (Nat.le_refl _)
  rw [← res_byte (P := P.toNat) h1, res_red hP 7 (Nat.le_refl _), res_prod ha 8 (Nat.le_refl _), bm_sum]

/-- What is left of poly, k of its nine bits being done, the highest first. -/
def remTo (poly by' : Nat) : Nat → Nat
  | 0 => 0
  | k + 1 => min (2 * remTo poly by' k + (poly.testBit (8 - k)).toNat) ((2 * remTo poly by' k + (poly.testBit (8 - k)).toNat) ^^^ by')
def remS (poly by' : Nat) : Nat := remTo poly by' 9
theorem rem_lt (poly by' : Nat) : ∀ k, remTo poly by' k < 2 ^ k
  | 0 => by simp [remTo]
  | k + 1 => by
    have := rem_lt poly by' k
    rw [remTo, Nat.pow_succ]
    refine Nat.lt_of_le_of_lt (Nat.min_le_left _ _) ?_
    cases poly.testBit (8 - k) <;> simp <;> omega
def quoTo (poly by' : Nat) : Nat → Nat
  | 0 => 0
  | k + 1 => 2 * quoTo poly by' k + (decide ((2 * remTo poly by' k + (poly.testBit (8 - k)).toNat) ^^^ by' < 2 * remTo poly by' k + (poly.testBit (8 - k)).toNat)).toNat
/-- One pass for both: what is left, and the quotient. -/
def both (poly by' : Nat) : Nat → Nat → Nat → Nat × Nat
  | 0, l, q => (l, q)
  | k + 1, l, q => if (2 * l + poly / 2 ^ k % 2) ^^^ by' < 2 * l + poly / 2 ^ k % 2 then both poly by' k ((2 * l + poly / 2 ^ k % 2) ^^^ by') (2 * q + 1) else both poly by' k (2 * l + poly / 2 ^ k % 2) (2 * q)
def irrS (poly : Nat) : Bool := (List.range 30).all fun f => remS poly (f + 2) != 0
def irrR (poly : Nat) : Bool := (List.range 30).all fun a => (List.range 254).all fun b => prodTo (b + 2) (a + 2) 8 != poly
theorem bit_nat (v k : Nat) : v / 2 ^ k % 2 = (v.testBit k).toNat := by
  rw [Nat.testBit_eq_decide_div_mod_eq]
  by_cases h : v / 2 ^ k % 2 = 1
  · simp [h]
  · have : v / 2 ^ k % 2 = 0 := by omega
    simp [this]
theorem both_rem (poly by' : Nat) : ∀ k q, k ≤ 9 → (both poly by' k (remTo poly by' (9 - k)) q).1 = remS poly by'
  | 0, q, _ => rfl
  | k + 1, q, h => by
    have e : remTo poly by' (9 - k) = min (2 * remTo poly by' (9 - (k + 1)) + (poly.testBit k).toNat) ((2 * remTo poly by' (9 - (k + 1)) + (poly.testBit k).toNat) ^^^ by') := by
      rw [show 9 - k = 9 - (k + 1) + 1 by omega, remTo, show 8 - (9 - (k + 1)) = k by omega]
    rw [both, bit_nat]
    generalize 2 * remTo poly by' (9 - (k + 1)) + (poly.testBit k).toNat = L at *
    split
    · rw [← both_rem poly by' k (2 * q + 1) (by omega), e, Nat.min_eq_right (by omega)]
    · rw [← both_rem poly by' k (2 * q) (by omega), e, Nat.min_eq_left (by omega)]
theorem both_one (poly by' : Nat) : (both poly by' 9 0 0).1 = remS poly by' := both_rem poly by' 9 0 (Nat.le_refl _)
theorem pw_modk {P g : UInt8} {k : Nat} (h : pw P g k = 1) (n : Nat) : pw P g n = pw P g (n % k) := by
  have e := Nat.div_add_mod n k
  rw [← e, pw_add, ← pw_mul, h, one_pw, one_bm, e]
end Go.Proofs.Ytgefampdfhbmbaa
/- What hasDegree, Carry, remainderOf, Irreducible and Order of the program answer. -/
namespace Go.Proofs.Ytgefampdfhbmbaa
open Go.RowKit
set_option linter.unusedVariables false

theorem hidD {q : Prop} (h : q) : Hid q := h
theorem i64_xor_nat (a b : Nat) (ha : a < 9223372036854775808) (hb : b < 9223372036854775808) : bits .xor .i64 (a : Int) (b : Int) = ((a ^^^ b : Nat) : Int) := by
  have hx : a ^^^ b < 2 ^ 63 := Nat.xor_lt_two_pow (by omega) (by omega)
  show IntKind.i64.wrap ((BitVec.ofInt 64 (a : Int) ^^^ BitVec.ofInt 64 (b : Int)).toNat : Int) = _
  rw [BitVec.toNat_xor, ofInt_u64 a (by omega), ofInt_u64 b (by omega), IntKind.wrap_i64]
  omega
theorem i64_or_nat (a b : Nat) (ha : a < 9223372036854775808) (hb : b < 9223372036854775808) : bits .or .i64 (a : Int) (b : Int) = ((a ||| b : Nat) : Int) := by
  have hx : a ||| b < 2 ^ 63 := Nat.or_lt_two_pow (by omega) (by omega)
  show IntKind.i64.wrap ((BitVec.ofInt 64 (a : Int) ||| BitVec.ofInt 64 (b : Int)).toNat : Int) = _
  rw [BitVec.toNat_or, ofInt_u64 a (by omega), ofInt_u64 b (by omega), IntKind.wrap_i64]
  omega
theorem i64_and_nat (a b : Nat) (ha : a < 9223372036854775808) (hb : b < 9223372036854775808) : bits .and .i64 (a : Int) (b : Int) = ((a &&& b : Nat) : Int) := by
  have hx : a &&& b < 2 ^ 63 := Nat.and_lt_two_pow _ (by omega)
  show IntKind.i64.wrap ((BitVec.ofInt 64 (a : Int) &&& BitVec.ofInt 64 (b : Int)).toNat : Int) = _
  rw [BitVec.toNat_and, ofInt_u64 a (by omega), ofInt_u64 b (by omega), IntKind.wrap_i64]
  omega
theorem bit_u8 {v : Nat} (k : Nat) (hv : v < 256) : bits .and .u8 ((v : Int) / 2 ^ k) 1 = ((v.testBit k).toNat : Int) := by
  have h1 : (v : Int) / 2 ^ k = ((v / 2 ^ k : Nat) : Int) := by simp
  have h2 : v / 2 ^ k ≤ v := Nat.div_le_self _ _
  rw [h1, show (1 : Int) = ((1 : Nat) : Int) from rfl, u8_and_nat _ _ (by omega) (by omega), nat_mask1, bit_nat]
theorem bit_i64 {v : Nat} (k : Nat) (hv : v < 9223372036854775808) : bits .and .i64 ((v : Int) / 2 ^ k) 1 = ((v.testBit k).toNat : Int) := by
  have h1 : (v : Int) / 2 ^ k = ((v / 2 ^ k : Nat) : Int) := by simp
  have h2 : v / 2 ^ k ≤ v := Nat.div_le_self _ _
  rw [h1, show (1 : Int) = ((1 : Nat) : Int) from rfl, i64_and_nat _ _ (by omega) (by omega), nat_mask1, bit_nat]

set_option maxRecDepth 100000 in
set_option maxHeartbeats 400000 in
theorem degree_in (Q : Int) (h1 : 256 ≤ Q) (h2 : Q ≤ 511) (w : World) : Calls Try.prog 93 #[.int .i64 Q] w fun e w' => e = .returned (.bool true) ∧ w' = w := by
  go_enter Try.func93, Try.ntmps93
  go_wp2_with fail
  go_ret
  exact ⟨rfl, rfl⟩
set_option maxRecDepth 100000 in
set_option maxHeartbeats 400000 in
theorem degree_out (Q : Int) (h : ¬ (256 ≤ Q ∧ Q ≤ 511)) (w : World) : Calls Try.prog 93 #[.int .i64 Q] w fun e w' => e = .returned (.bool false) ∧ w' = w := by
  by_cases h1 : 256 ≤ Q
  · have h2 : ¬ Q ≤ 511 := fun h2 => h ⟨h1, h2⟩
    clear h
    go_enter Try.func93, Try.ntmps93
    go_wp2_with fail
    go_ret
    exact ⟨rfl, rfl⟩
  · clear h
    go_enter Try.func93, Try.ntmps93
    go_wp2_with fail
    go_ret
    exact ⟨rfl, rfl⟩

theorem step_small {P T : Nat} (h : T < 128) : stepB 8 P T false = 2 * T := by
  have : T.testBit 7 = false := testBit_ge (w := 7) h (Nat.le_refl _)
  unfold stepB
  rw [show 8 - 1 = 7 from rfl, this, Nat.mod_eq_of_lt (by omega)]
  simp [sel]
theorem step_great {P T : Nat} (hP : P < 256) (h1 : 128 ≤ T) (h2 : T < 256) : stepB 8 P T false = 2 * T ^^^ (256 + P) := by
  have h7 : T.testBit 7 = true := by rw [Nat.testBit_eq_decide_div_mod_eq, show T / 2 ^ 7 = 1 by omega]; rfl
  have hx : ∀ x, x < 256 → 256 + x = 256 ^^^ x := fun x hx => by
    have h := (by decide +kernel : ∀ y : Fin 256, 256 + y.val = 256 ^^^ y.val) ⟨x, hx⟩
    exact h
  unfold stepB
  rw [show 8 - 1 = 7 from rfl, h7, show 2 * T = 256 + (2 * T - 256) by omega, hx _ (show 2 * T - 256 < 256 by omega), hx P hP, show 256 ^^^ (2 * T - 256) ^^^ (256 ^^^ P) = (2 * T - 256) ^^^ P by
    rw [xor4, Nat.xor_self, Nat.zero_xor], ← hx _ (show 2 * T - 256 < 256 by omega), show (256 + (2 * T - 256)) % 2 ^ 8 = 2 * T - 256 by omega]
  simp [sel]

set_option maxRecDepth 100000 in
set_option maxHeartbeats 400000 in
theorem carry_in (P a b : UInt8) (Q : Int) (hQ : Q = 256 + (P.toNat : Int)) (w : World) : Calls Try.prog 91 #[.int .u8 (a.toNat : Int), .int .u8 (b.toNat : Int), .int .i64 Q] w fun e w' => e = .returned (.int .u8 ((bm P a b).toNat : Int)) ∧ w' = w := by
  have hP := u8_lt P
  have ha := u8_lt a
  have hb := u8_lt b
  have HR : Hid ((bm P a b).toNat = timesTo 8 P.toNat a.toNat b.toNat 8) := bm_nat P a b
  generalize (bm P a b).toNat = R at *
  generalize a.toNat = A at *
  generalize b.toNat = B at *
  generalize P.toNat = p at *
  have HD : Hid (∀ w, Calls Try.prog 93 #[.int .i64 Q] w fun e w' => e = .returned (.bool true) ∧ w' = w) := fun w => degree_in Q (by omega) (by omega) w
  have HQ := hidD hQ
  have HP := hidD hP
  clear hQ hP
  go_enter Try.func91, Try.ntmps91
  go_wp2_with (go_at_call 93; refine (HD.out _).mono ?_; rintro e w2 ⟨rfl, hb2⟩)
  go_loopw [7, 12] (fun t i wr => ∃ k : Nat, k ≤ 8 ∧ i = .int .i64 k ∧ t = .int .i64 ((timesTo 8 p A B k : Nat) : Int) ∧ wr = w) (fun _ i _ => 8 - (intOf i).toNat)
  case atStart => exact ⟨0, Nat.zero_le _, rfl, rfl, rfl⟩
  case round =>
    obtain ⟨k, hk, rfl, rfl, rfl⟩ := hrel
    by_cases hlt : k < 8
    · have hlti : (k : Int) < 8 := by omega
      have hk7 : (7 : Int) - k = ((7 - k : Nat) : Int) := by omega
      have hbit := bit_u8 (7 - k) hb
      have hT := times_lt (w := 8) HP.out ha (b := B) k
      have hS : timesTo 8 p A B (k + 1) = stepB 8 p (timesTo 8 p A B k) false ^^^ sel (B.testBit (7 - k)) A := rfl
      have hD := step_lt (w := 8) (r := timesTo 8 p A B k) (c := false) HP.out
      have hD1 : timesTo 8 p A B k < 128 → stepB 8 p (timesTo 8 p A B k) false = 2 * timesTo 8 p A B k := step_small
      have hD2 : 128 ≤ timesTo 8 p A B k → bits .xor .i64 ((timesTo 8 p A B k : Int) * 2) Q = (stepB 8 p (timesTo 8 p A B k) false : Nat) := fun h => by
        rw [step_great HP.out h hT, ← i64_xor_nat _ _ (by omega) (by have := HP.out; omega), HQ.out]; congr 1; omega
      have hX : bits .xor .i64 (stepB 8 p (timesTo 8 p A B k) false : Nat) A = (stepB 8 p (timesTo 8 p A B k) false ^^^ A : Nat) := i64_xor_nat _ _ (by omega) (by omega)
      have HS := hidD hS
      clear hS
      have hd7 : 7 - k ≤ 8 := by omega
      generalize 7 - k = d at *
      generalize stepB 8 p (timesTo 8 p A B k) false = D at *
      generalize timesTo 8 p A B k = T at *
      generalize B.testBit d = c at *
      rcases Nat.lt_or_ge T 128 with hTl | hTl
      · have hD0 := hD1 hTl
        subst hD0
        clear hD1 hD2
        have hTi : ¬ (256 : Int) ≤ (T : Int) * 2 := by omega
        cases c
        · go_wp2_with fail
          go_roundw
          case rel => exact ⟨k + 1, by omega, by go_num, by rw [HS.out]; simp [sel]; omega, trivial⟩
          case measure => simp [intOf]; omega
        · rw [show ((2 * T : Nat) : Int) = (T : Int) * 2 by omega] at hX
          go_wp2_with fail
          go_roundw
          case rel => exact ⟨k + 1, by omega, by go_num, by rw [HS.out]; simp [sel], trivial⟩
          case measure => simp [intOf]; omega
      · have hD0 := hD2 hTl
        clear hD1 hD2
        have hTi : (256 : Int) ≤ (T : Int) * 2 := by omega
        cases c
        · go_wp2_with fail
          go_roundw
          case rel => exact ⟨k + 1, by omega, by go_num, by rw [HS.out]; simp [sel], trivial⟩
          case measure => simp [intOf]; omega
        · go_wp2_with fail
          go_roundw
          case rel => exact ⟨k + 1, by omega, by go_num, by rw [HS.out]; simp [sel], trivial⟩
          case measure => simp [intOf]; omega
    · obtain rfl : k = 8 := by omega
      have hT := times_lt (w := 8) HP.out ha (b := B) 8
      generalize timesTo 8 p A B 8 = T at *
      go_wp2_with fail
      go_ret
      exact ⟨by rw [HR.out]; rfl, rfl⟩
set_option maxRecDepth 100000 in
set_option maxHeartbeats 400000 in
theorem carry_out (Q : Int) (h : ¬ (256 ≤ Q ∧ Q ≤ 511)) (a b : UInt8) (w : World) : Calls Try.prog 91 #[.int .u8 (a.toNat : Int), .int .u8 (b.toNat : Int), .int .i64 Q] w fun e w' => e = .returned (.int .u8 0) ∧ w' = w := by
  have HD : Hid (∀ w, Calls Try.prog 93 #[.int .i64 Q] w fun e w' => e = .returned (.bool false) ∧ w' = w) := fun w => degree_out Q h w
  clear h
  go_enter Try.func91, Try.ntmps91
  go_wp2_with (go_at_call 93; refine (HD.out _).mono ?_; rintro e w2 ⟨rfl, hb2⟩)
  go_ret
  exact ⟨rfl, rfl⟩

theorem rem_or {L : Nat} (c : Bool) (h : L < 9223372036854775808) (h2 : 2 * L < 9223372036854775808) : bits .or .i64 ((L : Int) * 2) (c.toNat : Int) = ((2 * L + c.toNat : Nat) : Int) := by
  have hc : c.toNat < 2 := by cases c <;> simp
  rw [show (L : Int) * 2 = ((2 * L : Nat) : Int) by omega, i64_or_nat _ _ (by omega) (by omega), nat_join 1 _ _ (by omega) (by omega)]

theorem irr_false {p f : Nat} (hf : f < 30) (h : remS p (f + 2) = 0) : irrS p = false := by
  rw [irrS, List.all_eq_false]
  exact ⟨f, List.mem_range.mpr hf, by simp [h]⟩
theorem irr_true {p : Nat} (h : ∀ f, f < 30 → remS p (f + 2) ≠ 0) : irrS p = true := by
  rw [irrS, List.all_eq_true]
  intro f hf
  simpa using h f (List.mem_range.mp hf)
theorem ord_at (P g : UInt8) (F k : Nat) (h : k < F) : ordGo P g (F - k) (pw P g k) k = if pw P g (k + 1) = 1 then k + 1 else ordGo P g (F - (k + 1)) (pw P g (k + 1)) (k + 1) := by
  rw [show F - k = F - (k + 1) + 1 by omega, ordGo]; rfl
end Go.Proofs.Ytgefampdfhbmbaa
/- What Carry, times, Irreducible and Order of the document answer. -/
namespace Go.Proofs.Ytgefampdfhbmbaa
open Go.RowKit
set_option linter.unusedVariables false

theorem shl_nat {A k : Nat} (hA : A < 512) (hk : k ≤ 7) : A * 2 ^ k < 65536 := by
  have : 2 ^ k ≤ 2 ^ 7 := Nat.pow_le_pow_right (by omega) hk
  calc A * 2 ^ k ≤ A * 2 ^ 7 := Nat.mul_le_mul_left _ this
    _ < 65536 := by omega
theorem shl_i64 {A k : Nat} (hA : A < 512) (hk : k ≤ 7) : IntKind.i64.wrap ((A : Int) * 2 ^ k) = ((A * 2 ^ k : Nat) : Int) := by
  have h := shl_nat hA hk
  rw [IntKind.wrap_i64, show (A : Int) * 2 ^ k = ((A * 2 ^ k : Nat) : Int) by simp]
  omega

set_option maxRecDepth 100000 in
set_option maxHeartbeats 400000 in
theorem refCarry_in (P a b : UInt8) (Q : Int) (hQ : Q = 256 + (P.toNat : Int)) (w : World) : Calls Try.prog 76 #[.int .u8 (a.toNat : Int), .int .u8 (b.toNat : Int), .int .i64 Q] w fun e w' => e = .returned (.int .u8 ((bm P a b).toNat : Int)) ∧ w' = w := by
  have hP := u8_lt P
  have ha := u8_lt a
  have hb := u8_lt b
  have HR : Hid ((bm P a b).toNat = redTo (256 + P.toNat) (prodTo a.toNat b.toNat 8) 7) := (red_prod P a b).symm
  generalize (bm P a b).toNat = R at *
  generalize a.toNat = A at *
  generalize b.toNat = B at *
  generalize P.toNat = p at *
  have HP := hidD hP
  have HQ := hidD hQ
  have hq1 : 256 ≤ Q := by omega
  have hq2 : Q ≤ 511 := by omega
  clear hQ hP
  go_enter Try.func76, Try.ntmps76
  go_wp2_with fail
  go_loopw [7, 8] (fun t i wr => ∃ k : Nat, k ≤ 8 ∧ i = .int .i64 k ∧ t = .int .i64 ((prodTo A B k : Nat) : Int) ∧ wr = w) (fun _ i _ => 8 - (intOf i).toNat)
  case atStart => exact ⟨0, Nat.zero_le _, rfl, rfl, rfl⟩
  case round =>
    obtain ⟨k, hk, rfl, rfl, rfl⟩ := hrel
    by_cases hlt : k < 8
    · have hlti : (k : Int) < 8 := by omega
      have hbit := bit_u8 k hb
      have hT := prod_lt ha (b := B) k hk
      have hsh := shl_i64 (A := A) (k := k) (by omega) (by omega)
      have hX : bits .xor .i64 (prodTo A B k : Nat) (A * 2 ^ k : Nat) = _ := i64_xor_nat _ _ (by omega) (by have := shl_nat (A := A) (k := k) (by omega) (by omega); omega)
      have HS : Hid (prodTo A B (k + 1) = prodTo A B k ^^^ sel (B.testBit k) (A * 2 ^ k)) := rfl
      generalize A * 2 ^ k = Y at *
      generalize prodTo A B k = T at *
      generalize B.testBit k = c at *
      cases c
      · go_wp2_with fail
        go_roundw
        case rel => exact ⟨k + 1, by omega, by go_num, by rw [HS.out]; simp [sel], trivial⟩
        case measure => simp [intOf]; omega
      · go_wp2_with fail
        go_roundw
        case rel => exact ⟨k + 1, by omega, by go_num, by rw [HS.out]; simp [sel], trivial⟩
        case measure => simp [intOf]; omega
    · obtain rfl : k = 8 := by omega
      have hp := prod_lt ha (b := B) 8 (Nat.le_refl _)
      generalize prodTo A B 8 = N at *
      go_wp2_with fail
      go_loopw [7, 9] (fun t i wz => ∃ k : Nat, k ≤ 7 ∧ i = .int .i64 ((14 : Int) - k) ∧ t = .int .i64 ((redTo (256 + p) N k : Nat) : Int) ∧ wz = wr) (fun _ i _ => (intOf i).toNat)
      case atStart => exact ⟨0, Nat.zero_le _, rfl, rfl, rfl⟩
      case round =>
        obtain ⟨k, hk, rfl, rfl, rfl⟩ := hrel
        by_cases hlt : k < 7
        · have hlti : (8 : Int) ≤ 14 - (k : Int) := by omega
          have hd : (14 : Int) - k = ((14 - k : Nat) : Int) := by omega
          have hd8 : ((14 - k : Nat) : Int) - 8 = ((6 - k : Nat) : Int) := by omega
          have hT := Nat.lt_of_lt_of_le (red_lt HP.out hp k hk) (Nat.pow_le_pow_right (n := 2) (by omega) (show 15 - k ≤ 15 by omega))
          have hbit := bit_i64 (v := redTo (256 + p) N k) (14 - k) (by omega)
          have hP := HP.out
          have hsh : IntKind.i64.wrap (Q * 2 ^ (6 - k)) = (((256 + p) * 2 ^ (6 - k) : Nat) : Int) := by
            rw [HQ.out, ← shl_i64 (A := 256 + p) (k := 6 - k) (by omega) (by omega)]; simp
          have hX : bits .xor .i64 (redTo (256 + p) N k : Nat) ((256 + p) * 2 ^ (6 - k) : Nat) = _ := i64_xor_nat _ _ (by omega) (by have := shl_nat (A := 256 + p) (k := 6 - k) (by omega) (by omega); omega)
          have HS : Hid (redTo (256 + p) N (k + 1) = redTo (256 + p) N k ^^^ sel ((redTo (256 + p) N k).testBit (14 - k)) ((256 + p) * 2 ^ (6 - k))) := rfl
          have HK1 : Hid ((14 : Int) - k - 1 = 14 - ((k + 1 : Nat) : Int)) := by show _ = _; omega
          have HM : Hid ((14 : Int) - k = ((14 - k : Nat) : Int)) := hd
          have hs1 : 14 - k ≤ 14 := by omega
          have hs2 : 6 - k ≤ 6 := by omega
          generalize (256 + p) * 2 ^ (6 - k) = Y at *
          generalize redTo (256 + p) N k = T at *
          generalize 6 - k = d6 at *
          generalize hs : 14 - k = d at *
          generalize T.testBit d = c at *
          have HD := hidD hs
          clear hs hP
          cases c
          · go_wp2_with fail
            go_roundw
            case rel => exact ⟨k + 1, by omega, by congr 1 <;> omega, by rw [HS.out]; simp [sel], trivial⟩
            case measure => simp [intOf]; omega
          · go_wp2_with fail
            go_roundw
            case rel => exact ⟨k + 1, by omega, by congr 1 <;> omega, by rw [HS.out]; simp [sel], trivial⟩
            case measure => simp [intOf]; omega
        · obtain rfl : k = 7 := by omega
          have hT := red_lt HP.out hp 7 (Nat.le_refl _)
          generalize redTo (256 + p) N 7 = T at *
          go_wp2_with fail
          go_ret
          exact ⟨by rw [HR.out]; rfl, rfl⟩
set_option maxRecDepth 100000 in
set_option maxHeartbeats 400000 in
theorem refCarry_out (Q : Int) (h : ¬ (256 ≤ Q ∧ Q ≤ 511)) (a b : UInt8) (w : World) : Calls Try.prog 76 #[.int .u8 (a.toNat : Int), .int .u8 (b.toNat : Int), .int .i64 Q] w fun e w' => e = .returned (.int .u8 0) ∧ w' = w := by
  by_cases h1 : 256 ≤ Q
  · have h2 : ¬ Q ≤ 511 := fun h2 => h ⟨h1, h2⟩
    clear h
    go_enter Try.func76, Try.ntmps76
    go_wp2_with fail
    go_ret
    exact ⟨rfl, rfl⟩
  · clear h
    go_enter Try.func76, Try.ntmps76
    go_wp2_with fail
    go_ret
    exact ⟨rfl, rfl⟩

theorem irrR_false {p a b : Nat} (ha : a < 30) (hb : b < 254) (h : prodTo (b + 2) (a + 2) 8 = p) : irrR p = false := by
  rw [irrR, List.all_eq_false]
  refine ⟨a, List.mem_range.mpr ha, ?_⟩
  rw [Bool.not_eq_true, List.all_eq_false]
  exact ⟨b, List.mem_range.mpr hb, by simp [h]⟩
theorem irrR_true {p : Nat} (h : ∀ a, a < 30 → ∀ b, b < 254 → prodTo (b + 2) (a + 2) 8 ≠ p) : irrR p = true := by
  rw [irrR, List.all_eq_true]
  intro a ha
  rw [List.all_eq_true]
  intro b hb
  simpa using h a (List.mem_range.mp ha) b (List.mem_range.mp hb)
end Go.Proofs.Ytgefampdfhbmbaa
/- A region that draws its order, whose operations only read and whose calls make new memory alone: one walk, in the order of the text, in whatever world that has the old blocks as they were. -/
namespace Go.Proofs.Ytgefampdfhbmbaa
open Go.RowKit
set_option linter.unusedVariables false

/-- A world in which all blocks of w stand as they did. -/
structure BW (w : World) where
  v : World
  below : Below w.heap.size w v

instance BW.some (w : World) : Nonempty (BW w) := ⟨⟨w, Below.refl _ _⟩⟩

theorem BW.cell {w : World} (i : BW w) {b o : Nat} (hb : b < w.heap.size) : i.v.cell? ⟨b, o, none⟩ = w.cell? ⟨b, o, none⟩ := i.below.cell (p := ⟨b, o, none⟩) hb

theorem wp_region_below {P : Program} {id : Nat} {Q : Exit → Act → World → Prop} {a : Act} {w : World} {l : List Oper} (hm : P.follows .mixedOrders = true) (hB : Region.lexB .any l.toArray = true)
    (h : wpQuiet P l.toArray (fun w' => ∃ i : BW w, w' = i.v) (fun a' => ∀ i : BW w, Q .normal a' i.v) l a) : (Code.region id l.toArray true).wp P Q a w := by
  refine wp_region_quiet (C := fun w' => ∃ i : BW w, w' = i.v) hm hB ⟨⟨{ w with drawn := w.drawn + 1 }, ⟨rfl, rfl, rfl, Nat.le_refl _, fun _ _ => rfl⟩⟩, rfl⟩ ?_
  have e : (fun a' => ∀ w', (∃ i : BW w, w' = i.v) → Q .normal a' w') = (fun a' => ∀ i : BW w, Q .normal a' i.v) := by
    funext a'
    refine propext ⟨fun h i => h _ ⟨i, rfl⟩, fun h w' hw => ?_⟩
    obtain ⟨i, rfl⟩ := hw
    exact h i
  rw [e]
  simpa using h

/-- A callee's contract, met in such a world. -/
theorem Calls.below_of {P : Program} {f : FuncId} {args : Array Value} {w : World} {i : BW w} {v : Value}
    (h : Calls P f args i.v fun e w' => e = .returned v ∧ Below i.v.heap.size i.v w') : Calls P f args i.v fun e w'' => e = .returned v ∧ ∃ j : BW w, w'' = j.v :=
  h.mono fun _ w'' ⟨he, hb⟩ => ⟨he, ⟨w'', i.below.trans (hb.mono i.below.size)⟩, rfl⟩
end Go.Proofs.Ytgefampdfhbmbaa
/- What the document's New and its field's calls answer. -/
namespace Go.Proofs.Ytgefampdfhbmbaa
open Go.RowKit
set_option linter.unusedVariables false

/-- The document's field lies in a block. -/
structure RfAt (w : World) (b : Nat) (P g : UInt8) : Prop where
  lt : b < w.heap.size
  c0 : w.cell? ⟨b, 0, none⟩ = some (.int .i64 (256 + (P.toNat : Int)))
  c1 : w.cell? ⟨b, 1, none⟩ = some (.int .u8 (g.toNat : Int))
theorem RfAt.below {w w' : World} {b n : Nat} {P g : UInt8} (h : RfAt w b P g) (hb : Below n w w') (hn : b < n) : RfAt w' b P g :=
  ⟨Nat.lt_of_lt_of_le h.lt hb.size, by rw [hb.cell hn]; exact h.c0, by rw [hb.cell hn]; exact h.c1⟩
theorem RfAt.next {w w' : World} {b : Nat} {P g : UInt8} (h : RfAt w b P g) (hb : Below w.heap.size w w') : RfAt w' b P g := h.below hb h.lt
theorem RfAt.new (w : World) (P g : UInt8) (Q : Int) (hQ : Q = 256 + (P.toNat : Int)) (t : TypeId) : RfAt (w.alloc (.cells #[.int .i64 Q, .int .u8 (g.toNat : Int)] t)) w.heap.size P g := by
  subst hQ
  refine ⟨by simp, ?_, ?_⟩ <;> (rw [World.cell?_alloc_new]; rfl)

set_option maxRecDepth 100000 in
set_option maxHeartbeats 400000 in
theorem refMul_any {P g : UInt8} {b : Nat} (x y : UInt8) (w : World) (hf : RfAt w b P g) : Calls Try.prog 92 #[.pointer (some ⟨b, 0, none⟩), .int .u8 (x.toNat : Int), .int .u8 (y.toNat : Int)] w fun e w' => e = .returned (.int .u8 ((bm P x y).toNat : Int)) ∧ w' = w := by
  have HC := hidD (fun w => refCarry_in P x y _ rfl w)
  have hc := hf.c0
  generalize ((bm P x y).toNat : Int) = R at *
  generalize 256 + (P.toNat : Int) = Q at *
  clear hf
  go_enter Try.func92, Try.ntmps92
  go_wp2_with (go_at_call 76; refine (HC.out _).mono ?_; rintro e w2 ⟨rfl, hb2⟩)
  go_ret
  exact ⟨rfl, rfl⟩
set_option maxRecDepth 100000 in
set_option maxHeartbeats 400000 in
theorem power_any {P g : UInt8} {b : Nat} (a : UInt8) (n : Nat) (hn : n < 9223372036854775807) (w : World) (hf : RfAt w b P g) : Calls Try.prog 90 #[.pointer (some ⟨b, 0, none⟩), .int .u8 (a.toNat : Int), .int .i64 (n : Int)] w fun e w' => e = .returned (.int .u8 ((pw P a n).toNat : Int)) ∧ w' = w := by
  have HC : Hid (∀ k, Calls Try.prog 92 #[.pointer (some ⟨b, 0, none⟩), .int .u8 ((pw P a k).toNat : Int), .int .u8 (a.toNat : Int)] w fun e w' => e = .returned (.int .u8 ((pw P a (k + 1)).toNat : Int)) ∧ w' = w) := fun k => refMul_any (pw P a k) a w hf
  generalize hR : ((pw P a n).toNat : Int) = R
  have HR := hidD hR
  clear hf hR
  go_enter Try.func90, Try.ntmps90
  go_wp2_with fail
  go_loopw [7, 8] (fun x i wr => ∃ k : Nat, k ≤ n ∧ i = .int .i64 k ∧ x = .int .u8 ((pw P a k).toNat : Int) ∧ wr = w) (fun _ i _ => n - (intOf i).toNat)
  case atStart => exact ⟨0, Nat.zero_le _, rfl, rfl, rfl⟩
  case round =>
    obtain ⟨k, hk, rfl, rfl, rfl⟩ := hrel
    by_cases hlt : k < n
    · have hlti : (k : Int) < n := by omega
      have HCk := hidD (HC.out k)
      generalize hx : ((pw P a (k + 1)).toNat : Int) = X at *
      have HX := hidD hx
      clear hx
      generalize ((pw P a k).toNat : Int) = Y at *
      go_wp2_with (go_at_call 92; refine HCk.out.mono ?_; rintro e w3 ⟨rfl, hb3⟩)
      go_roundw
      case rel => exact ⟨k + 1, by omega, by go_num, by rw [HX.out], trivial⟩
      case measure => simp [intOf]; omega
    · obtain rfl : k = n := by omega
      rw [HR.out]
      go_wp2_with fail
      go_ret
      exact ⟨rfl, rfl⟩

end Go.Proofs.Ytgefampdfhbmbaa
/- Bytes in memory: slices that are read, rows of one's own, one block that is written. -/
namespace Go.Proofs.Ytgefampdfhbmbaa
open Go.RowKit
set_option linter.unusedVariables false

def encB (b : UInt8) : Value := .int .u8 (b.toNat : Int)
/-- A slice value reads as these bytes. -/
def ByAt (w : World) (sl : Value) (bs : List UInt8) : Prop :=
  (bs = [] ∧ ∃ a cap, sl = .slice a 0 cap ∧ (a = none → cap = 0)) ∨
  ∃ g off cap, sl = .slice (some ⟨g, off, none⟩) bs.length cap ∧ g < w.heap.size ∧ ∀ j, j < bs.length → w.cell? ⟨g, off + j, none⟩ = some (encB (bs.getD j 0))
theorem ByAt.below {B : Nat} {w w' : World} {sl : Value} {bs : List UInt8} (h : ByAt w sl bs) (hb : Below B w w') (hB : w.heap.size ≤ B) : ByAt w' sl bs := by
  rcases h with h | ⟨g, off, cap, rfl, hg, hc⟩
  · exact .inl h
  · refine .inr ⟨g, off, cap, rfl, Nat.lt_of_lt_of_le hg hb.size, fun j hj => ?_⟩
    rw [hb.cell (p := ⟨g, off + j, none⟩) (Nat.lt_of_lt_of_le hg hB)]
    exact hc j hj

theorem ByAt.shape {w : World} {sl : Value} {bs : List UInt8} (h : ByAt w sl bs) : ∃ a cap, sl = .slice a bs.length cap ∧ ∀ k, k < bs.length → ∃ g off, a = some ⟨g, off, none⟩ ∧ g < w.heap.size ∧ w.cell? ⟨g, off + k, none⟩ = some (.int .u8 ((bs.getD k 0).toNat : Int)) := by
  rcases h with ⟨rfl, a, cap, rfl, _⟩ | ⟨g, off, cap, rfl, hg, hc⟩
  · exact ⟨a, cap, rfl, fun k hk => by simp at hk⟩
  · exact ⟨_, cap, rfl, fun k hk => ⟨g, off, rfl, hg, hc k hk⟩⟩
theorem ByAt.take {w : World} {a : Option Addr} {n cap : Nat} {bs : List UInt8} (h : ByAt w (.slice a bs.length cap) bs) (hn : n ≤ bs.length) : ByAt w (.slice a n cap) (bs.take n) := by
  have hl : (bs.take n).length = n := by simp; omega
  rcases h with ⟨rfl, a', c', he, hcap⟩ | ⟨g, off, c', he, hg, hc⟩
  · cases he
    have : n = 0 := by simpa using hn
    subst this
    exact .inl ⟨by simp, a, cap, rfl, hcap⟩
  · cases he
    refine .inr ⟨g, off, cap, by rw [hl], hg, fun j hj => ?_⟩
    rw [hl] at hj
    rw [hc j (by omega), List.getD_eq_getElem?_getD, List.getD_eq_getElem?_getD, List.getElem?_take, if_pos hj]
theorem Try.info5 : (Try.prog.info? 5).map (fun i => (i.zero, i.size, i.bytes)) = some (some (.int .u8 0), 1, 1) := by kernel_rfl
theorem bytes_oneCell (bs : List UInt8) : ∀ u ∈ bs.map encB, u.oneCell' = true := by
  intro u hu
  obtain ⟨x, _, rfl⟩ := List.mem_map.1 hu
  rfl
theorem row_lt {w : World} {g : Nat} {o : Obj} (h : w.heap[g]? = some o) : g < w.heap.size := by
  rcases Nat.lt_or_ge g w.heap.size with h' | h'
  · exact h'
  · rw [Array.getElem?_eq_none h'] at h; cases h
theorem row_shapeC {w : World} {base e size n : Nat} {v : Value} {xs : List Value} (h : w.ownsRow base e size v n xs) (hn : 0 < n) : ∃ g cap, v = .slice (some ⟨g, 0, none⟩) n cap ∧ base ≤ g ∧ g < w.heap.size ∧ n ≤ cap := by
  rcases h.2 with ⟨rfl, rfl⟩ | ⟨g, cap, cur, rfl, hb, hg, hc, _⟩
  · omega
  · exact ⟨g, cap, rfl, hb, row_lt hg, hc⟩
theorem row_shape {w : World} {base e size n : Nat} {v : Value} {xs : List Value} (h : w.ownsRow base e size v n xs) : ∃ a cap, v = .slice a n cap := by
  rcases h.2 with ⟨rfl, rfl⟩ | ⟨g, cap, cur, rfl, _⟩
  · exact ⟨none, 0, rfl⟩
  · exact ⟨_, cap, rfl⟩
theorem row_below {B : Nat} {e : TypeId} {k : Nat} {v : Value} {n : Nat} {xs : List Value} {w w' : World} (h : w.ownsRow B e k v n xs) (hb : Below w.heap.size w w') : w'.ownsRow B e k v n xs := by
  refine ⟨h.1, ?_⟩
  rcases h.2 with h0 | ⟨g, cap, cur, hv, hbg, hg, h3, h4, h5, h6⟩
  · exact .inl h0
  · exact .inr ⟨g, cap, cur, hv, hbg, by rw [hb.block g (row_lt hg)]; exact hg, h3, h4, h5, h6⟩
theorem row_mono {w : World} {base base' e size n : Nat} {v : Value} {xs : List Value} (h : w.ownsRow base e size v n xs) (hb : base' ≤ base) : w.ownsRow base' e size v n xs := by
  refine ⟨h.1, ?_⟩
  rcases h.2 with h | ⟨g, cap, cur, h1, h2, h3⟩
  · exact .inl h
  · exact .inr ⟨g, cap, cur, h1, by omega, h3⟩
theorem row_grown {w w' a : World} {base e size n : Nat} {v : Value} {xs : List Value} (h : w.ownsRow base e size v n xs) (hb : Below base a w) (hg : w.grownBy w' v.ownBlock) (hB : base ≤ w.heap.size) : Below base a w' :=
  hb.grown hg hB fun k hk => by
    rcases h.2 with ⟨rfl, _⟩ | ⟨g, cap, cur, rfl, hbg, _⟩
    · simp [Value.ownBlock] at hk
    · simp [Value.ownBlock] at hk; omega
theorem row_by {w : World} {base : Nat} {v : Value} {bs : List UInt8} {e : TypeId} (h : w.ownsRow base e 1 v bs.length (bs.map encB)) : ByAt w v bs := by
  rcases h.2 with ⟨rfl, h0⟩ | ⟨g, cap, cur, rfl, hb, hg, _⟩
  · exact .inl ⟨List.length_eq_zero_iff.1 h0, none, 0, rfl, fun _ => rfl⟩
  · refine .inr ⟨g, 0, cap, rfl, row_lt hg, fun j hj => ?_⟩
    have := h.cells (g := g) rfl j (encB (bs.getD j 0)) (by rw [List.getElem?_map, List.getElem?_eq_getElem hj, List.getD_eq_getElem?_getD, List.getElem?_eq_getElem hj]; rfl)
    rwa [show (⟨g, 0, none⟩ : Addr).add j = ⟨g, 0 + j, none⟩ from Addr.add_lit ..] at this
theorem below_drewN {B : Nat} {a w : World} (h : Below B a w) (n : Nat) : Below B a (w.drewN n) := h.trans ⟨rfl, rfl, rfl, Nat.le_refl _, fun _ _ => rfl⟩
theorem new_cell1 (w : World) (u : Value) (t : TypeId) : ∀ j v, [u][j]? = some v → (w.alloc (.cells #[u] t)).cell? ((⟨w.heap.size, 0, none⟩ : Addr).add j) = some v := fun j v h => by
  rw [Go.WideShapes.add_plain, World.cell?_alloc_new]
  cases j with
  | zero => simpa using h
  | succ j => simp at h

/-- Bytes that are put behind a row of one's own. -/
theorem wpList_append_by {ops : Array Oper} {rest : List Oper} {o : Oper} {a : Act} {Q : Exit → Act → World → Prop} {w : World} (hgd : o.guard = none) (s x : Operand)
    (ho : o.op = .call { callee := .builtin .append, args := #[s, x], argTypes := #[22, 22] }) (base : Nat) (v : Value) (n : Nat) (xs : List Value)
    (hs : a.eval s = v) (hown : w.ownsRow base 5 1 v n xs) (sl : Value) (bs : List UInt8) (hx : a.eval x = sl) (hsrc : ByAt w sl bs) (hl : n + bs.length ≤ 140737488355328) (hbase : base ≤ w.heap.size)
    (h : ∀ v' w', w'.ownsRow base 5 1 v' (n + bs.length) (xs ++ bs.map encB) → w.grownBy w' v.ownBlock → wpList Try.prog ops Q rest (a.put o.dst v') w') : wpList Try.prog ops Q (o :: rest) a w := by
  obtain ⟨i0, hi, hz0, hz1, hz2⟩ := info_parts Try.info5
  rcases hsrc with ⟨rfl, ad, cap, rfl, hcap⟩ | ⟨g, off, cap, rfl, hg, hc⟩
  · cases ad with
    | none =>
      refine wpList_append_own_none hgd s x 22 ho base 5 i0 1 Try.underlying22 hi v n xs hs hown (by rw [hx, hcap rfl]) ?_
      exact h v w (by simpa using hown) ⟨rfl, rfl, rfl, Nat.le_refl _, fun _ _ _ => rfl⟩
    | some ad =>
      refine wpList_append_own w hgd s x 22 ho base 5 i0 (.int .u8 0) 1 1 Try.underlying22 hi hz0 hz1 hz2 rfl (by decide) v n xs hs hown ad 0 cap [] hx (by simp) (fun j u hu => by simp at hu) (by simp) (by unfold maxLen; omega) (by simp at hl; omega) hbase ?_
      intro v' w' h1 h2 _
      exact h v' w' (by simpa using h1) h2
  · refine wpList_append_own w hgd s x 22 ho base 5 i0 (.int .u8 0) 1 1 Try.underlying22 hi hz0 hz1 hz2 rfl (by decide) v n xs hs hown ⟨g, off, none⟩ bs.length cap (bs.map encB) hx (by simp) (fun j u hu => ?_) (bytes_oneCell bs) (by unfold maxLen; omega) (by omega) hbase ?_
    · rw [List.getElem?_map] at hu
      cases hj : bs[j]? with
      | none => rw [hj] at hu; cases hu
      | some y =>
        rw [hj] at hu
        have hlt := (List.getElem?_eq_some_iff.1 hj).1
        rw [Go.WideShapes.add_plain, hc j hlt, List.getD_eq_getElem?_getD, hj]
        exact hu
    · intro v' w' h1 h2 _
      exact h v' w' h1 h2

theorem row_full {w : World} {base e g n : Nat} {xs : List Value} (h : w.ownsRow base e 1 (.slice (some ⟨g, 0, none⟩) n n) n xs) : w.heap[g]? = some (.cells xs.toArray e (0, 0)) := by
  rcases h.2 with ⟨h', _⟩ | ⟨g', cap', cur, h', hb, hg, hnc, hcm, hcs, htake⟩
  · simp at h'
  · simp only [Value.slice.injEq, Option.some.injEq, Addr.mk.injEq, and_true, true_and] at h'
    obtain ⟨rfl, rfl⟩ := h'
    rw [hg]
    have : cur.toList = xs := by rw [← htake, List.take_of_length_le]; rw [Array.length_toList]; omega
    rw [← this]
theorem full_row {w : World} {base e g n : Nat} {xs : List Value} (hb : base ≤ g) (hl : xs.length = n) (hm : n ≤ maxLen) (h : w.heap[g]? = some (.cells xs.toArray e (0, 0))) : w.ownsRow base e 1 (.slice (some ⟨g, 0, none⟩) n n) n xs :=
  ⟨by omega, .inr ⟨g, n, xs.toArray, rfl, hb, h, Nat.le_refl _, hm, by simp [hl], by rw [Nat.mul_one, ← hl]; simp⟩⟩

/-- All that was there is as it was, but for one block. -/
structure But (g : Nat) (w w' : World) : Prop where
  bel : Below g w w'
  rest : ∀ b, b < w.heap.size → b ≠ g → w'.heap[b]? = w.heap[b]?
theorem But.refl (g : Nat) (w : World) : But g w w := ⟨Below.refl _ _, fun _ _ _ => rfl⟩
theorem But.trans {g : Nat} {a b c : World} (h : But g a b) (k : But g b c) : But g a c := ⟨h.bel.trans k.bel, fun i hi hn => (k.rest i (Nat.lt_of_lt_of_le hi h.bel.size) hn).trans (h.rest i hi hn)⟩
theorem But.of {g : Nat} {a b : World} (h : Below a.heap.size a b) (hg : g ≤ a.heap.size) : But g a b := ⟨h.mono hg, fun i hi _ => h.block i hi⟩
theorem But.put {g : Nat} {a b : World} (h : But g a b) (k : Nat) (u : Value) : But g a (b.setCell ⟨g, k, none⟩ u) :=
  ⟨h.bel.setCell (p := ⟨g, k, none⟩) (Nat.le_refl _) u, fun i hi hn => (heap_setCell_other b ⟨g, k, none⟩ i u hn).trans (h.rest i hi hn)⟩
theorem But.cell {g : Nat} {a b : World} (h : But g a b) {i o : Nat} (hi : i < a.heap.size) (hn : i ≠ g) : b.cell? ⟨i, o, none⟩ = a.cell? ⟨i, o, none⟩ := by
  simp only [World.cell?, h.rest i hi hn]

theorem But.below {g : Nat} {a b c : World} (h : But g a b) (k : Below b.heap.size b c) (hg : g ≤ a.heap.size) : But g a c := h.trans (But.of k (Nat.le_trans hg h.bel.size))
theorem But.rf {g : Nat} {w w' : World} {b : Nat} {P G : UInt8} (h : But g w w') (hf : RfAt w b P G) (hn : b ≠ g) : RfAt w' b P G :=
  ⟨Nat.lt_of_lt_of_le hf.lt h.bel.size, by rw [h.cell hf.lt hn]; exact hf.c0, by rw [h.cell hf.lt hn]; exact hf.c1⟩
/-- A block holds these bytes. -/
def RowAt (w : World) (g : Nat) (L : List UInt8) : Prop := w.heap[g]? = some (.cells (L.map encB).toArray (5 : TypeId) (0, 0))
theorem RowAt.lt {w : World} {g : Nat} {L : List UInt8} (h : RowAt w g L) : g < w.heap.size := row_lt h
theorem RowAt.cell {w : World} {g : Nat} {L : List UInt8} (h : RowAt w g L) {k : Nat} (hk : k < L.length) : w.cell? ⟨g, k, none⟩ = some (.int .u8 ((L.getD k 0).toNat : Int)) := by
  rw [cell_of_row _ _ _ _ _ _ h, List.getElem?_toArray, List.getElem?_map, List.getElem?_eq_getElem hk, List.getD_eq_getElem?_getD, List.getElem?_eq_getElem hk]; rfl
theorem RowAt.frozen {w : World} {g : Nat} {L : List UInt8} (h : RowAt w g L) (k : Nat) : w.frozen? ⟨g, k, none⟩ = false := frozen_of_row _ _ _ _ _ h
theorem RowAt.set {w : World} {g : Nat} {L : List UInt8} (h : RowAt w g L) (k : Nat) (v : UInt8) : RowAt (w.setCell ⟨g, k, none⟩ (.int .u8 (v.toNat : Int))) g (L.set k v) := by
  unfold RowAt
  rw [heap_setCell_same w g k _ _ _ h]
  congr 2
  apply Array.toList_inj.1
  simp [encB, List.map_set]
theorem RowAt.below {w w' : World} {g n : Nat} {L : List UInt8} (h : RowAt w g L) (hb : Below n w w') (hn : g < n) : RowAt w' g L := (hb.block g hn).trans h
theorem RowAt.next {w w' : World} {g : Nat} {L : List UInt8} (h : RowAt w g L) (hb : Below w.heap.size w w') : RowAt w' g L := h.below hb h.lt
theorem RowAt.by {w : World} {g : Nat} {L : List UInt8} (h : RowAt w g L) (off n cap : Nat) (hn : off + n ≤ L.length) : ByAt w (.slice (some ⟨g, off, none⟩) n cap) ((L.drop off).take n) := by
  have hl : ((L.drop off).take n).length = n := by rw [List.length_take, List.length_drop]; omega
  refine .inr ⟨g, off, cap, by rw [hl], h.lt, fun j hj => ?_⟩
  rw [hl] at hj
  rw [h.cell (by omega)]
  unfold encB
  congr 4
  rw [List.getD_eq_getElem?_getD, List.getD_eq_getElem?_getD, List.getElem?_take, if_pos hj, List.getElem?_drop]
/-- A slice keeps its bytes where its block is another than the one that is written. -/
def Off (sl : Value) (g : Nat) : Prop := ∀ h o n c, sl = .slice (some ⟨h, o, none⟩) n c → h ≠ g
theorem ByAt.but {g : Nat} {w w' : World} {sl : Value} {bs : List UInt8} (h : ByAt w sl bs) (hb : But g w w') (hn : Off sl g) : ByAt w' sl bs := by
  rcases h with h | ⟨k, off, cap, rfl, hg, hc⟩
  · exact .inl h
  · refine .inr ⟨k, off, cap, rfl, Nat.lt_of_lt_of_le hg hb.bel.size, fun j hj => ?_⟩
    rw [hb.cell hg (hn _ _ _ _ rfl)]
    exact hc j hj
theorem ByAt.off {w : World} {sl : Value} {bs : List UInt8} (h : ByAt w sl bs) {g : Nat} (hg : w.heap.size ≤ g) (hne : bs ≠ []) : Off sl g := by
  intro k o n c he hk
  rcases h with ⟨h0, _⟩ | ⟨k', off, cap, he', hg', hc⟩
  · exact hne h0
  · rw [he'] at he
    simp only [Value.slice.injEq, Option.some.injEq, Addr.mk.injEq] at he
    omega
theorem ByAt.next {w w' : World} {sl : Value} {bs : List UInt8} (h : ByAt w sl bs) (hb : Below w.heap.size w w') : ByAt w' sl bs := h.below hb (Nat.le_refl _)
end Go.Proofs.Ytgefampdfhbmbaa
/- What Mul and Inverse of the program and Bytes of the statements answer. -/
namespace Go.Proofs.Ytgefampdfhbmbaa
open Go.RowKit
set_option linter.unusedVariables false

set_option maxRecDepth 100000 in
set_option maxHeartbeats 400000 in
theorem gmul_any (a b : UInt8) (w : World) : Calls Try.prog 89 #[.int .u8 (a.toNat : Int), .int .u8 (b.toNat : Int)] w fun e w' => e = .returned (.int .u8 ((bm 27 a b).toNat : Int)) ∧ w' = w := by
  have HC := hidD (fun w => carry_in 27 a b 283 rfl w)
  generalize ((bm 27 a b).toNat : Int) = R at *
  go_enter Try.func89, Try.ntmps89
  go_wp2_with (go_at_call 91; refine (HC.out _).mono ?_; rintro e w2 ⟨rfl, hb2⟩)
  go_ret
  exact ⟨rfl, by first | rfl | exact hb2⟩
theorem inv_sq (a : UInt8) (k : Nat) : bm 27 (pw 27 a (2 ^ k)) (pw 27 a (2 ^ k)) = pw 27 a (2 ^ (k + 1)) := by rw [← pw_add]; congr 1; omega
theorem inv_next (a : UInt8) (k : Nat) : bm 27 (pw 27 a (2 ^ (k + 1) - 2)) (pw 27 a (2 ^ (k + 1))) = pw 27 a (2 ^ (k + 1 + 1) - 2) := by
  have : 2 ≤ 2 ^ (k + 1) := by have := Nat.two_pow_pos k; omega
  rw [← pw_add]; congr 1; omega
set_option maxRecDepth 100000 in
set_option maxHeartbeats 400000 in
theorem inverse_any (a : UInt8) (w : World) : Calls Try.prog 81 #[.int .u8 (a.toNat : Int)] w fun e w' => e = .returned (.int .u8 ((inv 27 a).toNat : Int)) ∧ w' = w := by
  have HA := hidD (fun k w => gmul_any (pw 27 a (2 ^ k)) (pw 27 a (2 ^ k)) w)
  simp only [inv_sq] at HA
  have HB := hidD (fun k w => gmul_any (pw 27 a (2 ^ (k + 1) - 2)) (pw 27 a (2 ^ (k + 1))) w)
  simp only [inv_next] at HB
  have HS : Hid ((a.toNat : Int) = ((pw 27 a (2 ^ 0)).toNat : Int)) := by show _ = _; rw [Nat.pow_zero, pw_one]
  have HR : Hid (((inv 27 a).toNat : Int) = ((pw 27 a (2 ^ (7 + 1) - 2)).toNat : Int)) := rfl
  generalize ((inv 27 a).toNat : Int) = R at *
  have HA := hidD HA.out
  go_enter Try.func81, Try.ntmps81
  go_wp2_with fail
  go_loopw [0, 3, 4] (fun x y i wr => ∃ k : Nat, k ≤ 7 ∧ i = .int .i64 k ∧ x = .int .u8 ((pw 27 a (2 ^ k)).toNat : Int) ∧ y = .int .u8 ((pw 27 a (2 ^ (k + 1) - 2)).toNat : Int) ∧ wr = w) (fun _ _ i _ => 7 - (intOf i).toNat)
  case atStart => exact ⟨0, Nat.zero_le _, rfl, by rw [HS.out], rfl, rfl⟩
  case round =>
    obtain ⟨k, hk, rfl, rfl, rfl, rfl⟩ := hrel
    by_cases hlt : k < 7
    · have hlti : (k : Int) < 7 := by omega
      have HAk := hidD (HA.out k)
      have HBk := hidD (HB.out k)
      generalize hx : ((pw 27 a (2 ^ (k + 1))).toNat : Int) = X at *
      generalize hy : ((pw 27 a (2 ^ (k + 1 + 1) - 2)).toNat : Int) = Y at *
      have HX := hidD hx
      have HY := hidD hy
      clear hx hy
      generalize ((pw 27 a (2 ^ k)).toNat : Int) = X0 at *
      generalize ((pw 27 a (2 ^ (k + 1) - 2)).toNat : Int) = Y0 at *
      go_wp2_with (first | (go_at_call 89; refine (HAk.out _).mono ?_; rintro e w3 ⟨rfl, hb3⟩; clear HAk) | (go_at_call 89; refine (HBk.out _).mono ?_; rintro e w3 ⟨rfl, hb3⟩; clear HBk))
      go_roundw
      case rel => exact ⟨k + 1, by omega, by go_num, by rw [HX.out], by rw [HY.out], trivial⟩
      case measure => simp [intOf]; omega
    · obtain rfl : k = 7 := by omega
      rw [← HR.out]
      generalize ((pw 27 a (2 ^ 7)).toNat : Int) = X0 at *
      go_wp2_with fail
      go_ret
      exact ⟨rfl, rfl⟩

theorem conv_by {w : World} {v : Value} {l : List UInt8} (h : ByAt w v l) : (convert 22 9 v).run Try.prog w = .ok (.string ⟨l.toArray⟩) w := by
  rcases h with ⟨rfl, a, cap, rfl, hc⟩ | ⟨g, off, cap, rfl, hg, hc⟩
  · cases a with
    | none =>
      rw [run_convert_bytes_string w 22 9 5 none 0 cap Try.underlying22 Try.underlying5 Try.underlying9]
      simp [Conv.bytesToString]
      rfl
    | some a => exact run_convert_bytes_back w 22 9 5 a cap [] Try.underlying22 Try.underlying5 Try.underlying9 (fun j hj => by simp at hj)
  · refine run_convert_bytes_back w 22 9 5 _ cap l Try.underlying22 Try.underlying5 Try.underlying9 fun j hj => ?_
    rw [Go.WideShapes.add_plain, hc j hj, List.getD_eq_getElem?_getD, List.getElem?_eq_getElem hj]; rfl
end Go.Proofs.Ytgefampdfhbmbaa
