/- Plain facts of bytes as polynomials over two elements: products modulo a polynomial of degree 8, powers, orders, logarithms, inverses. -/
import Derived.RowKit
namespace Go.Proofs.Ytdpkeffkpecmjaa
open Go
set_option linter.unusedVariables false
def sel (c : Bool) (P : Nat) : Nat := if c then P else 0
/-- What one bit makes of a register of w bits. -/
def stepB (w P r : Nat) (c : Bool) : Nat := (2 * r) % 2 ^ w ^^^ sel (r.testBit (w - 1) != c) P
theorem xor_lt {a b w : Nat} (ha : a < 2 ^ w) (hb : b < 2 ^ w) : a ^^^ b < 2 ^ w := Nat.xor_lt_two_pow ha hb
theorem sel_lt {c : Bool} {P w : Nat} (h : P < 2 ^ w) : sel c P < 2 ^ w := by unfold sel; split; exact h; exact Nat.two_pow_pos w
theorem step_lt {w P r : Nat} {c : Bool} (hP : P < 2 ^ w) : stepB w P r c < 2 ^ w := xor_lt (Nat.mod_lt _ (Nat.two_pow_pos w)) (sel_lt hP)
theorem sel_xor (a b : Bool) (P : Nat) : sel (a ^^ b) P = sel a P ^^^ sel b P := by cases a <;> cases b <;> simp [sel]
theorem dbl_xor (a b w : Nat) : (2 * (a ^^^ b)) % 2 ^ w = (2 * a) % 2 ^ w ^^^ (2 * b) % 2 ^ w := by
  apply Nat.eq_of_testBit_eq
  intro i
  simp only [Nat.testBit_xor, Nat.testBit_mod_two_pow]
  cases i with
  | zero => simp [Nat.testBit_zero]
  | succ i => simp only [Nat.testBit_succ, Nat.mul_div_cancel_left _ (show 0 < 2 by omega), Nat.testBit_xor]; cases decide (i + 1 < w) <;> simp
theorem xor4 (a b c d : Nat) : (a ^^^ b) ^^^ (c ^^^ d) = (a ^^^ c) ^^^ (b ^^^ d) := by
  apply Nat.eq_of_testBit_eq; intro i; simp only [Nat.testBit_xor]; cases a.testBit i <;> cases b.testBit i <;> cases c.testBit i <;> cases d.testBit i <;> rfl
theorem step_xor (w P r s : Nat) (c d : Bool) : stepB w P (r ^^^ s) (c ^^ d) = stepB w P r c ^^^ stepB w P s d := by
  unfold stepB
  rw [dbl_xor, Nat.testBit_xor, show ((r.testBit (w - 1) ^^ s.testBit (w - 1)) != (c ^^ d)) = ((r.testBit (w - 1) != c) ^^ (s.testBit (w - 1) != d)) by cases r.testBit (w - 1) <;> cases s.testBit (w - 1) <;> cases c <;> cases d <;> rfl, sel_xor, xor4]
/-- n bits of 0. -/
def noB (w P : Nat) : Nat → Nat → Nat
  | 0, r => r
  | n + 1, r => noB w P n (stepB w P r false)
theorem no_lt {w P : Nat} (hP : P < 2 ^ w) : ∀ (n r : Nat), r < 2 ^ w → noB w P n r < 2 ^ w
  | 0, r, h => h
  | n + 1, r, h => no_lt hP n _ (step_lt hP)
theorem no_add (w P : Nat) : ∀ (m n r : Nat), noB w P (m + n) r = noB w P n (noB w P m r)
  | 0, n, r => by rw [Nat.zero_add]; rfl
  | m + 1, n, r => by rw [Nat.add_right_comm]; exact no_add w P m n _
theorem no_succ (w P n r : Nat) : noB w P (n + 1) r = stepB w P (noB w P n r) false := no_add w P n 1 r
theorem no_xor (w P : Nat) : ∀ (n r s : Nat), noB w P n (r ^^^ s) = noB w P n r ^^^ noB w P n s
  | 0, r, s => rfl
  | n + 1, r, s => by
    have h := step_xor w P r s false false
    show noB w P n (stepB w P (r ^^^ s) false) = _
    rw [show stepB w P (r ^^^ s) false = stepB w P r false ^^^ stepB w P s false from h, no_xor w P n]; rfl
theorem step_zero (w P : Nat) : stepB w P 0 false = 0 := by simp [stepB, sel]
theorem no_zero (w P : Nat) : ∀ n, noB w P n 0 = 0
  | 0 => rfl
  | n + 1 => by show noB w P n (stepB w P 0 false) = 0; rw [step_zero]; exact no_zero w P n
theorem lt_of_bits {v w : Nat} (h : ∀ i, w ≤ i → v.testBit i = false) : v < 2 ^ w := Nat.lt_pow_two_of_testBit v h
theorem testBit_ge {v w i : Nat} (h : v < 2 ^ w) (hi : w ≤ i) : v.testBit i = false := Nat.testBit_lt_two_pow (Nat.lt_of_lt_of_le h (Nat.pow_le_pow_right (by omega) hi))
/-- The product of a and b, k bits of b being done, the highest first. -/
def timesTo (w P a b : Nat) : Nat → Nat
  | 0 => 0
  | k + 1 => stepB w P (timesTo w P a b k) false ^^^ sel (b.testBit (w - 1 - k)) a
def timesB (w P a b : Nat) : Nat := timesTo w P a b w
theorem times_lt {w P a b : Nat} (hP : P < 2 ^ w) (ha : a < 2 ^ w) : ∀ k, timesTo w P a b k < 2 ^ w
  | 0 => Nat.two_pow_pos w
  | k + 1 => xor_lt (step_lt hP) (sel_lt ha)
def sumB (w P a b : Nat) : Nat → Nat
  | 0 => 0
  | k + 1 => sumB w P a b k ^^^ sel (b.testBit k) (noB w P k a)
theorem no_sel (w P n : Nat) (c : Bool) (a : Nat) : noB w P n (sel c a) = sel c (noB w P n a) := by cases c <;> simp [sel, no_zero]
theorem times_sum_at (w P a b : Nat) : ∀ (k n : Nat), n + k = w → noB w P n (timesTo w P a b k) ^^^ sumB w P a b n = sumB w P a b w
  | 0, n, h => by rw [timesTo, no_zero, Nat.zero_xor, show n = w by omega]
  | k + 1, n, h => by
    rw [timesTo, no_xor, no_sel, show w - 1 - k = n by omega, Nat.xor_assoc, Nat.xor_comm (sel _ _), ← times_sum_at w P a b k (n + 1) (by omega)]
    rfl
theorem times_sum (w P a b : Nat) : timesB w P a b = sumB w P a b w := by
  have := times_sum_at w P a b w 0 (by omega)
  simpa [timesB, noB, sumB] using this
theorem sum_xor (w P a c b : Nat) : ∀ k, sumB w P (a ^^^ c) b k = sumB w P a b k ^^^ sumB w P c b k
  | 0 => by simp [sumB]
  | k + 1 => by
    rw [sumB, sumB, sumB, sum_xor w P a c b k, no_xor, show sel (b.testBit k) (noB w P k a ^^^ noB w P k c) = sel (b.testBit k) (noB w P k a) ^^^ sel (b.testBit k) (noB w P k c) by cases b.testBit k <;> simp [sel], xor4]
theorem no_swap (w P m n r : Nat) : noB w P m (noB w P n r) = noB w P n (noB w P m r) := by rw [← no_add, ← no_add, Nat.add_comm]
theorem sum_no (w P a b n : Nat) : ∀ k, sumB w P (noB w P n a) b k = noB w P n (sumB w P a b k)
  | 0 => by rw [sumB, sumB, no_zero]
  | k + 1 => by rw [sumB, sumB, sum_no w P a b n k, no_xor, no_sel, no_swap]
theorem sum_zero (w P b : Nat) : ∀ k, sumB w P 0 b k = 0
  | 0 => rfl
  | k + 1 => by rw [sumB, sum_zero w P b k, no_zero]; cases b.testBit k <;> simp [sel]
theorem sum_sel (w P a b : Nat) (c : Bool) (k : Nat) : sumB w P (sel c a) b k = sel c (sumB w P a b k) := by cases c <;> simp [sel, sum_zero]
theorem sum_sum (w P a b c n : Nat) : ∀ k, sumB w P (sumB w P c a k) b n = sumB w P (sumB w P c b n) a k
  | 0 => by rw [sumB, sum_zero, sumB]
  | k + 1 => by rw [sumB, sum_xor, sum_sum w P a b c n k, sum_sel, sum_no, sumB]
theorem no_one {w P : Nat} : ∀ k, k < w → noB w P k 1 = 2 ^ k
  | 0, h => rfl
  | k + 1, h => by
    rw [no_succ, no_one k (by omega), stepB, Nat.testBit_two_pow, decide_eq_false (by omega), ← Nat.pow_succ', Nat.mod_eq_of_lt (Nat.pow_lt_pow_right (by omega) h)]
    simp [sel]
theorem mod_succ_bit (b k : Nat) : b % 2 ^ k ^^^ sel (b.testBit k) (2 ^ k) = b % 2 ^ (k + 1) := by
  apply Nat.eq_of_testBit_eq; intro i
  have hs : (sel (b.testBit k) (2 ^ k)).testBit i = (b.testBit k && decide (k = i)) := by cases b.testBit k <;> simp [sel, Nat.testBit_two_pow]
  rw [Nat.testBit_xor, Nat.testBit_mod_two_pow, Nat.testBit_mod_two_pow, hs]
  by_cases h : i < k
  · rw [decide_eq_true h, decide_eq_true (show i < k + 1 by omega), decide_eq_false (show ¬ k = i by omega)]; simp
  · by_cases h2 : k = i
    · subst h2; simp
    · rw [decide_eq_false h, decide_eq_false (show ¬ i < k + 1 by omega), decide_eq_false h2]; simp
theorem sum_one (w P b : Nat) : ∀ k, k ≤ w → sumB w P 1 b k = b % 2 ^ k
  | 0, _ => by rw [sumB, Nat.pow_zero, Nat.mod_one]
  | k + 1, h => by rw [sumB, sum_one w P b k (by omega), no_one k (by omega), mod_succ_bit]
theorem sum_comm {w P a b : Nat} (ha : a < 2 ^ w) (hb : b < 2 ^ w) : sumB w P a b w = sumB w P b a w := by
  have := sum_sum w P a b 1 w w
  rw [sum_one w P a w (Nat.le_refl _), sum_one w P b w (Nat.le_refl _), Nat.mod_eq_of_lt ha, Nat.mod_eq_of_lt hb] at this
  exact this

theorem pigeon : ∀ (n : Nat) (f : Nat → Nat), (∀ i, i ≤ n → f i < n) → ∃ i j, i < j ∧ j ≤ n ∧ f i = f j
  | 0, f, h => absurd (h 0 (Nat.le_refl _)) (Nat.not_lt_zero _)
  | n + 1, f, h => by
    by_cases hv : ∃ i, i ≤ n ∧ f i = f (n + 1)
    · obtain ⟨i, hi, he⟩ := hv
      exact ⟨i, n + 1, by omega, Nat.le_refl _, he⟩
    · have hne : ∀ i, i ≤ n → f i ≠ f (n + 1) := fun i hi he => hv ⟨i, hi, he⟩
      obtain ⟨i, j, hij, hj, he⟩ := pigeon n (fun i => if f i < f (n + 1) then f i else f i - 1) (fun i hi => by
        have h1 := h i (by omega)
        have h2 := h (n + 1) (Nat.le_refl _)
        have h3 := hne i hi
        show (if f i < f (n + 1) then f i else f i - 1) < n
        split <;> omega)
      refine ⟨i, j, hij, by omega, ?_⟩
      have h1 := hne i (by omega)
      have h2 := hne j hj
      skip
      split at he <;> split at he <;> omega

/-- The product of two bytes; P: the polynomial without its highest bit. -/
def bm (P : UInt8) (a b : UInt8) : UInt8 := UInt8.ofNat (timesB 8 P.toNat a.toNat b.toNat)
theorem u8_lt (a : UInt8) : a.toNat < 2 ^ 8 := a.toNat_lt
theorem bm_nat (P a b : UInt8) : (bm P a b).toNat = timesB 8 P.toNat a.toNat b.toNat := by
  rw [bm, UInt8.toNat_ofNat']
  exact Nat.mod_eq_of_lt (times_lt (u8_lt P) (u8_lt a) 8)
theorem bm_sum (P a b : UInt8) : (bm P a b).toNat = sumB 8 P.toNat a.toNat b.toNat 8 := by rw [bm_nat, times_sum]
theorem bm_comm (P a b : UInt8) : bm P a b = bm P b a := UInt8.toNat.inj (by rw [bm_sum, bm_sum, sum_comm (u8_lt a) (u8_lt b)])
theorem bm_right (P a b c : UInt8) : bm P (bm P c a) b = bm P (bm P c b) a := UInt8.toNat.inj (by rw [bm_sum, bm_sum, bm_sum, bm_sum, sum_sum])
theorem bm_assoc (P a b c : UInt8) : bm P (bm P a b) c = bm P a (bm P b c) := by rw [bm_comm P a b, bm_right, bm_comm P _ a]
theorem bm_xor (P a b c : UInt8) : bm P (a ^^^ b) c = bm P a c ^^^ bm P b c := UInt8.toNat.inj (by rw [bm_sum, UInt8.toNat_xor, UInt8.toNat_xor, bm_sum, bm_sum, sum_xor])
theorem bm_xor' (P a b c : UInt8) : bm P c (a ^^^ b) = bm P c a ^^^ bm P c b := by rw [bm_comm, bm_xor, bm_comm P a, bm_comm P b]
theorem one_bm (P a : UInt8) : bm P 1 a = a := UInt8.toNat.inj (by rw [bm_sum, show (1 : UInt8).toNat = 1 from rfl, sum_one 8 _ _ 8 (Nat.le_refl _), Nat.mod_eq_of_lt (u8_lt a)])
theorem bm_one (P a : UInt8) : bm P a 1 = a := by rw [bm_comm, one_bm]
theorem zero_bm (P a : UInt8) : bm P 0 a = 0 := UInt8.toNat.inj (by rw [bm_sum, show (0 : UInt8).toNat = 0 from rfl, sum_zero])
theorem bm_zero (P a : UInt8) : bm P a 0 = 0 := by rw [bm_comm, zero_bm]

/-- The n-th power of g. -/
def pw (P g : UInt8) : Nat → UInt8
  | 0 => 1
  | n + 1 => bm P (pw P g n) g
theorem pw_add (P g : UInt8) (m : Nat) : ∀ n, pw P g (m + n) = bm P (pw P g m) (pw P g n)
  | 0 => by rw [Nat.add_zero, pw, bm_one]
  | n + 1 => by rw [Nat.add_succ, pw, pw_add P g m n, bm_assoc]; rfl
theorem pw_mul (P g : UInt8) (m : Nat) : ∀ n, pw P (pw P g m) n = pw P g (m * n)
  | 0 => rfl
  | n + 1 => by rw [pw, pw_mul P g m n, Nat.mul_succ, pw_add]
theorem pw_one (P g : UInt8) : pw P g 1 = g := by rw [pw, pw, one_bm]
theorem one_pw (P : UInt8) : ∀ n, pw P 1 n = 1
  | 0 => rfl
  | n + 1 => by rw [pw, one_pw P n, bm_one]
theorem pw_prod (P a b : UInt8) : ∀ n, pw P (bm P a b) n = bm P (pw P a n) (pw P b n)
  | 0 => by rw [pw, pw, pw, bm_one]
  | n + 1 => by rw [pw, pw, pw, pw_prod P a b n, bm_assoc, bm_assoc, ← bm_assoc P (pw P b n), bm_comm P (pw P b n) a, bm_assoc P a]
theorem pw_stays (P g : UInt8) (n : Nat) (h : pw P g n = 0) : ∀ m, pw P g (n + m) = 0 := fun m => by rw [pw_add, h, zero_bm]

/-- The order: the least n above 0 and within f with pw n = 1. -/
def ordGo (P g : UInt8) : Nat → UInt8 → Nat → Nat
  | 0, _, _ => 0
  | f + 1, x, n => if bm P x g = 1 then n + 1 else ordGo P g f (bm P x g) (n + 1)
def ordS (P g : UInt8) : Nat := ordGo P g 255 1 0
theorem ordGo_spec (P g : UInt8) : ∀ f n, (ordGo P g f (pw P g n) n = 0 ∧ ∀ m, n < m → m ≤ n + f → pw P g m ≠ 1) ∨
    (n < ordGo P g f (pw P g n) n ∧ ordGo P g f (pw P g n) n ≤ n + f ∧ pw P g (ordGo P g f (pw P g n) n) = 1 ∧ ∀ m, n < m → m < ordGo P g f (pw P g n) n → pw P g m ≠ 1)
  | 0, n => .inl ⟨rfl, fun m h1 h2 => by omega⟩
  | f + 1, n => by
    unfold ordGo
    by_cases h : bm P (pw P g n) g = 1
    · rw [if_pos h]
      exact .inr ⟨by omega, by omega, h, fun m h1 h2 => by omega⟩
    · rw [if_neg h]
      have hn : ∀ m, m = n + 1 → pw P g m ≠ 1 := fun m hm => by subst hm; exact h
      rcases ordGo_spec P g f (n + 1) with ⟨h1, h2⟩ | ⟨h1, h2, h3, h4⟩
      · refine .inl ⟨h1, fun m ha hb => ?_⟩
        by_cases hm : m = n + 1
        · exact hn m hm
        · exact h2 m (by omega) (by omega)
      · refine .inr ⟨by exact Nat.lt_trans (by omega) h1, Nat.le_trans h2 (by omega), h3, fun m ha hb => ?_⟩
        by_cases hm : m = n + 1
        · exact hn m hm
        · exact h4 m (by omega) hb
theorem ord_spec (P g : UInt8) : (ordS P g = 0 ∧ ∀ m, 0 < m → m ≤ 255 → pw P g m ≠ 1) ∨
    (0 < ordS P g ∧ ordS P g ≤ 255 ∧ pw P g (ordS P g) = 1 ∧ ∀ m, 0 < m → m < ordS P g → pw P g m ≠ 1) := by
  have := ordGo_spec P g 255 0
  simpa [ordS, pw] using this
theorem pw_none {P g : UInt8} {k : Nat} (hk : pw P g k = 1) : ∀ n, n ≤ k → pw P g n ≠ 0 := fun n hn h0 => by
  have := pw_stays P g n h0 (k - n)
  rw [show n + (k - n) = k by omega, hk] at this
  exact absurd this (by decide)
/-- Powers ahead of the order differ. -/
theorem pw_apart {P g : UInt8} {k : Nat} (hk : pw P g k = 1) (hm : ∀ m, 0 < m → m < k → pw P g m ≠ 1) {i j : Nat} (hij : i < j) (hj : j < k) : pw P g i ≠ pw P g j := fun he => by
  have h1 : pw P g (i + (k - j)) = pw P g (j + (k - j)) := by rw [pw_add, he, ← pw_add]
  rw [show j + (k - j) = k by omega, hk] at h1
  exact hm _ (by omega) (by omega) h1
/-- None has the order 256. -/
theorem ord_256 (P g : UInt8) : ordGo P g 256 1 0 = ordS P g := by
  rcases ordGo_spec P g 256 0 with ⟨h1, h2⟩ | ⟨h1, h2, h3, h4⟩
  · rcases ord_spec P g with ⟨h5, h6⟩ | ⟨h5, h6, h7, h8⟩
    · rw [h5]; exact h1
    · exact absurd h7 (h2 _ h5 (by omega))
  · simp only [pw] at h1 h2 h3 h4
    rcases ord_spec P g with ⟨h5, h6⟩ | ⟨h5, h6, h7, h8⟩
    · have e : ordGo P g 256 1 0 = 256 := by
        by_cases hq : ordGo P g 256 1 0 ≤ 255
        · exact absurd h3 (h6 _ h1 hq)
        · omega
      rw [e] at h3 h4
      obtain ⟨i, j, hij, hj, he⟩ := pigeon 255 (fun i => (pw P g i).toNat - 1) (fun i hi => by
        have h9 := pw_none h3 i (by omega)
        have := u8_lt (pw P g i)
        have : (pw P g i).toNat ≠ 0 := fun h0 => h9 (UInt8.toNat.inj h0)
        show (pw P g i).toNat - 1 < 255
        omega)
      have ha : ∀ i, i ≤ 255 → (pw P g i).toNat ≠ 0 := fun i hi h0 => pw_none h3 i (by omega) (UInt8.toNat.inj h0)
      have ha1 := ha i (by omega)
      have ha2 := ha j hj
      exact absurd (UInt8.toNat.inj (show (pw P g i).toNat = (pw P g j).toNat by omega)) (pw_apart h3 h4 hij (by omega))
    · have ha : ¬ ordGo P g 256 1 0 < ordS P g := fun h => h8 _ h1 h h3
      have hb : ¬ ordS P g < ordGo P g 256 1 0 := fun h => h4 _ h5 h h7
      omega
/-- Where the order is 255, each but 0 is a power. -/
theorem pw_all {P g : UInt8} (h : ordS P g = 255) {a : UInt8} (ha : a ≠ 0) : ∃ n, n < 255 ∧ pw P g n = a := by
  rcases ord_spec P g with ⟨h5, h6⟩ | ⟨h5, h6, h7, h8⟩
  · omega
  · rw [h] at h7 h8
    apply Classical.byContradiction
    intro hno
    have hne : ∀ n, n < 255 → (pw P g n).toNat ≠ a.toNat := fun n hn he => hno ⟨n, hn, UInt8.toNat.inj he⟩
    have hnz : ∀ n, n < 255 → (pw P g n).toNat ≠ 0 := fun n hn h0 => pw_none h7 n (by omega) (UInt8.toNat.inj h0)
    have haz : a.toNat ≠ 0 := fun h0 => ha (UInt8.toNat.inj h0)
    have hal := u8_lt a
    obtain ⟨i, j, hij, hj, he⟩ := pigeon 254 (fun i => if (pw P g i).toNat < a.toNat then (pw P g i).toNat - 1 else (pw P g i).toNat - 2) (fun i hi => by
      have h1 := hne i (by omega)
      have h2 := hnz i (by omega)
      have h3 := u8_lt (pw P g i)
      show (if (pw P g i).toNat < a.toNat then (pw P g i).toNat - 1 else (pw P g i).toNat - 2) < 254
      split <;> omega)
    have h1 := hne i (by omega)
    have h2 := hnz i (by omega)
    have h3 := hne j (by omega)
    have h4 := hnz j (by omega)
    refine absurd (UInt8.toNat.inj (show (pw P g i).toNat = (pw P g j).toNat from ?_)) (pw_apart h7 h8 hij (by omega))
    skip
    split at he <;> split at he <;> omega
theorem pw_255 {P g : UInt8} (h : ordS P g = 255) : pw P g 255 = 1 := by
  rcases ord_spec P g with ⟨h5, h6⟩ | ⟨h5, h6, h7, h8⟩
  · omega
  · rw [h] at h7; exact h7
theorem pw_inj {P g : UInt8} (h : ordS P g = 255) {i j : Nat} (hi : i < 255) (hj : j < 255) (he : pw P g i = pw P g j) : i = j := by
  rcases ord_spec P g with ⟨h5, h6⟩ | ⟨h5, h6, h7, h8⟩
  · omega
  · rw [h] at h7 h8
    rcases Nat.lt_trichotomy i j with hlt | heq | hgt
    · exact absurd he (pw_apart h7 h8 hlt hj)
    · exact heq
    · exact absurd he.symm (pw_apart h7 h8 hgt hi)
theorem pw_mod {P g : UInt8} (h : ordS P g = 255) (n : Nat) : pw P g n = pw P g (n % 255) := by
  have e := Nat.div_add_mod n 255
  rw [← e, pw_add, ← pw_mul, pw_255 h, one_pw, one_bm, e]
theorem pw_ne {P g : UInt8} (h : ordS P g = 255) (n : Nat) : pw P g n ≠ 0 := by
  rw [pw_mod h]; exact pw_none (pw_255 h) _ (by have := Nat.mod_lt n (show 0 < 255 by omega); omega)
/-- The table of logarithms, k powers being put in. -/
def lgTo (P g : UInt8) : Nat → Nat → Nat
  | 0, _ => 0
  | k + 1, a => if a = (pw P g k).toNat then k else lgTo P g k a
def lg (P g : UInt8) (a : UInt8) : Nat := lgTo P g 255 a.toNat
theorem lgTo_lt (P g : UInt8) (a : Nat) : ∀ k, lgTo P g k a ≤ k - 1
  | 0 => Nat.le_refl _
  | k + 1 => by
    have := lgTo_lt P g a k
    unfold lgTo; split <;> omega
theorem lg_lt (P g a : UInt8) : lg P g a < 255 := by have := lgTo_lt P g a.toNat 255; unfold lg; omega
theorem lgTo_at {P g : UInt8} (h : ordS P g = 255) {n : Nat} : ∀ k, n < k → k ≤ 255 → lgTo P g k (pw P g n).toNat = n
  | 0, h1, _ => by omega
  | k + 1, h1, h2 => by
    unfold lgTo
    split
    · rename_i he
      exact (pw_inj h (by omega) (by omega) (UInt8.toNat.inj he)).symm
    · rename_i hne
      refine lgTo_at h k ?_ (by omega)
      rcases Nat.lt_or_ge n k with hlt | hge
      · exact hlt
      · have : n = k := by omega
        subst this; exact absurd rfl hne
theorem lg_pw {P g : UInt8} (h : ordS P g = 255) {n : Nat} (hn : n < 255) : lg P g (pw P g n) = n := lgTo_at h 255 hn (Nat.le_refl _)
theorem pw_lg {P g : UInt8} (h : ordS P g = 255) {a : UInt8} (ha : a ≠ 0) : pw P g (lg P g a) = a := by
  obtain ⟨n, hn, rfl⟩ := pw_all h ha
  rw [lg_pw h hn]
theorem lgTo_zero {P g : UInt8} (h : ordS P g = 255) : ∀ k, k ≤ 255 → lgTo P g k 0 = 0
  | 0, _ => rfl
  | k + 1, hk => by
    unfold lgTo
    rw [if_neg (fun he => pw_none (pw_255 h) k (by omega) (UInt8.toNat.inj he.symm)), lgTo_zero h k (by omega)]
theorem lg_zero {P g : UInt8} (h : ordS P g = 255) : lg P g 0 = 0 := lgTo_zero h 255 (Nat.le_refl _)
/-- The product by logarithms. -/
theorem mul_lg {P g : UInt8} (h : ordS P g = 255) {a b : UInt8} (ha : a ≠ 0) (hb : b ≠ 0) : pw P g ((lg P g a + lg P g b) % 255) = bm P a b := by
  rw [← pw_mod h, pw_add, pw_lg h ha, pw_lg h hb]
theorem bm_ne {P g : UInt8} (h : ordS P g = 255) {a b : UInt8} (ha : a ≠ 0) (hb : b ≠ 0) : bm P a b ≠ 0 := by
  rw [← mul_lg h ha hb]; exact pw_ne h _
theorem fermat {P g : UInt8} (h : ordS P g = 255) {a : UInt8} (ha : a ≠ 0) : pw P a 255 = 1 := by
  rw [← pw_lg h ha, pw_mul, Nat.mul_comm, ← pw_mul, pw_255 h, one_pw]
/-- The inverse. -/
def inv (P a : UInt8) : UInt8 := pw P a 254
theorem bm_inv {P g : UInt8} (h : ordS P g = 255) {a : UInt8} (ha : a ≠ 0) : bm P a (inv P a) = 1 := by
  rw [bm_comm]; exact fermat h ha
theorem inv_lg {P g : UInt8} (h : ordS P g = 255) {a : UInt8} (ha : a ≠ 0) : inv P a = pw P g ((255 - lg P g a) % 255) := by
  have hl := lg_lt P g a
  have h1 : bm P a (pw P g (255 - lg P g a)) = 1 := by
    have : bm P (pw P g (lg P g a)) (pw P g (255 - lg P g a)) = 1 := by rw [← pw_add, show lg P g a + (255 - lg P g a) = 255 by omega, pw_255 h]
    rwa [pw_lg h ha] at this
  rw [← pw_mod h]
  calc inv P a = bm P (inv P a) (bm P a (pw P g (255 - lg P g a))) := by rw [h1, bm_one]
    _ = bm P (bm P a (inv P a)) (pw P g (255 - lg P g a)) := by rw [← bm_assoc, bm_comm P (inv P a)]
    _ = _ := by rw [bm_inv h ha, one_bm]
/-- A quotient by logarithms; d: 255 more than the difference, so that none is below 0. -/
theorem div_lg {P g : UInt8} (h : ordS P g = 255) {a b : UInt8} (ha : a ≠ 0) (hb : b ≠ 0) : pw P g ((lg P g a + 255 - lg P g b) % 255) = bm P a (inv P b) := by
  have hl := lg_lt P g b
  rw [inv_lg h hb, ← pw_mod h, ← pw_mod h, show lg P g a + 255 - lg P g b = lg P g a + (255 - lg P g b) by omega, pw_add, pw_lg h ha]
theorem pow_lg {P g : UInt8} (h : ordS P g = 255) {a : UInt8} (ha : a ≠ 0) (n : Nat) : pw P g ((lg P g a * n) % 255) = pw P a n := by
  rw [← pw_mod h, ← pw_mul, pw_lg h ha]
end Go.Proofs.Ytdpkeffkpecmjaa
