/- Plain facts of words that bear a turned bit. -/
import Derived.ProofKit
namespace Go.Proofs.Ytjnfnihhihncmaa
set_option linter.unusedVariables false

/- how many check bits stand ahead of data bit i -/
def lkS (i : Nat) : Nat := if i < 1 then 2 else if i < 4 then 3 else if i < 11 then 4 else if i < 26 then 5 else if i < 57 then 6 else 7
/- the position of data bit i -/
def posS (i : Nat) : Nat := i + 1 + lkS i
theorem pos_found : ∀ i < 64, ∀ k < 8, i + 1 + k < 2 ^ k → (∀ j < k, 2 ^ j ≤ i + 1 + j) → i + 1 + k = posS i := by decide +kernel
theorem pos_lt : ∀ i < 64, posS i < 128 := by decide +kernel

/- the exclusive or of the positions of the bits of d that are set, below n -/
def pxTo (d : Nat) : Nat → Nat
  | 0 => 0
  | n + 1 => pxTo d n ^^^ (if d.testBit n then posS n else 0)
/- the ones of d below n -/
def onTo (d : Nat) : Nat → Nat
  | 0 => 0
  | n + 1 => onTo d n + (d.testBit n).toNat

/- the widths, and their check bits -/
def Wid (w r : Nat) : Prop := (w = 8 ∧ r = 4) ∨ (w = 16 ∧ r = 5) ∨ (w = 32 ∧ r = 6) ∨ (w = 64 ∧ r = 7)
theorem Wid.le {w r : Nat} (h : Wid w r) : w ≤ 64 ∧ r ≤ 7 ∧ 4 ≤ r ∧ 8 ≤ w := by rcases h with ⟨rfl, rfl⟩ | ⟨rfl, rfl⟩ | ⟨rfl, rfl⟩ | ⟨rfl, rfl⟩ <;> decide
theorem Wid.pos {w r : Nat} (h : Wid w r) (i : Nat) (hi : i < w) : posS i < 2 ^ r := by
  rcases h with ⟨rfl, rfl⟩ | ⟨rfl, rfl⟩ | ⟨rfl, rfl⟩ | ⟨rfl, rfl⟩
  · exact (by decide +kernel : ∀ i < 8, posS i < 2 ^ 4) i hi
  · exact (by decide +kernel : ∀ i < 16, posS i < 2 ^ 5) i hi
  · exact (by decide +kernel : ∀ i < 32, posS i < 2 ^ 6) i hi
  · exact (by decide +kernel : ∀ i < 64, posS i < 2 ^ 7) i hi
theorem Wid.px {w r : Nat} (h : Wid w r) (d : Nat) : ∀ n ≤ w, pxTo d n < 2 ^ r
  | 0, _ => Nat.two_pow_pos r
  | n + 1, hn => by
    refine Nat.xor_lt_two_pow (Wid.px h d n (by omega)) ?_
    by_cases hb : d.testBit n
    · rw [if_pos hb]; exact h.pos n (by omega)
    · rw [if_neg hb]; exact Nat.two_pow_pos r
theorem px_lt128 (d : Nat) : ∀ n ≤ 64, pxTo d n < 128 := fun n hn => Wid.px (w := 64) (r := 7) (Or.inr (Or.inr (Or.inr ⟨rfl, rfl⟩))) d n hn

theorem xor_swap4 (a b c d : Nat) : (a ^^^ b) ^^^ (c ^^^ d) = (a ^^^ c) ^^^ (b ^^^ d) := by
  rw [Nat.xor_assoc, ← Nat.xor_assoc b c d, Nat.xor_comm b c, Nat.xor_assoc c b d, ← Nat.xor_assoc]
theorem px_xor (x y : Nat) : ∀ n, pxTo (x ^^^ y) n = pxTo x n ^^^ pxTo y n
  | 0 => (Nat.xor_self 0).symm
  | n + 1 => by
    show pxTo (x ^^^ y) n ^^^ _ = (pxTo x n ^^^ _) ^^^ (pxTo y n ^^^ _)
    rw [px_xor x y n, xor_swap4, Nat.testBit_xor]
    congr 1
    cases x.testBit n <;> cases y.testBit n <;> simp
theorem on_xor (x y : Nat) : ∀ n, onTo (x ^^^ y) n % 2 = (onTo x n + onTo y n) % 2
  | 0 => rfl
  | n + 1 => by
    have h := on_xor x y n
    show (onTo (x ^^^ y) n + ((x ^^^ y).testBit n).toNat) % 2 = ((onTo x n + (x.testBit n).toNat) + (onTo y n + (y.testBit n).toNat)) % 2
    rw [Nat.testBit_xor]
    cases x.testBit n <;> cases y.testBit n <;> simp <;> omega
theorem px_pow (a : Nat) : ∀ n, pxTo (2 ^ a) n = if a < n then posS a else 0
  | 0 => rfl
  | n + 1 => by
    show pxTo (2 ^ a) n ^^^ _ = _
    rw [px_pow a n, Nat.testBit_two_pow]
    by_cases h1 : a < n
    · rw [if_pos h1, if_pos (show a < n + 1 by omega), if_neg (by simp; omega), Nat.xor_zero]
    · by_cases h2 : a = n
      · subst h2; simp
      · rw [if_neg h1, if_neg (show ¬ a < n + 1 by omega), if_neg (by simp; omega), Nat.xor_zero]
theorem on_pow (a : Nat) : ∀ n, onTo (2 ^ a) n = if a < n then 1 else 0
  | 0 => rfl
  | n + 1 => by
    show onTo (2 ^ a) n + _ = _
    rw [on_pow a n, Nat.testBit_two_pow]
    by_cases h1 : a < n
    · rw [if_pos h1, if_pos (show a < n + 1 by omega)]; simp; omega
    · by_cases h2 : a = n
      · subst h2; simp
      · rw [if_neg h1, if_neg (show ¬ a < n + 1 by omega)]; simp; omega
theorem on_add (d m : Nat) : ∀ n, onTo d (m + n) = onTo d m + onTo (d / 2 ^ m) n
  | 0 => rfl
  | n + 1 => by
    show onTo d (m + n) + _ = onTo d m + (onTo (d / 2 ^ m) n + _)
    rw [on_add d m n, Nat.testBit_div_two_pow, Nat.add_comm n m, Nat.add_assoc]; rfl
theorem on_mod (d m : Nat) : ∀ n ≤ m, onTo (d % 2 ^ m) n = onTo d n
  | 0, _ => rfl
  | n + 1, hn => by
    show onTo (d % 2 ^ m) n + _ = onTo d n + _
    rw [on_mod d m n (by omega), Nat.testBit_mod_two_pow, decide_eq_true (show n < m by omega), Bool.true_and]
theorem on_zero : ∀ n, onTo 0 n = 0
  | 0 => rfl
  | n + 1 => by show onTo 0 n + _ = 0; rw [on_zero n]; simp
theorem px_zero : ∀ n, pxTo 0 n = 0
  | 0 => rfl
  | n + 1 => by show pxTo 0 n ^^^ _ = 0; rw [px_zero n]; simp
theorem on_small (d m : Nat) (h : d < 2 ^ m) (n : Nat) (hn : m ≤ n) : onTo d n = onTo d m := by
  obtain ⟨k, rfl⟩ : ∃ k, n = m + k := ⟨n - m, by omega⟩
  rw [on_add, Nat.div_eq_of_lt h, on_zero]; rfl
theorem on_le (d : Nat) : ∀ n, onTo d n ≤ n
  | 0 => Nat.le_refl 0
  | n + 1 => by
    show onTo d n + (d.testBit n).toNat ≤ n + 1
    have := on_le d n
    have := Bool.toNat_le (d.testBit n)
    omega

/- the parity of all bits of both -/
def parS (d c : Nat) : Nat := (onTo d 64 + onTo c 8) % 2
theorem par_lt (d c : Nat) : parS d c < 2 := Nat.mod_lt _ (by decide)
theorem par_two (d c : Nat) : parS d c = 0 ∨ parS d c = 1 := by have := par_lt d c; omega
/- the check byte of data d -/
def encS (w r d : Nat) : Nat := pxTo d w ^^^ parS d (pxTo d w) * 2 ^ r
theorem or_is_xor : ∀ r < 8, ∀ c < 128, c < 2 ^ r → c ||| 2 ^ r = c ^^^ 2 ^ r ∧ c ||| 0 = c ∧ c ^^^ 2 ^ r < 2 ^ (r + 1) ∧ (c ^^^ 2 ^ r) % 2 ^ r = c ∧ onTo (c ^^^ 2 ^ r) 8 = onTo c 8 + 1 := by decide +kernel
theorem enc_or {w r : Nat} (h : Wid w r) (d : Nat) : pxTo d w ||| parS d (pxTo d w) * 2 ^ r = encS w r d := by
  have hp := Wid.px h d w (Nat.le_refl _)
  have h7 := px_lt128 d w h.le.1
  unfold encS
  rcases par_two d (pxTo d w) with hz | hz <;> rw [hz]
  · simp
  · rw [Nat.one_mul]; exact (or_is_xor r (by have := h.le; omega) _ h7 hp).1
theorem enc_lt {w r : Nat} (h : Wid w r) (d : Nat) : encS w r d < 2 ^ (r + 1) := by
  have hp := Wid.px h d w (Nat.le_refl _)
  have h7 := px_lt128 d w h.le.1
  unfold encS
  rcases par_two d (pxTo d w) with hz | hz <;> rw [hz]
  · simp; rw [Nat.pow_succ]; omega
  · rw [Nat.one_mul]; exact (or_is_xor r (by have := h.le; omega) _ h7 hp).2.2.1
theorem enc_low {w r : Nat} (h : Wid w r) (d : Nat) : encS w r d % 2 ^ r = pxTo d w := by
  have hp := Wid.px h d w (Nat.le_refl _)
  have h7 := px_lt128 d w h.le.1
  unfold encS
  rcases par_two d (pxTo d w) with hz | hz <;> rw [hz]
  · simp; exact Nat.mod_eq_of_lt hp
  · rw [Nat.one_mul]; exact (or_is_xor r (by have := h.le; omega) _ h7 hp).2.2.2.1
theorem enc_on {w r : Nat} (h : Wid w r) (d : Nat) : onTo (encS w r d) 8 = onTo (pxTo d w) 8 + parS d (pxTo d w) := by
  have hp := Wid.px h d w (Nat.le_refl _)
  have h7 := px_lt128 d w h.le.1
  unfold encS
  rcases par_two d (pxTo d w) with hz | hz <;> rw [hz]
  · simp
  · rw [Nat.one_mul]; exact (or_is_xor r (by have := h.le; omega) _ h7 hp).2.2.2.2
theorem enc_par {w r : Nat} (h : Wid w r) (d : Nat) : parS d (encS w r d) = 0 := by
  have h1 := enc_on h d
  unfold parS at *
  rw [h1]
  omega
/- the syndrome -/
def synS (w r d c : Nat) : Nat := pxTo d w ^^^ c % 2 ^ r
theorem enc_syn {w r : Nat} (h : Wid w r) (d : Nat) : synS w r d (encS w r d) = 0 := by
  unfold synS
  rw [enc_low h, Nat.xor_self]
theorem syn_lt {w r : Nat} (h : Wid w r) (d c : Nat) : synS w r d c < 2 ^ r := Nat.xor_lt_two_pow (Wid.px h d w (Nat.le_refl _)) (Nat.mod_lt _ (Nat.two_pow_pos r))
theorem enc_xor {w r : Nat} (h : Wid w r) (x y : Nat) : encS w r (x ^^^ y) = encS w r x ^^^ encS w r y := by
  unfold encS
  rw [xor_swap4, ← px_xor]
  congr 1
  have hp : parS (x ^^^ y) (pxTo (x ^^^ y) w) = (parS x (pxTo x w) + parS y (pxTo y w)) % 2 := by
    have h1 := on_xor x y 64
    have h2 := on_xor (pxTo x w) (pxTo y w) 8
    rw [← px_xor] at h2
    unfold parS
    omega
  rw [hp]
  rcases par_two x (pxTo x w) with h1 | h1 <;> rcases par_two y (pxTo y w) with h2 | h2 <;> rw [h1, h2] <;> simp

/- where a word's bit a stands: the position of a data bit, of a check bit, and nothing for the parity bit -/
def patS (w r a : Nat) : Nat := if a < w then posS a else if a < w + r then 2 ^ (a - w) else 0
def patOk (w r : Nat) : Prop := (∀ a ≤ w + r, ∀ b ≤ w + r, patS w r a = patS w r b → a = b) ∧ (∀ a ≤ w + r, patS w r a < 2 ^ r)
instance (w r : Nat) : Decidable (patOk w r) := by unfold patOk; infer_instance
theorem pat_ok {w r : Nat} (h : Wid w r) : patOk w r := by
  rcases h with ⟨rfl, rfl⟩ | ⟨rfl, rfl⟩ | ⟨rfl, rfl⟩ | ⟨rfl, rfl⟩ <;> decide +kernel
/- a turned bit -/
def turD (w d a : Nat) : Nat := if a < w then d ^^^ 2 ^ a else d
def turC (w c a : Nat) : Nat := if a < w then c else c ^^^ 2 ^ (a - w)
theorem mod_turn : ∀ r < 8, ∀ j ≤ r, ∀ c < 256, c < 2 ^ (r + 1) → (c ^^^ 2 ^ j) % 2 ^ r = c % 2 ^ r ^^^ (if j < r then 2 ^ j else 0) ∧ c ^^^ 2 ^ j < 2 ^ (r + 1) := by decide +kernel
theorem tur_lt {w r : Nat} (h : Wid w r) (d c a : Nat) (hd : d < 2 ^ w) (hc : c < 2 ^ (r + 1)) (ha : a ≤ w + r) : turD w d a < 2 ^ w ∧ turC w c a < 2 ^ (r + 1) := by
  have hr := h.le
  have h9 : 2 ^ (r + 1) ≤ 2 ^ 8 := Nat.pow_le_pow_right (by decide) (by omega)
  unfold turD turC
  by_cases h1 : a < w
  · rw [if_pos h1, if_pos h1]
    exact ⟨Nat.xor_lt_two_pow hd (Nat.pow_lt_pow_right (by decide) h1), hc⟩
  · rw [if_neg h1, if_neg h1]
    exact ⟨hd, (mod_turn r (by omega) (a - w) (by omega) c (by omega) hc).2⟩
theorem tur_syn {w r : Nat} (h : Wid w r) (d c a : Nat) (hc : c < 2 ^ (r + 1)) (ha : a ≤ w + r) : synS w r (turD w d a) (turC w c a) = synS w r d c ^^^ patS w r a := by
  have hr := h.le
  have h9 : 2 ^ (r + 1) ≤ 2 ^ 8 := Nat.pow_le_pow_right (by decide) (by omega)
  unfold synS turD turC patS
  by_cases h1 : a < w
  · rw [if_pos h1, if_pos h1, if_pos h1, px_xor, px_pow, if_pos h1, Nat.xor_assoc, Nat.xor_comm (posS a), ← Nat.xor_assoc]
  · rw [if_neg h1, if_neg h1, if_neg h1, (mod_turn r (by omega) (a - w) (by omega) c (by omega) hc).1, ← Nat.xor_assoc]
    congr 1
    by_cases h2 : a < w + r
    · rw [if_pos h2, if_pos (by omega)]
    · rw [if_neg h2, if_neg (by omega)]
theorem tur_par {w r : Nat} (h : Wid w r) (d c a : Nat) (ha : a ≤ w + r) : parS (turD w d a) (turC w c a) = (parS d c + 1) % 2 := by
  have hr := h.le
  unfold turD turC parS
  by_cases h1 : a < w
  · rw [if_pos h1, if_pos h1]
    have := on_xor d (2 ^ a) 64
    rw [on_pow, if_pos (by omega)] at this
    omega
  · rw [if_neg h1, if_neg h1]
    have := on_xor c (2 ^ (a - w)) 8
    rw [on_pow, if_pos (by omega)] at this
    omega

/- few ones -/
theorem px_few (d : Nat) : ∀ n, (onTo d n = 0 → pxTo d n = 0) ∧ (onTo d n = 1 → ∃ k, k < n ∧ pxTo d n = posS k) ∧ (onTo d n = 2 → ∃ j k, j < k ∧ k < n ∧ pxTo d n = posS j ^^^ posS k)
  | 0 => ⟨fun _ => rfl, fun h => absurd (show (0 : Nat) = 1 from h) (by decide), fun h => absurd (show (0 : Nat) = 2 from h) (by decide)⟩
  | n + 1 => by
    obtain ⟨h0, h1, h2⟩ := px_few d n
    have hp : pxTo d (n + 1) = pxTo d n ^^^ (if d.testBit n then posS n else 0) := rfl
    have ho : onTo d (n + 1) = onTo d n + (d.testBit n).toNat := rfl
    rw [hp, ho]
    cases d.testBit n
    · simp only [Bool.false_eq_true, if_false, Nat.xor_zero, Bool.toNat_false, Nat.add_zero]
      refine ⟨h0, fun h => ?_, fun h => ?_⟩
      · obtain ⟨k, hk, e⟩ := h1 h; exact ⟨k, by omega, e⟩
      · obtain ⟨j, k, hj, hk, e⟩ := h2 h; exact ⟨j, k, hj, by omega, e⟩
    · simp only [if_true, Bool.toNat_true]
      refine ⟨fun h => by omega, fun h => ⟨n, by omega, by rw [h0 (by omega), Nat.zero_xor]⟩, fun h => ?_⟩
      obtain ⟨k, hk, e⟩ := h1 (by omega)
      exact ⟨k, n, hk, by omega, by rw [e]⟩
theorem pos_ones : ∀ k < 64, 2 ≤ onTo (posS k) 8 := by decide +kernel
theorem pos_two : ∀ j < 64, ∀ k < 64, j < k → 1 ≤ onTo (posS j ^^^ posS k) 8 := by decide +kernel
theorem on_none (d : Nat) : ∀ n, d < 2 ^ n → onTo d n = 0 → d = 0 := fun n hd h => by
  apply Nat.eq_of_testBit_eq
  intro i
  rw [Nat.zero_testBit]
  by_cases hi : i < n
  · have : ∀ m, m ≤ n → i < m → onTo d m ≤ onTo d n := fun m hm _ => by
      obtain ⟨k, rfl⟩ : ∃ k, n = m + k := ⟨n - m, by omega⟩
      rw [on_add]; omega
    have h1 := this (i + 1) (by omega) (by omega)
    have h2 : onTo d (i + 1) = onTo d i + (d.testBit i).toNat := rfl
    cases hb : d.testBit i
    · rfl
    · rw [hb] at h2; simp at h2; omega
  · exact Nat.testBit_lt_two_pow (Nat.lt_of_lt_of_le hd (Nat.pow_le_pow_right (by decide) (by omega)))
theorem far_apart {w r : Nat} (h : Wid w r) (d : Nat) (hd : d < 2 ^ w) (h0 : d ≠ 0) : 4 ≤ onTo d 64 + onTo (encS w r d) 8 := by
  have hw := h.le
  have h1 := enc_on h d
  have h64 : onTo d 64 = onTo d w := on_small d w hd 64 hw.1
  have hn := mt (on_none d w hd) h0
  have hp : parS d (pxTo d w) = (onTo d 64 + onTo (pxTo d w) 8) % 2 := rfl
  obtain ⟨_, f1, f2⟩ := px_few d w
  by_cases e1 : onTo d w = 1
  · obtain ⟨k, hk, e⟩ := f1 e1
    have := pos_ones k (by omega)
    rw [← e] at this
    omega
  · by_cases e2 : onTo d w = 2
    · obtain ⟨j, k, hj, hk, e⟩ := f2 e2
      have := pos_two j (by omega) k (by omega) hj
      rw [← e] at this
      omega
    · clear f1 f2
      omega
end Go.Proofs.Ytjnfnihhihncmaa
