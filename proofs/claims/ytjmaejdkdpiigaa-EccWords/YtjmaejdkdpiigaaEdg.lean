/- Plain facts of check digits. -/
import Derived.ProofKit
namespace Go.Proofs.Ytjmaejdkdpiigaa
set_option linter.unusedVariables false

/- a pentagon's turns -/
def prS (a b : Nat) : Nat := if a < 5 then (if b < 5 then (a + b) % 5 else 5 + (a + b) % 5) else (if b < 5 then 5 + (a - b) % 5 else (a + 5 - b) % 5)
theorem pr_lt : ∀ a < 10, ∀ b < 10, prS a b < 10 := by decide +kernel
theorem pr_assoc : ∀ a < 10, ∀ b < 10, ∀ c < 10, prS (prS a b) c = prS a (prS b c) := by decide +kernel
theorem pr_zero : ∀ a < 10, prS a 0 = a ∧ prS 0 a = a := by decide +kernel
/- the inverse -/
def ivS (a : Nat) : Nat := if a < 5 then (5 - a) % 5 else a
theorem iv_ok : ∀ a < 10, ivS a < 10 ∧ prS a (ivS a) = 0 ∧ prS (ivS a) a = 0 := by decide +kernel
theorem iv_one : ∀ a < 10, ∀ b < 10, prS a b = 0 → b = ivS a := by decide +kernel
theorem iv_left : ∀ a < 10, ∀ b < 10, prS b a = 0 → b = ivS a := by decide +kernel
theorem pr_left : ∀ a < 10, ∀ b < 10, ∀ c < 10, prS a b = prS a c → b = c := by decide +kernel
theorem pr_right : ∀ a < 10, ∀ b < 10, ∀ c < 10, prS b a = prS c a → b = c := by decide +kernel
/- the permutation -/
def snS (d : Nat) : Nat := [1, 5, 7, 6, 2, 8, 3, 0, 9, 4].getD d 0
def peS : Nat → Nat → Nat
  | 0, d => d
  | k + 1, d => snS (peS k d)
theorem sn_lt : ∀ d < 10, snS d < 10 := by decide +kernel
theorem pe_lt : ∀ k d, d < 10 → peS k d < 10
  | 0, d, h => h
  | k + 1, d, h => sn_lt _ (pe_lt k d h)
theorem pe_one : ∀ k < 8, ∀ a < 10, ∀ b < 10, peS k a = peS k b → a = b := by decide +kernel
theorem pe_swap : ∀ k < 8, ∀ a < 10, ∀ b < 10, prS (peS k a) (peS ((k + 1) % 8) b) = prS (peS k b) (peS ((k + 1) % 8) a) → a = b := by decide +kernel
/- the product of digits, from the right, behind which b others are to come -/
def veTo (g : Nat → Nat) (b : Nat) : Nat → Nat
  | 0 => 0
  | n + 1 => prS (veTo g b n) (peS ((n + b) % 8) (g n))
def Dgs (g : Nat → Nat) : Prop := ∀ i, g i < 10
theorem ve_lt {g : Nat → Nat} (h : Dgs g) (b : Nat) : ∀ n, veTo g b n < 10
  | 0 => (by decide : 0 < 10)
  | n + 1 => pr_lt _ (ve_lt h b n) _ (pe_lt _ _ (h n))
theorem ve_ext {g f : Nat → Nat} (b : Nat) : ∀ n, (∀ i < n, g i = f i) → veTo g b n = veTo f b n
  | 0, _ => rfl
  | n + 1, h => by
    show prS (veTo g b n) _ = prS (veTo f b n) _
    rw [ve_ext b n (fun i hi => h i (by omega)), h n (by omega)]
theorem ve_next {g f : Nat → Nat} (hg : Dgs g) (hf : Dgs f) (h : ∀ i, f (i + 1) = g i) : ∀ n, veTo f 0 (n + 1) = prS (f 0) (veTo g 1 n)
  | 0 => by
    show prS 0 (f 0) = prS (f 0) 0
    rw [(pr_zero _ (hf 0)).1, (pr_zero _ (hf 0)).2]
  | n + 1 => by
    show prS (veTo f 0 (n + 1)) (peS ((n + 1 + 0) % 8) (f (n + 1))) = prS (f 0) (prS (veTo g 1 n) (peS ((n + 1) % 8) (g n)))
    rw [ve_next hg hf h n, pr_assoc _ (hf 0) _ (ve_lt hg 1 n) _ (pe_lt _ _ (hf (n + 1))), h n]
/- one digit changed -/
theorem ve_change {g f : Nat → Nat} (hg : Dgs g) (hf : Dgs f) (b k : Nat) (h : ∀ i, i ≠ k → f i = g i) : ∀ n, k < n → veTo f b n = veTo g b n → f k = g k
  | 0, hk, _ => by omega
  | n + 1, hk, e => by
    have e' : prS (veTo f b n) (peS ((n + b) % 8) (f n)) = prS (veTo g b n) (peS ((n + b) % 8) (g n)) := e
    by_cases hn : k = n
    · subst hn
      rw [ve_ext b k (f := g) (fun i hi => h i (by omega))] at e'
      exact pe_one _ (Nat.mod_lt _ (by decide)) _ (hf k) _ (hg k) (pr_left _ (ve_lt hg b k) _ (pe_lt _ _ (hf k)) _ (pe_lt _ _ (hg k)) e')
    · rw [h n (fun e => hn e.symm)] at e'
      exact ve_change hg hf b k h n (by omega) (pr_right _ (pe_lt _ _ (hg n)) _ (ve_lt hf b n) _ (ve_lt hg b n) e')
/- two neighbours exchanged -/
theorem ve_swap {g f : Nat → Nat} (hg : Dgs g) (hf : Dgs f) (b k : Nat) (h : ∀ i, i ≠ k → i ≠ k + 1 → f i = g i) (h1 : f k = g (k + 1)) (h2 : f (k + 1) = g k) : ∀ n, k + 1 < n → veTo f b n = veTo g b n → g k = g (k + 1)
  | 0, hk, _ => by omega
  | n + 1, hk, e => by
    have e' : prS (veTo f b n) (peS ((n + b) % 8) (f n)) = prS (veTo g b n) (peS ((n + b) % 8) (g n)) := e
    by_cases hn : k + 1 = n
    · subst hn
      have e1 : veTo f b (k + 1) = prS (veTo g b k) (peS ((k + b) % 8) (f k)) := by
        rw [← ve_ext b k (fun i hi => h i (by omega) (by omega))]; rfl
      have e2 : veTo g b (k + 1) = prS (veTo g b k) (peS ((k + b) % 8) (g k)) := rfl
      rw [e1, e2, pr_assoc _ (ve_lt hg b k) _ (pe_lt _ _ (hf k)) _ (pe_lt _ _ (hf (k + 1))), pr_assoc _ (ve_lt hg b k) _ (pe_lt _ _ (hg k)) _ (pe_lt _ _ (hg (k + 1)))] at e'
      have e3 := pr_left _ (ve_lt hg b k) _ (pr_lt _ (pe_lt _ _ (hf k)) _ (pe_lt _ _ (hf (k + 1)))) _ (pr_lt _ (pe_lt _ _ (hg k)) _ (pe_lt _ _ (hg (k + 1)))) e'
      rw [h1, h2, show (k + 1 + b) % 8 = ((k + b) % 8 + 1) % 8 by omega] at e3
      exact (pe_swap _ (Nat.mod_lt _ (by decide)) _ (hg (k + 1)) _ (hg k) e3).symm
    · rw [h n (by omega) (by omega)] at e'
      exact ve_swap hg hf b k h h1 h2 n (by omega) (pr_right _ (pe_lt _ _ (hg n)) _ (ve_lt hf b n) _ (ve_lt hg b n) e')

/- Luhn's sum -/
def luS (k d : Nat) : Nat := if k % 2 = 1 then d * 2 / 10 + d * 2 % 10 else d
theorem lu_lt (k d : Nat) (h : d < 10) : luS k d < 10 := by unfold luS; split <;> omega
theorem lu_mod (k d : Nat) : luS (k % 2) d = luS k d := by unfold luS; rw [Nat.mod_mod]
theorem lu_one : ∀ k < 2, ∀ a < 10, ∀ b < 10, luS k a = luS k b → a = b := by decide +kernel
theorem lu_swap1 : ∀ k < 2, ∀ a < 10, ∀ b < 10, decide ((luS k a + luS (k + 1) b) % 10 = (luS k b + luS (k + 1) a) % 10) = (a == b || a == 0 && b == 9 || a == 9 && b == 0) := by decide +kernel
theorem lu_swap (k : Nat) (hk : k < 2) (a : Nat) (ha : a < 10) (b : Nat) (hb : b < 10) : ((luS k a + luS (k + 1) b) % 10 = (luS k b + luS (k + 1) a) % 10) ↔ (a = b ∨ a = 0 ∧ b = 9 ∨ a = 9 ∧ b = 0) := by
  have h := lu_swap1 k hk a ha b hb
  have h2 : (a == b || a == 0 && b == 9 || a == 9 && b == 0) = decide (a = b ∨ a = 0 ∧ b = 9 ∨ a = 9 ∧ b = 0) := by
    simp only [Bool.or_assoc, Bool.decide_or, Bool.decide_and]; rfl
  rw [h2] at h
  exact decide_eq_decide.mp h
def suTo (g : Nat → Nat) (b : Nat) : Nat → Nat
  | 0 => 0
  | n + 1 => (suTo g b n + luS (n + b) (g n)) % 10
theorem su_lt (g : Nat → Nat) (b : Nat) : ∀ n, suTo g b n < 10
  | 0 => (by decide : 0 < 10)
  | n + 1 => Nat.mod_lt _ (by decide)
theorem su_ext {g f : Nat → Nat} (b : Nat) : ∀ n, (∀ i < n, g i = f i) → suTo g b n = suTo f b n
  | 0, _ => rfl
  | n + 1, h => by
    show (suTo g b n + _) % 10 = (suTo f b n + _) % 10
    rw [su_ext b n (fun i hi => h i (by omega)), h n (by omega)]
theorem su_next {g f : Nat → Nat} (hf : Dgs f) (h : ∀ i, f (i + 1) = g i) : ∀ n, suTo f 0 (n + 1) = (f 0 + suTo g 1 n) % 10
  | 0 => by
    have h0 := hf 0
    show (0 + luS 0 (f 0)) % 10 = (f 0 + 0) % 10
    unfold luS; simp
  | n + 1 => by
    show (suTo f 0 (n + 1) + luS (n + 1 + 0) (f (n + 1))) % 10 = (f 0 + (suTo g 1 n + luS (n + 1) (g n)) % 10) % 10
    rw [su_next hf h n, h n, Nat.add_zero]
    omega
theorem su_change {g f : Nat → Nat} (hg : Dgs g) (hf : Dgs f) (b k : Nat) (h : ∀ i, i ≠ k → f i = g i) : ∀ n, k < n → suTo f b n = suTo g b n → f k = g k
  | 0, hk, _ => by omega
  | n + 1, hk, e => by
    have e' : (suTo f b n + luS (n + b) (f n)) % 10 = (suTo g b n + luS (n + b) (g n)) % 10 := e
    by_cases hn : k = n
    · subst hn
      rw [su_ext b k (f := g) (fun i hi => h i (by omega))] at e'
      have l1 := lu_lt (k + b) _ (hf k)
      have l2 := lu_lt (k + b) _ (hg k)
      have e2 : luS (k + b) (f k) = luS (k + b) (g k) := by omega
      rw [← lu_mod (k + b) (f k), ← lu_mod (k + b) (g k)] at e2
      exact lu_one _ (Nat.mod_lt _ (by decide)) _ (hf k) _ (hg k) e2
    · rw [h n (fun e => hn e.symm)] at e'
      have l1 := su_lt f b n
      have l2 := su_lt g b n
      exact su_change hg hf b k h n (by omega) (by omega)
theorem su_swap {g f : Nat → Nat} (hg : Dgs g) (hf : Dgs f) (b k : Nat) (h : ∀ i, i ≠ k → i ≠ k + 1 → f i = g i) (h1 : f k = g (k + 1)) (h2 : f (k + 1) = g k) : ∀ n, k + 1 < n → (suTo f b n = suTo g b n ↔ (g k = g (k + 1) ∨ g k = 0 ∧ g (k + 1) = 9 ∨ g k = 9 ∧ g (k + 1) = 0))
  | 0, hk => by omega
  | n + 1, hk => by
    have ef : suTo f b (n + 1) = (suTo f b n + luS (n + b) (f n)) % 10 := rfl
    have eg : suTo g b (n + 1) = (suTo g b n + luS (n + b) (g n)) % 10 := rfl
    have l1 := su_lt f b n
    have l2 := su_lt g b n
    by_cases hn : k + 1 = n
    · subst hn
      have e1 : suTo f b (k + 1) = (suTo g b k + luS (k + b) (f k)) % 10 := by
        rw [← su_ext b k (fun i hi => h i (by omega) (by omega))]; rfl
      have e2 : suTo g b (k + 1) = (suTo g b k + luS (k + b) (g k)) % 10 := rfl
      have hs := lu_swap ((k + b) % 2) (Nat.mod_lt _ (by decide)) _ (hg k) _ (hg (k + 1))
      rw [ef, eg, e1, e2, h1, h2, ← hs]
      have c1 : ∀ d, luS ((k + b) % 2) d = luS (k + b) d := fun d => lu_mod _ d
      have c2 : ∀ d, luS ((k + b) % 2 + 1) d = luS (k + 1 + b) d := fun d => by
        rw [← lu_mod ((k + b) % 2 + 1) d, ← lu_mod (k + 1 + b) d]; congr 1; omega
      rw [c1, c1, c2, c2]
      omega
    · have ih := su_swap hg hf b k h h1 h2 n (by omega)
      rw [← ih, ef, eg, h n (by omega) (by omega)]
      have l3 := lu_lt (n + b) _ (hg n)
      omega
/- the digit that makes a sum right -/
def ckS (s : Nat) : Nat := (10 - s) % 10
theorem ck_ok : ∀ s < 10, ∀ d < 10, ((d + s) % 10 = 0 ↔ d = ckS s) := by decide +kernel
end Go.Proofs.Ytjmaejdkdpiigaa
