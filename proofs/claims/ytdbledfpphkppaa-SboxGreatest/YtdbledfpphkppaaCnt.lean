/- Plain facts on counting: sums, places that are changed about, differences and lines of a table and of its inverse. -/
import Derived.RowKit
namespace Go.Proofs.Ytdbledfpphkppaa
set_option linter.unusedVariables false

def sm (f : Nat → Nat) : Nat → Nat
  | 0 => 0
  | n + 1 => sm f n + f n
def ct (p : Nat → Bool) (n : Nat) : Nat := sm (fun x => (p x).toNat) n
theorem ct_zero (p : Nat → Bool) : ct p 0 = 0 := rfl
theorem ct_succ (p : Nat → Bool) (n : Nat) : ct p (n + 1) = ct p n + (p n).toNat := rfl
theorem sm_congr {f g : Nat → Nat} : ∀ {n : Nat}, (∀ x, x < n → f x = g x) → sm f n = sm g n
  | 0, _ => rfl
  | n + 1, h => by rw [sm, sm, sm_congr (fun x hx => h x (by omega)), h n (by omega)]
theorem ct_congr {p q : Nat → Bool} {n : Nat} (h : ∀ x, x < n → p x = q x) : ct p n = ct q n := sm_congr fun x hx => by rw [h x hx]
theorem sm_zero (n : Nat) : sm (fun _ => 0) n = 0 := by induction n with
  | zero => rfl
  | succ n ih => rw [sm, ih]
theorem sm_one (n : Nat) : sm (fun _ => 1) n = n := by induction n with
  | zero => rfl
  | succ n ih => rw [sm, ih]
theorem sm_add (f g : Nat → Nat) : ∀ n, sm (fun x => f x + g x) n = sm f n + sm g n
  | 0 => rfl
  | n + 1 => by rw [sm, sm, sm, sm_add]; omega
theorem sm_swap (f : Nat → Nat → Nat) (m : Nat) : ∀ n, sm (fun x => sm (fun y => f x y) m) n = sm (fun y => sm (fun x => f x y) n) m
  | 0 => by rw [sm]; simp only [sm]; rw [sm_zero]
  | n + 1 => by
    rw [sm, sm_swap f m n, ← sm_add]
    exact sm_congr fun y _ => rfl
theorem sm_mul (f : Nat → Nat) (c : Nat) : ∀ n, sm (fun x => f x * c) n = sm f n * c
  | 0 => by simp [sm]
  | n + 1 => by rw [sm, sm, sm_mul, Nat.add_mul]
theorem ct_at (a : Nat) : ∀ n, ct (fun x => x == a) n = if a < n then 1 else 0
  | 0 => by simp [ct_zero]
  | n + 1 => by
    rw [ct_succ, ct_at a n]
    by_cases h : n = a
    · subst h; simp
    · have : (n == a) = false := by simpa using h
      rw [this]
      by_cases h2 : a < n
      · simp [h2, show a < n + 1 by omega]
      · simp [h2, show ¬ a < n + 1 by omega]
theorem ct_le (p : Nat → Bool) : ∀ n, ct p n ≤ n
  | 0 => Nat.le_refl _
  | n + 1 => by rw [ct_succ]; have := ct_le p n; have := Bool.toNat_le (p n); omega
theorem ct_not (p : Nat → Bool) : ∀ n, ct (fun x => !p x) n + ct p n = n
  | 0 => rfl
  | n + 1 => by rw [ct_succ, ct_succ]; have := ct_not p n; cases p n <;> simp <;> omega
/- places that are changed about are as many -/
theorem ct_turn (p : Nat → Bool) {f g : Nat → Nat} {n : Nat} (hf : ∀ x, x < n → f x < n) (hg : ∀ x, x < n → g x < n) (hgf : ∀ x, x < n → g (f x) = x) (hfg : ∀ x, x < n → f (g x) = x) :
    ct (fun x => p (f x)) n = ct p n := by
  have h1 : ct (fun x => p (f x)) n = sm (fun x => sm (fun y => (y == f x).toNat * (p y).toNat) n) n := by
    refine sm_congr fun x hx => ?_
    have : sm (fun y => (y == f x).toNat * (p y).toNat) n = sm (fun y => (y == f x).toNat * (p (f x)).toNat) n := by
      refine sm_congr fun y hy => ?_
      by_cases h : y = f x
      · rw [h]
      · have : (y == f x) = false := by simpa using h
        rw [this]; simp
    rw [this, sm_mul, show sm (fun y => (y == f x).toNat) n = ct (fun y => y == f x) n from rfl, ct_at, if_pos (hf x hx), Nat.one_mul]
  rw [h1, sm_swap]
  refine sm_congr fun y hy => ?_
  rw [sm_mul]
  have : sm (fun x => (y == f x).toNat) n = ct (fun x => x == g y) n := by
    refine sm_congr fun x hx => ?_
    congr 1
    rw [Bool.eq_iff_iff]; simp only [beq_iff_eq]
    exact ⟨fun h => by rw [h, hgf x hx], fun h => by rw [h, hfg y hy]⟩
  rw [this, ct_at, if_pos (hg y hy), Nat.one_mul]
/- each place has one answer -/
theorem ct_all (d : Nat → Nat) {m n : Nat} (hd : ∀ x, x < n → d x < m) : sm (fun c => ct (fun x => d x == c) n) m = n := by
  show sm (fun c => sm (fun x => (d x == c).toNat) n) m = n
  rw [sm_swap]
  refine (sm_congr (g := fun _ => 1) fun x hx => ?_).trans (sm_one n)
  have : sm (fun y => (d x == y).toNat) m = ct (fun y => y == d x) m := sm_congr fun y _ => by congr 1; rw [Bool.eq_iff_iff]; simp only [beq_iff_eq]; exact eq_comm
  rw [this, ct_at, if_pos (hd x hx)]

def diffS (t : Nat → Nat) (a c : Nat) : Nat := ct (fun x => t x ^^^ t (x ^^^ a) == c) 256
theorem xor256 {a b : Nat} (ha : a < 256) (hb : b < 256) : a ^^^ b < 256 := Nat.xor_lt_two_pow (n := 8) ha hb
theorem xor_back (a b : Nat) : a ^^^ b ^^^ b = a := by rw [Nat.xor_assoc, Nat.xor_self, Nat.xor_zero]
theorem xor_flip {a b c : Nat} : a ^^^ b = c ↔ b = a ^^^ c := by
  constructor
  · intro h; rw [← h, ← Nat.xor_assoc, Nat.xor_self, Nat.zero_xor]
  · intro h; rw [h, ← Nat.xor_assoc, Nat.xor_self, Nat.zero_xor]
theorem diff_all (t : Nat → Nat) (ht : ∀ x, x < 256 → t x < 256) {a : Nat} (ha : a < 256) : sm (fun c => diffS t a c) 256 = 256 :=
  ct_all (fun x => t x ^^^ t (x ^^^ a)) fun x hx => xor256 (ht x hx) (ht _ (xor256 hx ha))
/- of a table with every byte once the inverse has the same differences, turned round -/
theorem diff_back {t u : Nat → Nat} (ht : ∀ x, x < 256 → t x < 256) (hu : ∀ x, x < 256 → u x < 256) (hut : ∀ x, x < 256 → u (t x) = x) (htu : ∀ x, x < 256 → t (u x) = x) {a c : Nat} (ha : a < 256) (hc : c < 256) :
    diffS t a c = diffS u c a := by
  unfold diffS
  rw [← ct_turn (fun x => u x ^^^ u (x ^^^ c) == a) ht hu hut htu]
  refine ct_congr fun x hx => ?_
  rw [Bool.eq_iff_iff]; simp only [beq_iff_eq]
  rw [hut x hx, xor_flip, xor_flip]
  have h1 := ht x hx; have h2 := xor256 hx ha; have h3 := xor256 h1 hc
  constructor
  · intro h; rw [← h, hut _ h2]
  · intro h; rw [← h, htu _ h3]

/- the parity of a byte's bits -/
def onesTo (v : Nat) : Nat → Nat
  | 0 => 0
  | k + 1 => onesTo v k + (v.testBit k).toNat
def parS (v : Nat) : Nat := onesTo v 8 % 2
def linS (t : Nat → Nat) (a b : Nat) : Nat := ct (fun x => parS (x &&& a) == parS (t x &&& b)) 256
theorem lin_back {t u : Nat → Nat} (ht : ∀ x, x < 256 → t x < 256) (hu : ∀ x, x < 256 → u x < 256) (hut : ∀ x, x < 256 → u (t x) = x) (htu : ∀ x, x < 256 → t (u x) = x) (a b : Nat) :
    linS t a b = linS u b a := by
  unfold linS
  rw [← ct_turn (fun x => parS (x &&& b) == parS (u x &&& a)) ht hu hut htu]
  refine ct_congr fun x hx => ?_
  rw [hut x hx, Bool.eq_iff_iff]; simp only [beq_iff_eq]
  exact eq_comm
theorem ones_le (v : Nat) : ∀ k, onesTo v k ≤ k
  | 0 => Nat.le_refl _
  | k + 1 => by rw [onesTo]; have := ones_le v k; have := Bool.toNat_le (v.testBit k); omega
theorem par_lt (v : Nat) : parS v < 2 := Nat.mod_lt _ (by omega)
end Go.Proofs.Ytdbledfpphkppaa
