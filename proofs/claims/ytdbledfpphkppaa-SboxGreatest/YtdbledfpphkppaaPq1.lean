/- Plain facts: the substitution's parts as the program works them out. -/
import Derived.Test.YtdbledfpphkppaaRfe
namespace Go.Proofs.Ytdbledfpphkppaa
set_option linter.unusedVariables false

/- Affine and its inverse by turned bytes -/
def affQ (b : Nat) : Bool := (b ^^^ rolS b 1 ^^^ rolS b 2 ^^^ rolS b 3 ^^^ rolS b 4 ^^^ 99) == (affS (UInt8.ofNat b)).toNat
theorem affQ_all : ((List.range 256).all fun b => affQ b) = true := by decide +kernel
theorem aff_turns {b : Nat} (h : b < 256) : b ^^^ rolS b 1 ^^^ rolS b 2 ^^^ rolS b 3 ^^^ rolS b 4 ^^^ 99 = (affS (UInt8.ofNat b)).toNat :=
  eq_of_beq (List.all_eq_true.1 affQ_all b (by simpa using h))
def unaS (b : Nat) : Nat := rolS b 1 ^^^ rolS b 3 ^^^ rolS b 6 ^^^ 5
def unaQ (b : Nat) : Bool := Nat.blt (unaS b) 256 && (ivs (UInt8.ofNat (unaS b))).toNat == usN b
theorem unaQ_all : ((List.range 256).all fun b => unaQ b) = true := by decide +kernel
theorem una_at {b : Nat} (h : b < 256) : unaS b < 256 ∧ (inv 27 (UInt8.ofNat (unaS b))).toNat = usN b := by
  obtain ⟨h1, h2⟩ := Bool.and_eq_true_iff.1 (List.all_eq_true.1 unaQ_all b (by simpa using h))
  exact ⟨by simpa using h1, by rw [inv_ivs]; exact eq_of_beq h2⟩
/- a column of one byte -/
theorem mix_same {c : Nat → UInt8} (h1 : c 1 = c 0) (h2 : c 2 = c 0) (h3 : c 3 = c 0) {m : Nat → UInt8} (hm : (m 0 ^^^ m 1 ^^^ m 2 ^^^ m 3) = 1) {i : Nat} (hi : i < 4) : mixS c m i = c i := by
  have hc : ∀ j, c (j % 4) = c 0 := fun j => by
    have : j % 4 = 0 ∨ j % 4 = 1 ∨ j % 4 = 2 ∨ j % 4 = 3 := by omega
    rcases this with h | h | h | h <;> rw [h] <;> assumption
  have : mixS c m i = bm 27 (c 0) (m 0 ^^^ m 1 ^^^ m 2 ^^^ m 3) := by
    rw [bm_xor', bm_xor', bm_xor']
    unfold mixS
    simp only [mixTo, hc]
    simp
  rw [this, hm, bm_one]
  have := hc i
  rw [Nat.mod_eq_of_lt hi] at this; exact this.symm
/- Walsh's transform from the upper of two -/
def hiS (k j : Nat) : Nat := if j.testBit k then j else j + 2 ^ k
def midH (f : Nat → Int) (k i j : Nat) : Int := if hiS k j < i then whS f (k + 1) j else whS f k j
theorem midH_zero (f : Nat → Int) (k j : Nat) : midH f k 0 j = whS f k j := by unfold midH; rw [if_neg (by omega)]
theorem hi_lt {k j : Nat} (hk : k < 8) (hj : j < 256) : hiS k j < 256 := by
  unfold hiS
  split
  · exact hj
  · rename_i h
    exact (bit_low hk hj (by simpa using h)).1
theorem hi_bit {k j : Nat} (hk : k < 8) (hj : j < 256) : (hiS k j).testBit k = true := by
  unfold hiS
  split
  · assumption
  · rename_i h
    exact (bit_low hk hj (by simpa using h)).2
theorem midH_all (f : Nat → Int) {k : Nat} (hk : k < 8) {j : Nat} (hj : j < 256) : midH f k 256 j = whS f (k + 1) j := by
  unfold midH; rw [if_pos (hi_lt hk hj)]
theorem midH_skip (f : Nat → Int) {k i : Nat} (hk : k < 8) (h : i.testBit k = false) {j : Nat} (hj : j < 256) : midH f k (i + 1) j = midH f k i j := by
  have : hiS k j ≠ i := fun he => by have := hi_bit hk hj; rw [he, h] at this; cases this
  unfold midH
  by_cases h1 : hiS k j < i
  · rw [if_pos h1, if_pos (by omega)]
  · rw [if_neg h1, if_neg (by omega)]
theorem midH_a (f : Nat → Int) {k i : Nat} (h : i.testBit k = true) : midH f k i i = whS f k i := by
  unfold midH hiS; rw [h]; simp
theorem midH_b (f : Nat → Int) {k i : Nat} (hk : k < 8) (hi : i < 256) (h : i.testBit k = true) : midH f k i (i - 2 ^ k) = whS f k (i - 2 ^ k) := by
  obtain ⟨h1, h2⟩ := bit_high hk hi h
  have hh : hiS k (i - 2 ^ k) = i := by unfold hiS; rw [h2, if_neg (by simp)]; omega
  unfold midH; rw [hh, if_neg (by omega)]
theorem midH_put (f : Nat → Int) {k i : Nat} (hk : k < 8) (hi : i < 256) (h : i.testBit k = true) {j : Nat} (hj : j < 256) :
    (if j = i then whS f k (i - 2 ^ k) - whS f k i else if j = i - 2 ^ k then whS f k (i - 2 ^ k) + whS f k i else midH f k i j) = midH f k (i + 1) j := by
  have hb := bit_high hk hi h
  by_cases h1 : j = i
  · subst h1
    rw [if_pos rfl]
    unfold midH hiS
    rw [h, if_pos rfl, if_pos (by omega), whS, if_pos h]
  · rw [if_neg h1]
    by_cases h2 : j = i - 2 ^ k
    · rw [if_pos h2]
      have hjb : j.testBit k = false := by rw [h2]; exact hb.2
      have hh : hiS k j = i := by unfold hiS; rw [hjb, if_neg (by simp)]; omega
      unfold midH
      rw [hh, if_pos (by omega), whS, hjb, if_neg (by simp), h2, show i - 2 ^ k + 2 ^ k = i by omega]
    · rw [if_neg h2]
      have : hiS k j ≠ i := fun he => by
        unfold hiS at he
        split at he
        · exact h1 he
        · exact h2 (by omega)
      unfold midH
      by_cases h3 : hiS k j < i
      · rw [if_pos h3, if_pos (by omega)]
      · rw [if_neg h3, if_neg (by omega)]
/- the sums of products, bit by bit -/
def mbS (f : Nat → Nat) : Nat → Nat → Nat
  | 0, i => f i
  | k + 1, i => if i.testBit k then mbS f k i ^^^ mbS f k (i - 2 ^ k) else mbS f k i
theorem mb_lt {f : Nat → Nat} (hf : ∀ j, f j < 2) : ∀ k i, mbS f k i < 2
  | 0, i => hf i
  | k + 1, i => by
    rw [mbS]
    split
    · exact Nat.xor_lt_two_pow (n := 1) (mb_lt hf k i) (mb_lt hf k _)
    · exact mb_lt hf k i
def midM (f : Nat → Nat) (k i j : Nat) : Nat := if j < i then mbS f (k + 1) j else mbS f k j
theorem midM_zero (f : Nat → Nat) (k j : Nat) : midM f k 0 j = mbS f k j := by unfold midM; rw [if_neg (by omega)]
theorem midM_all (f : Nat → Nat) (k : Nat) {j : Nat} (hj : j < 256) : midM f k 256 j = mbS f (k + 1) j := by unfold midM; rw [if_pos hj]
theorem midM_skip (f : Nat → Nat) {k i : Nat} (h : i.testBit k = false) (j : Nat) : midM f k (i + 1) j = midM f k i j := by
  unfold midM
  by_cases h1 : j < i
  · rw [if_pos h1, if_pos (by omega)]
  · rw [if_neg h1]
    by_cases h2 : j = i
    · subst h2; rw [if_pos (by omega), mbS, h]; rfl
    · rw [if_neg (by omega)]
theorem midM_a (f : Nat → Nat) (k i : Nat) : midM f k i i = mbS f k i := by unfold midM; rw [if_neg (by omega)]
theorem midM_b (f : Nat → Nat) {k i : Nat} (hk : k < 8) (hi : i < 256) (h : i.testBit k = true) : midM f k i (i - 2 ^ k) = mbS f k (i - 2 ^ k) := by
  have hb := bit_high hk hi h
  unfold midM
  by_cases h1 : i - 2 ^ k < i
  · rw [if_pos h1, mbS, hb.2]; rfl
  · rw [if_neg h1]
theorem midM_put (f : Nat → Nat) {k i : Nat} (h : i.testBit k = true) (j : Nat) : (if j = i then mbS f k i ^^^ mbS f k (i - 2 ^ k) else midM f k i j) = midM f k (i + 1) j := by
  by_cases h1 : j = i
  · subst h1; rw [if_pos rfl]; unfold midM; rw [if_pos (by omega), mbS, if_pos h]
  · rw [if_neg h1]; unfold midM
    by_cases h2 : j < i
    · rw [if_pos h2, if_pos (by omega)]
    · rw [if_neg h2, if_neg (by omega)]
def amS (g : Nat → Bool) (k i : Nat) : Nat := ct (fun y => (y &&& i == y) && g (i / 2 ^ k * 2 ^ k + y)) (2 ^ k)
theorem and_eq_bits {x i : Nat} : x &&& i = x ↔ ∀ j, x.testBit j = true → i.testBit j = true := by
  constructor
  · intro h j hj
    have := congrArg (fun v => v.testBit j) h
    simp only [Nat.testBit_and] at this
    rw [hj] at this; simpa using this
  · intro h
    refine Nat.eq_of_testBit_eq fun j => ?_
    rw [Nat.testBit_and]
    cases hx : x.testBit j
    · rfl
    · rw [h j hx]; rfl
theorem am_step (g : Nat → Bool) (k i : Nat) : amS g (k + 1) i = if i.testBit k then amS g k i + amS g k (i - 2 ^ k) else amS g k i := by
  have hp : 2 ^ (k + 1) = 2 ^ k + 2 ^ k := by rw [Nat.pow_succ]; omega
  have hpos := Nat.two_pow_pos k
  have lo : ∀ {x : Nat}, x < 2 ^ k → ∀ j, x.testBit j = true → j < k := fun {x} hx j hj => by
    refine Nat.lt_of_not_le fun hle => ?_
    rw [testBit_ge hx hle] at hj; cases hj
  have hdd : i / 2 ^ (k + 1) = i / 2 ^ k / 2 := by rw [Nat.pow_succ, Nat.div_div_eq_div_mul]
  have hbit : i.testBit k = decide (i / 2 ^ k % 2 = 1) := Nat.testBit_eq_decide_div_mod_eq
  have h1 : amS g (k + 1) i = ct (fun y => (y &&& i == y) && g (i / 2 ^ k / 2 * 2 * 2 ^ k + y)) (2 ^ k) + ct (fun y => (i.testBit k && (y &&& i == y)) && g (i / 2 ^ k / 2 * 2 * 2 ^ k + 2 ^ k + y)) (2 ^ k) := by
    unfold amS
    rw [hp, ct_add]
    rw [show i / (2 ^ k + 2 ^ k) * (2 ^ k + 2 ^ k) = i / 2 ^ k / 2 * 2 * 2 ^ k by rw [← hp, hdd, Nat.pow_succ, Nat.mul_assoc, Nat.mul_comm 2]]
    congr 1
    refine ct_congr fun x hx => ?_
    rw [Nat.add_assoc]
    congr 1
    rw [Bool.eq_iff_iff, Bool.and_eq_true, beq_iff_eq, beq_iff_eq, and_eq_bits, and_eq_bits]
    constructor
    · intro h
      refine ⟨h k ?_, fun j hj => h j ?_⟩
      · rw [Nat.testBit_two_pow_add_eq, testBit_ge hx (Nat.le_refl _)]; rfl
      · rw [Nat.testBit_two_pow_add_gt (lo hx j hj)]; exact hj
    · rintro ⟨h2, h3⟩ j hj
      by_cases hjk : j = k
      · subst hjk; exact h2
      · by_cases hlt : j < k
        · rw [Nat.testBit_two_pow_add_gt hlt] at hj; exact h3 j hj
        · exfalso
          rw [testBit_ge (w := k + 1) (by omega) (by omega)] at hj; cases hj
  have low : ∀ {a b : Nat}, (∀ j, j < k → a.testBit j = b.testBit j) → ∀ {x : Nat}, x < 2 ^ k → (x &&& a == x) = (x &&& b == x) := fun {a b} hab {x} hx => by
    rw [Bool.eq_iff_iff, beq_iff_eq, beq_iff_eq, and_eq_bits, and_eq_bits]
    constructor
    · intro h j hj; rw [← hab j (lo hx j hj)]; exact h j hj
    · intro h j hj; rw [hab j (lo hx j hj)]; exact h j hj
  by_cases hb : i.testBit k = true
  · rw [if_pos hb]
    rw [hb] at hbit h1
    have hm : i / 2 ^ k % 2 = 1 := by simpa using hbit.symm
    have hge : 2 ^ k ≤ i := by
      refine Nat.le_of_not_lt fun h => ?_
      rw [Nat.div_eq_of_lt h] at hm; omega
    have hq : i / 2 ^ k / 2 * 2 = i / 2 ^ k - 1 := by omega
    have hs : (i - 2 ^ k) / 2 ^ k = i / 2 ^ k - 1 := by have := Nat.sub_mul_div i (2 ^ k) 1; rw [Nat.mul_one] at this; exact this
    have e1 : amS g k (i - 2 ^ k) = ct (fun y => (y &&& i == y) && g (i / 2 ^ k / 2 * 2 * 2 ^ k + y)) (2 ^ k) := by
      unfold amS; rw [hs, ← hq]
      refine ct_congr fun x hx => ?_
      rw [low (a := i - 2 ^ k) (b := i) (fun j hj => by
        have := Nat.testBit_two_pow_add_gt hj (i - 2 ^ k)
        rw [show 2 ^ k + (i - 2 ^ k) = i by omega] at this
        exact this.symm) hx]
    have e3 : ct (fun y => (true && (y &&& i == y)) && g (i / 2 ^ k / 2 * 2 * 2 ^ k + 2 ^ k + y)) (2 ^ k) = amS g k i := by
      unfold amS
      refine ct_congr fun x hx => ?_
      rw [show i / 2 ^ k / 2 * 2 * 2 ^ k + 2 ^ k = i / 2 ^ k * 2 ^ k by rw [hq]; have : 1 ≤ i / 2 ^ k := by omega
                                                                        rw [Nat.sub_mul, Nat.one_mul]; have := Nat.mul_le_mul_right (2 ^ k) this; omega, Bool.true_and]
    rw [h1, e3, ← e1, Nat.add_comm]
  · rw [if_neg hb]
    have hb : i.testBit k = false := by simpa using hb
    rw [hb] at hbit h1
    have hm : i / 2 ^ k % 2 = 0 := by have : ¬ i / 2 ^ k % 2 = 1 := by simpa using hbit.symm
                                      omega
    have hq : i / 2 ^ k / 2 * 2 = i / 2 ^ k := by omega
    have e2 : ct (fun y => (false && (y &&& i == y)) && g (i / 2 ^ k / 2 * 2 * 2 ^ k + 2 ^ k + y)) (2 ^ k) = 0 := sm_zero _
    rw [h1, e2, hq]
    rfl
theorem mod2_xor (a b : Nat) : (a + b) % 2 = a % 2 ^^^ b % 2 := by
  rcases Nat.mod_two_eq_zero_or_one a with h | h <;> rcases Nat.mod_two_eq_zero_or_one b with h' | h' <;> rw [h, h'] <;> first | (show _ = 0; omega) | (show _ = 1; omega)
theorem mb_am {f : Nat → Nat} {g : Nat → Bool} (hf : ∀ x, f x = (g x).toNat) : ∀ k i, mbS f k i = amS g k i % 2
  | 0, i => by
    rw [mbS, hf]
    have : amS g 0 i = (g i).toNat := by unfold amS; simp [ct, sm]
    rw [this]; cases g i <;> rfl
  | k + 1, i => by
    rw [mbS, am_step, mb_am hf k, mb_am hf k]
    split
    · rw [mod2_xor]
    · rfl
theorem mb_anf {t : Nat → Nat} {f : Nat → Nat} {bit m : Nat} (hm : m < 256) (hf : ∀ x, f x = ((t x).testBit bit).toNat) : mbS f 8 m = anfS t bit m := by
  rw [mb_am (g := fun x => (t x).testBit bit) hf 8 m]
  have : amS (fun x => (t x).testBit bit) 8 m = ct (fun x => (x &&& m == x) && (t x).testBit bit) 256 := by
    unfold amS
    rw [show m / 2 ^ 8 * 2 ^ 8 = 0 by omega]
    refine ct_congr fun x hx => ?_
    rw [Nat.zero_add]
  rw [this]; rfl
end Go.Proofs.Ytdbledfpphkppaa
