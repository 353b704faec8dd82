/- Plain facts: sums of signs that are put together bit by bit. -/
import Derived.Test.YtdbledfpphkppaaSb2
namespace Go.Proofs.Ytdbledfpphkppaa
set_option linter.unusedVariables false

def whS (f : Nat → Int) : Nat → Nat → Int
  | 0, i => f i
  | k + 1, i => if i.testBit k then whS f k (i - 2 ^ k) - whS f k i else whS f k i + whS f k (i + 2 ^ k)
theorem wh_bound {f : Nat → Int} (hf : ∀ j, -1 ≤ f j ∧ f j ≤ 1) : ∀ k i, -(2 ^ k : Int) ≤ whS f k i ∧ whS f k i ≤ (2 ^ k : Int)
  | 0, i => hf i
  | k + 1, i => by
    have h1 := wh_bound hf k i
    have h2 := wh_bound hf k (i - 2 ^ k)
    have h3 := wh_bound hf k (i + 2 ^ k)
    have hp : (2 ^ (k + 1) : Int) = 2 ^ k * 2 := Int.pow_succ 2 k
    rw [whS, hp]
    generalize (2 ^ k : Int) = P at *
    split <;> omega
/- within a round -/
def lowS (k j : Nat) : Nat := if j.testBit k then j - 2 ^ k else j
def midS (f : Nat → Int) (k i j : Nat) : Int := if lowS k j < i then whS f (k + 1) j else whS f k j
def bitP (k i : Nat) : Bool := (i.testBit k || (Nat.blt (i + 2 ^ k) 256 && (i + 2 ^ k).testBit k)) && (!i.testBit k || (Nat.ble (2 ^ k) i && !(i - 2 ^ k).testBit k))
theorem bit_tab : ((List.range 8).all fun k => (List.range 256).all fun i => bitP k i) = true := by decide +kernel
theorem bit_at {k i : Nat} (hk : k < 8) (hi : i < 256) : bitP k i = true := List.all_eq_true.1 (List.all_eq_true.1 bit_tab k (by simpa using hk)) i (by simpa using hi)
theorem bit_low {k i : Nat} (hk : k < 8) (hi : i < 256) (h : i.testBit k = false) : i + 2 ^ k < 256 ∧ (i + 2 ^ k).testBit k = true := by
  have := bit_at hk hi
  unfold bitP at this
  rw [h] at this
  have := (Bool.and_eq_true_iff.1 this).1
  rw [Bool.false_or] at this
  obtain ⟨h1, h2⟩ := Bool.and_eq_true_iff.1 this
  exact ⟨by simpa using h1, h2⟩
theorem bit_high {k i : Nat} (hk : k < 8) (hi : i < 256) (h : i.testBit k = true) : 2 ^ k ≤ i ∧ (i - 2 ^ k).testBit k = false := by
  have := bit_at hk hi
  unfold bitP at this
  rw [h] at this
  have := (Bool.and_eq_true_iff.1 this).2
  rw [Bool.not_true, Bool.false_or] at this
  obtain ⟨h1, h2⟩ := Bool.and_eq_true_iff.1 this
  exact ⟨by simpa using h1, by simpa using h2⟩
theorem mid_zero (f : Nat → Int) (k j : Nat) : midS f k 0 j = whS f k j := by unfold midS; rw [if_neg (by omega)]
theorem low_le (k j : Nat) : lowS k j ≤ j := by unfold lowS; split; exact Nat.sub_le _ _; exact Nat.le_refl _
theorem mid_all (f : Nat → Int) (k : Nat) {j : Nat} (hj : j < 256) : midS f k 256 j = whS f (k + 1) j := by
  unfold midS; rw [if_pos (by have := low_le k j; omega)]
theorem mid_skip (f : Nat → Int) {k i : Nat} (hk : k < 8) (hi : i < 256) (h : i.testBit k = true) {j : Nat} (hj : j < 256) : midS f k (i + 1) j = midS f k i j := by
  unfold midS
  by_cases h1 : lowS k j < i
  · rw [if_pos h1, if_pos (by omega)]
  · have : lowS k j ≠ i := by
      intro he
      unfold lowS at he
      by_cases hb : j.testBit k = true
      · rw [if_pos hb] at he; rw [← he, (bit_high hk hj hb).2] at h; cases h
      · rw [if_neg hb] at he; rw [he] at hb; exact hb h
    rw [if_neg h1, if_neg (by omega)]
theorem mid_a (f : Nat → Int) {k i : Nat} (h : i.testBit k = false) : midS f k i i = whS f k i := by
  unfold midS lowS; rw [h]; simp
theorem mid_b (f : Nat → Int) {k i : Nat} (hk : k < 8) (hi : i < 256) (h : i.testBit k = false) : midS f k i (i + 2 ^ k) = whS f k (i + 2 ^ k) := by
  unfold midS lowS; rw [(bit_low hk hi h).2]; simp
theorem mid_put (f : Nat → Int) {k i : Nat} (hk : k < 8) (hi : i < 256) (h : i.testBit k = false) {j : Nat} (hj : j < 256) :
    (if j = i + 2 ^ k then whS f k i - whS f k (i + 2 ^ k) else if j = i then whS f k i + whS f k (i + 2 ^ k) else midS f k i j) = midS f k (i + 1) j := by
  have hb := bit_low hk hi h
  by_cases h1 : j = i + 2 ^ k
  · subst h1
    rw [if_pos rfl]
    unfold midS lowS
    rw [hb.2, if_pos rfl, if_pos (by omega), whS, if_pos hb.2]
    rw [show i + 2 ^ k - 2 ^ k = i by omega]
  · rw [if_neg h1]
    by_cases h2 : j = i
    · subst h2
      rw [if_pos rfl]
      have hl : lowS k j = j := by unfold lowS; rw [h]; simp
      unfold midS
      rw [hl, if_pos (by omega), whS, h]; simp
    · rw [if_neg h2]
      unfold midS
      by_cases h3 : lowS k j < i
      · rw [if_pos h3, if_pos (by omega)]
      · have : lowS k j ≠ i := by
          intro he
          unfold lowS at he
          by_cases hb : j.testBit k = true
          · rw [if_pos hb] at he; have := (bit_high hk hj hb).1; exact h1 (by omega)
          · rw [if_neg hb] at he; exact h2 he
        rw [if_neg h3, if_neg (by omega)]
/- what it counts -/
def agS (g : Nat → Nat) (k i : Nat) : Nat := ct (fun y => onesTo (y &&& i) k % 2 == g (i / 2 ^ k * 2 ^ k + y)) (2 ^ k)
theorem ag_step (g : Nat → Nat) (hg : ∀ x, g x < 2) (k i : Nat) : (agS g (k + 1) i : Int) = if i.testBit k then (agS g k (i - 2 ^ k) : Int) + 2 ^ k - agS g k i else (agS g k i : Int) + agS g k (i + 2 ^ k) := by
  have hp : 2 ^ (k + 1) = 2 ^ k + 2 ^ k := by rw [Nat.pow_succ]; omega
  have hpos := Nat.two_pow_pos k
  have lo : ∀ {x : Nat}, x < 2 ^ k → x.testBit k = false := fun hx => Nat.testBit_lt_two_pow hx
  have hdd : i / 2 ^ (k + 1) = i / 2 ^ k / 2 := by rw [Nat.pow_succ, Nat.div_div_eq_div_mul]
  have hbit : i.testBit k = decide (i / 2 ^ k % 2 = 1) := Nat.testBit_eq_decide_div_mod_eq
  have h1 : agS g (k + 1) i = ct (fun y => onesTo (y &&& i) k % 2 == g (i / 2 ^ k / 2 * 2 * 2 ^ k + y)) (2 ^ k) + ct (fun y => (onesTo (y &&& i) k + (i.testBit k).toNat) % 2 == g (i / 2 ^ k / 2 * 2 * 2 ^ k + 2 ^ k + y)) (2 ^ k) := by
    unfold agS
    rw [hp, ct_add]
    rw [show i / (2 ^ k + 2 ^ k) * (2 ^ k + 2 ^ k) = i / 2 ^ k / 2 * 2 * 2 ^ k by rw [← hp, hdd, Nat.pow_succ, Nat.mul_assoc, Nat.mul_comm 2]]
    congr 1
    · refine ct_congr fun x hx => ?_
      rw [onesTo, Nat.testBit_and, lo hx]; rfl
    · refine ct_congr fun x hx => ?_
      rw [onesTo, Nat.testBit_and, Nat.testBit_two_pow_add_eq, lo hx, Nat.add_assoc]
      rw [ones_congr (u := 2 ^ k + x &&& i) (v := x &&& i) k fun i hi => by rw [Nat.testBit_and, Nat.testBit_and, Nat.testBit_two_pow_add_gt hi]]
      rfl
  by_cases hb : i.testBit k = true
  · rw [if_pos hb]
    rw [hb] at hbit h1
    have hm : i / 2 ^ k % 2 = 1 := by simpa using hbit.symm
    have hge : 2 ^ k ≤ i := by
      refine Nat.le_of_not_lt fun h => ?_
      rw [Nat.div_eq_of_lt h] at hm; omega
    have hq : i / 2 ^ k / 2 * 2 = i / 2 ^ k - 1 := by omega
    have hs : (i - 2 ^ k) / 2 ^ k = i / 2 ^ k - 1 := by have := Nat.sub_mul_div i (2 ^ k) 1; rw [Nat.mul_one] at this; exact this
    have e1 : agS g k (i - 2 ^ k) = ct (fun y => onesTo (y &&& i) k % 2 == g (i / 2 ^ k / 2 * 2 * 2 ^ k + y)) (2 ^ k) := by
      unfold agS; rw [hs, ← hq]
      refine ct_congr fun x hx => ?_
      rw [ones_congr (u := x &&& (i - 2 ^ k)) (v := x &&& i) k fun j hj => by
        rw [Nat.testBit_and, Nat.testBit_and]
        have := Nat.testBit_two_pow_add_gt hj (i - 2 ^ k)
        rw [show 2 ^ k + (i - 2 ^ k) = i by omega] at this
        rw [this]]
    have e2 := ct_not (fun y => onesTo (y &&& i) k % 2 == g (i / 2 ^ k * 2 ^ k + y)) (2 ^ k)
    have e3 : ct (fun y => (onesTo (y &&& i) k + true.toNat) % 2 == g (i / 2 ^ k / 2 * 2 * 2 ^ k + 2 ^ k + y)) (2 ^ k) = ct (fun y => !(onesTo (y &&& i) k % 2 == g (i / 2 ^ k * 2 ^ k + y))) (2 ^ k) := by
      refine ct_congr fun x hx => ?_
      rw [show i / 2 ^ k / 2 * 2 * 2 ^ k + 2 ^ k = i / 2 ^ k * 2 ^ k by rw [hq]; have : 1 ≤ i / 2 ^ k := by omega
                                                                        rw [Nat.sub_mul, Nat.one_mul]; have := Nat.mul_le_mul_right (2 ^ k) this; omega]
      exact flip2 (n := 0) (hg _) (by omega)
    rw [h1, e3, ← e1]
    unfold agS at *
    rw [show ((2 : Int) ^ k) = ((2 ^ k : Nat) : Int) by simp]
    omega
  · rw [if_neg hb]
    have hb : i.testBit k = false := by simpa using hb
    rw [hb] at hbit h1
    have hm : i / 2 ^ k % 2 = 0 := by have : ¬ i / 2 ^ k % 2 = 1 := by simpa using hbit.symm
                                      omega
    have hq : i / 2 ^ k / 2 * 2 = i / 2 ^ k := by omega
    have hs : (i + 2 ^ k) / 2 ^ k = i / 2 ^ k + 1 := Nat.add_div_right i hpos
    have e1 : agS g k (i + 2 ^ k) = ct (fun y => (onesTo (y &&& i) k + false.toNat) % 2 == g (i / 2 ^ k / 2 * 2 * 2 ^ k + 2 ^ k + y)) (2 ^ k) := by
      unfold agS; rw [hs, hq]
      refine ct_congr fun x hx => ?_
      rw [ones_congr (u := x &&& (i + 2 ^ k)) (v := x &&& i) k fun j hj => by
        rw [Nat.testBit_and, Nat.testBit_and, Nat.add_comm i, Nat.testBit_two_pow_add_gt hj]]
      rw [Nat.add_mul, Nat.one_mul]; rfl
    rw [h1, ← e1, hq]
    unfold agS; omega
theorem wh_ag {f : Nat → Int} {g : Nat → Nat} (hg : ∀ x, g x < 2) (hf : ∀ x, f x = 1 - 2 * (g x : Int)) : ∀ k i, whS f k i = 2 * (agS g k i : Int) - 2 ^ k
  | 0, i => by
    rw [whS, hf]
    have : agS g 0 i = (0 == g i).toNat := by unfold agS; simp [ct, sm, onesTo]
    rw [this]
    have := hg i
    rcases (show g i = 0 ∨ g i = 1 by omega) with h | h <;> rw [h] <;> rfl
  | k + 1, i => by
    have hp : (2 ^ (k + 1) : Int) = 2 ^ k * 2 := Int.pow_succ 2 k
    rw [whS, ag_step g hg, wh_ag hg hf k, wh_ag hg hf k, wh_ag hg hf k, hp]
    generalize (2 ^ k : Int) = P
    split <;> omega
theorem wh_lin {t : Nat → Nat} {f : Nat → Int} {b a : Nat} (ha : a < 256) (hf : ∀ x, f x = 1 - 2 * (parS (t x &&& b) : Int)) : whS f 8 a = 2 * (linS t a b : Int) - 256 := by
  rw [wh_ag (g := fun x => parS (t x &&& b)) (fun x => par_lt _) hf 8 a]
  have : agS (fun x => parS (t x &&& b)) 8 a = linS t a b := by
    unfold agS linS
    rw [show a / 2 ^ 8 * 2 ^ 8 = 0 by omega]
    refine ct_congr fun x hx => ?_
    rw [Nat.zero_add]; rfl
  rw [this]; rfl
end Go.Proofs.Ytdbledfpphkppaa
