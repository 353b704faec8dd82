/- Plain: long numbers, byte by byte: their worth, sums and differences with the carry handed on. -/
import Derived.Test.YtgbjoblojkmdnaaDcp
import Derived.Test.YtgbjoblojkmdnaaBnp
namespace Go.Proofs.Ytgbjoblojkmdnaa
set_option linter.unusedVariables false

/- the number of the digits below i -/
def vTo (f : Nat → Nat) (B : Nat) : Nat → Nat
  | 0 => 0
  | i + 1 => vTo f B i + f i * B ^ i
/- the number of the k upmost of n digits -/
def xF (f : Nat → Nat) (B n : Nat) : Nat → Nat
  | 0 => 0
  | k + 1 => xF f B n k * B + f (n - 1 - k)
theorem xF_vTo (f : Nat → Nat) (B n : Nat) : ∀ k, k ≤ n → xF f B n k * B ^ (n - k) + vTo f B (n - k) = vTo f B n
  | 0, _ => by simp [xF]
  | k + 1, h => by
    have ih := xF_vTo f B n k (by omega)
    obtain ⟨m, hm⟩ : ∃ m, n - k = m + 1 := ⟨n - k - 1, by omega⟩
    have h1 : n - (k + 1) = m := by omega
    have h2 : n - 1 - k = m := by omega
    rw [hm] at ih
    unfold xF
    rw [h1, h2, ← ih]
    show (xF f B n k * B + f m) * B ^ m + vTo f B m = xF f B n k * B ^ (m + 1) + (vTo f B m + f m * B ^ m)
    rw [Nat.add_mul, Nat.pow_succ, Nat.mul_assoc, Nat.mul_comm B (B ^ m)]; omega
theorem xF_all (f : Nat → Nat) (B n : Nat) : xF f B n n = vTo f B n := by
  have h := xF_vTo f B n n (Nat.le_refl _)
  rw [Nat.sub_self] at h
  simpa [vTo] using h
theorem xF_lt {f : Nat → Nat} {B n : Nat} (hf : ∀ j, j < n → f j < B) : ∀ k, k ≤ n → xF f B n k < B ^ k
  | 0, _ => by simp [xF]
  | k + 1, h => by
    have ih := xF_lt hf k (by omega)
    have hd := hf (n - 1 - k) (by omega)
    unfold xF
    rw [Nat.pow_succ]
    have : (xF f B n k + 1) * B ≤ B ^ k * B := Nat.mul_le_mul_right _ ih
    rw [Nat.add_mul, Nat.one_mul] at this
    omega
theorem vTo_lt {f : Nat → Nat} {B : Nat} : ∀ i, (∀ j, j < i → f j < B) → vTo f B i < B ^ i
  | 0, _ => by simp [vTo]
  | i + 1, hf => by
    have ih := vTo_lt i fun j hj => hf j (by omega)
    have hd := hf i (by omega)
    show vTo f B i + f i * B ^ i < B ^ (i + 1)
    rw [Nat.pow_succ, Nat.mul_comm (B ^ i) B]
    have : (f i + 1) * B ^ i ≤ B * B ^ i := Nat.mul_le_mul_right _ hd
    rw [Nat.add_mul, Nat.one_mul] at this
    omega
/- a byte's worth; what is laid of a byte; the base -/
def wN (D : Bool) (b : Nat) : Nat := if D then dN b else b
def gN (D : Bool) (b : Nat) : Nat := if D then pk (b % 100) else b
def bN (D : Bool) : Nat := if D then 100 else 256
theorem gN_lt (D : Bool) {b : Nat} (h : b < 256) : gN D b < 256 := by
  unfold gN; cases D
  · exact h
  · exact pk_lt (Nat.mod_lt _ (by decide))
theorem wg_lt (D : Bool) {b : Nat} (h : b < 256) : wN D (gN D b) < bN D := by
  unfold wN gN bN; cases D
  · exact h
  · show dN (pk (b % 100)) < 100
    rw [(pk_dig _ (Nat.mod_lt b (by decide))).2]; exact Nat.mod_lt _ (by decide)
theorem wg_pkd (D : Bool) (b : Nat) : D = true → pkd (gN D b) = true := fun h => by
  subst h; exact (pk_dig _ (Nat.mod_lt b (by decide))).1
theorem dD_and : ∀ q < 256, dD q = dD (q &&& 60) := by decide +kernel
theorem bf_D {a b p : Nat} (hp : p < 256) : dD (bf a b p) = dD p := by
  rw [dD_and _ (bf_lt hp), (bf_is a b p hp).2.2.2.2, ← dD_and p hp]
theorem adF_is {a b p : Nat} (hp : p < 256) : adF a b p < 256 ∧ dD (adF a b p) = dD p ∧ cyN (adF a b p) = (decide (255 < fixA (hA a b p))).toNat := by
  have b1 : wi p 2 (decide (sB a b p % 256 = 0)) < 256 := wi_lt hp (by decide) _
  have b2 := wi_lt b1 (show 128 < 256 by decide) (decide (128 ≤ hA a b p % 256))
  have b3 := wi_lt b2 (show 64 < 256 by decide) (ov a b (hA a b p % 256))
  have h1 := wi_one _ b3 (decide (255 < fixA (hA a b p)))
  have h2 := wi_eight p hp (decide (sB a b p % 256 = 0)) (decide (128 ≤ hA a b p % 256)) (ov a b (hA a b p % 256))
  refine ⟨wi_lt b3 (by decide) _, ?_, ?_⟩
  · show decide (adF a b p / 8 % 2 = 1) = decide (p / 8 % 2 = 1)
    rw [show adF a b p / 8 % 2 = p / 8 % 2 from h1.2.trans h2]
  · show adF a b p % 2 = _
    have h3 : decide (adF a b p % 2 = 1) = decide (255 < fixA (hA a b p)) := h1.1
    rw [← h3]
    by_cases h : adF a b p % 2 = 1
    · rw [decide_eq_true h, h]; rfl
    · rw [decide_eq_false h]
      show adF a b p % 2 = 0
      omega
/- one digit of a sum -/
theorem add_step (D : Bool) (u v p : Nat) (hu : u < 256) (hv : v < 256) (hp : p < 256) (hD : dD p = D) :
    wN D (addV (gN D u) (gN D v) p) + bN D * cyN (addF (gN D u) (gN D v) p) = wN D (gN D u) + wN D (gN D v) + cyN p ∧ wN D (addV (gN D u) (gN D v) p) < bN D ∧ (D = true → pkd (addV (gN D u) (gN D v) p) = true) ∧ addF (gN D u) (gN D v) p < 256 ∧ dD (addF (gN D u) (gN D v) p) = D := by
  have hc := cy_lt p
  cases D
  · have v1 : addV u v p = sB u v p % 256 := by unfold addV; rw [hD, if_neg (by decide)]
    have v2 : addF u v p = bf u v p := by unfold addF; rw [hD, if_neg (by decide)]
    have hs := sB_lt (p := p) hu hv
    have hsu : sB u v p = u + v + cyN p := rfl
    have hb : cyN (bf u v p) = (decide (255 < sB u v p)).toNat := (bf_is u v p hp).1
    show addV u v p + 256 * cyN (addF u v p) = u + v + cyN p ∧ addV u v p < 256 ∧ (false = true → pkd (addV u v p) = true) ∧ addF u v p < 256 ∧ dD (addF u v p) = false
    rw [v1, v2, hb]
    refine ⟨?_, Nat.mod_lt _ (by decide), (fun h => by cases h), bf_lt hp, (bf_D hp).trans hD⟩
    by_cases h : 255 < sB u v p
    · rw [decide_eq_true h, Bool.toNat_true]; omega
    · rw [decide_eq_false h, Bool.toNat_false]; omega
  · have hX : u % 100 < 100 := Nat.mod_lt _ (by decide)
    have hY : v % 100 < 100 := Nat.mod_lt _ (by decide)
    show dN (addV (pk (u % 100)) (pk (v % 100)) p) + 100 * cyN (addF (pk (u % 100)) (pk (v % 100)) p) = dN (pk (u % 100)) + dN (pk (v % 100)) + cyN p ∧ dN (addV (pk (u % 100)) (pk (v % 100)) p) < 100 ∧ (true = true → pkd (addV (pk (u % 100)) (pk (v % 100)) p) = true) ∧ addF (pk (u % 100)) (pk (v % 100)) p < 256 ∧ dD (addF (pk (u % 100)) (pk (v % 100)) p) = true
    rw [(pk_dig _ hX).2, (pk_dig _ hY).2]
    obtain ⟨s1, s2⟩ := dec_sum hX hY hc
    generalize u % 100 = X at *
    generalize v % 100 = Y at *
    have v1 : addV (pk X) (pk Y) p = pk ((X + Y + cyN p) % 100) := by unfold addV; rw [hD, if_pos rfl]; exact s1
    have v2 : addF (pk X) (pk Y) p = adF (pk X) (pk Y) p := by unfold addF; rw [hD, if_pos rfl]
    obtain ⟨f1, f2, f3⟩ := adF_is (a := pk X) (b := pk Y) hp
    have s2' : decide (255 < fixA (hA (pk X) (pk Y) p)) = decide (99 < X + Y + cyN p) := s2
    have hm : (X + Y + cyN p) % 100 < 100 := Nat.mod_lt _ (by decide)
    rw [v1, v2, f3, s2', (pk_dig _ hm).2, (pk_dig _ hm).1]
    refine ⟨?_, hm, fun _ => rfl, f1, f2.trans hD⟩
    · by_cases h : 99 < X + Y + cyN p
      · rw [decide_eq_true h, Bool.toNat_true]; omega
      · rw [decide_eq_false h, Bool.toNat_false]; omega
/- one digit of a difference -/
theorem sub_step (D : Bool) (u v p : Nat) (hu : u < 256) (hv : v < 256) (hp : p < 256) (hD : dD p = D) :
    wN D (subV (gN D u) (gN D v) p) + wN D (gN D v) + 1 + bN D * cyN (subF (gN D u) (gN D v) p) = wN D (gN D u) + cyN p + bN D ∧ wN D (subV (gN D u) (gN D v) p) < bN D ∧ (D = true → pkd (subV (gN D u) (gN D v) p) = true) ∧ subF (gN D u) (gN D v) p < 256 ∧ dD (subF (gN D u) (gN D v) p) = D := by
  have hc := cy_lt p
  have hfl : ∀ x y : Nat, subF x y p < 256 := fun x y => bf_lt hp
  have hfd : ∀ x y : Nat, dD (subF x y p) = dD p := fun x y => bf_D hp
  have hb : ∀ x y : Nat, cyN (subF x y p) = (decide (255 < sB x (255 - y) p)).toNat := fun x y => (bf_is x (255 - y) p hp).1
  cases D
  · have v1 : subV u v p = sB u (255 - v) p % 256 := by unfold subV; rw [hD, if_neg (by decide)]
    have hs := sB_lt (p := p) hu (show 255 - v < 256 by omega)
    have hsu : sB u (255 - v) p = u + (255 - v) + cyN p := rfl
    show subV u v p + v + 1 + 256 * cyN (subF u v p) = u + cyN p + 256 ∧ subV u v p < 256 ∧ (false = true → pkd (subV u v p) = true) ∧ subF u v p < 256 ∧ dD (subF u v p) = false
    rw [v1, hb]
    refine ⟨?_, Nat.mod_lt _ (by decide), (fun h => by cases h), hfl _ _, (hfd _ _).trans hD⟩
    by_cases h : 255 < sB u (255 - v) p
    · rw [decide_eq_true h, Bool.toNat_true]; omega
    · rw [decide_eq_false h, Bool.toNat_false]; omega
  · have hX : u % 100 < 100 := Nat.mod_lt _ (by decide)
    have hY : v % 100 < 100 := Nat.mod_lt _ (by decide)
    show dN (subV (pk (u % 100)) (pk (v % 100)) p) + dN (pk (v % 100)) + 1 + 100 * cyN (subF (pk (u % 100)) (pk (v % 100)) p) = dN (pk (u % 100)) + cyN p + 100 ∧ dN (subV (pk (u % 100)) (pk (v % 100)) p) < 100 ∧ (true = true → pkd (subV (pk (u % 100)) (pk (v % 100)) p) = true) ∧ subF (pk (u % 100)) (pk (v % 100)) p < 256 ∧ dD (subF (pk (u % 100)) (pk (v % 100)) p) = true
    rw [(pk_dig _ hX).2, (pk_dig _ hY).2, hb]
    obtain ⟨s1, s2⟩ := dec_less hX hY hc
    generalize u % 100 = X at *
    generalize v % 100 = Y at *
    have v1 : subV (pk X) (pk Y) p = pk (((X : Int) - (Y : Int) - 1 + (cyN p : Int)) % 100).toNat := by unfold subV; rw [hD, if_pos rfl]; exact s1
    have s2' : decide (255 < sB (pk X) (255 - pk Y) p) = decide (0 ≤ (X : Int) - (Y : Int) - 1 + (cyN p : Int)) := s2
    have hm : (((X : Int) - (Y : Int) - 1 + (cyN p : Int)) % 100).toNat < 100 := by omega
    rw [v1, s2', (pk_dig _ hm).2, (pk_dig _ hm).1]
    refine ⟨?_, hm, fun _ => rfl, hfl _ _, (hfd _ _).trans hD⟩
    · by_cases h : 0 ≤ (X : Int) - (Y : Int) - 1 + (cyN p : Int)
      · rw [decide_eq_true h, Bool.toNat_true]; omega
      · rw [decide_eq_false h, Bool.toNat_false]; omega
end Go.Proofs.Ytgbjoblojkmdnaa
