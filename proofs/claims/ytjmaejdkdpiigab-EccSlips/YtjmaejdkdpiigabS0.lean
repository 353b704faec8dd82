/- A slip in a right number: one digit changed, two neighbours exchanged. -/
import Derived.Test.YtjmaejdkdpiigabP1
namespace Go.Proofs.Ytjmaejdkdpiigab
open Go.RowKit
set_option linter.unusedVariables false

theorem byte_set (t : List UInt8) (p : Nat) (c : UInt8) (i : Nat) (hp : p < t.length) : byteAt (t.set p c) i = if i = p then c.toNat else byteAt t i := by
  unfold byteAt
  by_cases h : i = p
  · subst h; rw [if_pos rfl]; simp [List.getD, hp]
  · rw [if_neg h]; simp [List.getD, Ne.symm h]
theorem dg_set (t : List UInt8) (p : Nat) (c : UInt8) (hp : p < t.length) (i : Nat) : dgS (t.set p c) i = if i = t.length - 1 - p then c.toNat - 48 else dgS t i := by
  unfold dgS
  rw [List.length_set, byte_set t p c _ hp]
  by_cases hi : i < t.length
  · by_cases h : i = t.length - 1 - p
    · rw [if_pos hi, if_pos (by omega), if_pos h]
    · rw [if_pos hi, if_neg (by omega), if_neg h, if_pos hi]
  · rw [if_neg hi, if_neg (by omega), if_neg hi]
theorem all_set {t : List UInt8} (h : AllD t) (p : Nat) (c : UInt8) (hp : p < t.length) (hc : 48 ≤ c.toNat ∧ c.toNat ≤ 57) : AllD (t.set p c) := fun i hi => by
  rw [List.length_set] at hi
  unfold Gd
  rw [byte_set t p c i hp]
  by_cases e : i = p
  · rw [if_pos e]; exact hc
  · rw [if_neg e]; exact h i hi
theorem dg_at (t : List UInt8) (p : Nat) (hp : p < t.length) : dgS t (t.length - 1 - p) = byteAt t p - 48 := by
  unfold dgS
  rw [if_pos (by omega), show t.length - 1 - (t.length - 1 - p) = p by omega]
theorem lr_set {t : List UInt8} (h : lrP t) (p : Nat) (c : UInt8) (hp : p < t.length) (hc : 48 ≤ c.toNat ∧ c.toNat ≤ 57) : decide (lrP (t.set p c)) = decide (c.toNat = byteAt t p) := by
  obtain ⟨h1, h2, h3⟩ := h
  have hs := all_set h2 p c hp hc
  have hb := h2 p hp
  unfold Gd at hb
  apply decide_eq_decide.mpr
  constructor
  · rintro ⟨_, _, q⟩
    rw [List.length_set] at q
    have := su_change (dg_dgs h2) (dg_dgs hs) 0 (t.length - 1 - p) (fun i hi => by rw [dg_set t p c hp, if_neg hi]) t.length (by omega) (by rw [q, h3])
    rw [dg_set t p c hp, if_pos rfl, dg_at t p hp] at this
    omega
  · intro e
    refine ⟨by intro h0; rw [List.set_eq_nil_iff] at h0; exact h1 h0, hs, ?_⟩
    rw [List.length_set]
    exact (su_ext (f := dgS t) 0 _ fun i hi => by
      rw [dg_set t p c hp]
      by_cases hk : i = t.length - 1 - p
      · rw [if_pos hk, hk, dg_at t p hp, e]
      · rw [if_neg hk]).trans h3
theorem vr_set {t : List UInt8} (h : vrP t) (p : Nat) (c : UInt8) (hp : p < t.length) (hc : 48 ≤ c.toNat ∧ c.toNat ≤ 57) : decide (vrP (t.set p c)) = decide (c.toNat = byteAt t p) := by
  obtain ⟨h1, h2, h3⟩ := h
  have hs := all_set h2 p c hp hc
  have hb := h2 p hp
  unfold Gd at hb
  apply decide_eq_decide.mpr
  constructor
  · rintro ⟨_, _, q⟩
    rw [List.length_set] at q
    have := ve_change (dg_dgs h2) (dg_dgs hs) 0 (t.length - 1 - p) (fun i hi => by rw [dg_set t p c hp, if_neg hi]) t.length (by omega) (by rw [q, h3])
    rw [dg_set t p c hp, if_pos rfl, dg_at t p hp] at this
    omega
  · intro e
    refine ⟨by intro h0; rw [List.set_eq_nil_iff] at h0; exact h1 h0, hs, ?_⟩
    rw [List.length_set]
    exact (ve_ext (f := dgS t) 0 _ fun i hi => by
      rw [dg_set t p c hp]
      by_cases hk : i = t.length - 1 - p
      · rw [if_pos hk, hk, dg_at t p hp, e]
      · rw [if_neg hk]).trans h3
/- two neighbours exchanged -/
def swL (t : List UInt8) (p : Nat) : List UInt8 := (t.set p (t.getD (p + 1) 0)).set (p + 1) (t.getD p 0)
theorem sw_len (t : List UInt8) (p : Nat) : (swL t p).length = t.length := by unfold swL; rw [List.length_set, List.length_set]
theorem sw_ne {t : List UInt8} (p : Nat) (hp : p + 1 < t.length) : swL t p ≠ [] := fun h0 => by
  have hz : (swL t p).length = 0 := by rw [h0]; rfl
  rw [sw_len] at hz
  omega
theorem dg_sw (t : List UInt8) (p : Nat) (hp : p + 1 < t.length) (i : Nat) : dgS (swL t p) i = if i = t.length - 1 - (p + 1) then byteAt t p - 48 else if i = t.length - 1 - p then byteAt t (p + 1) - 48 else dgS t i := by
  unfold swL
  rw [dg_set _ (p + 1) _ (by rw [List.length_set]; exact hp), List.length_set, dg_set t p _ (by omega)]
  rfl
theorem all_sw {t : List UInt8} (h : AllD t) (p : Nat) (hp : p + 1 < t.length) : AllD (swL t p) :=
  all_set (all_set h p _ (by omega) (h (p + 1) hp)) (p + 1) _ (by rw [List.length_set]; exact hp) (h p (by omega))
theorem sw_facts {t : List UInt8} (p : Nat) (hp : p + 1 < t.length) : (∀ i, i ≠ t.length - 2 - p → i ≠ t.length - 2 - p + 1 → dgS (swL t p) i = dgS t i) ∧ dgS (swL t p) (t.length - 2 - p) = dgS t (t.length - 2 - p + 1) ∧ dgS (swL t p) (t.length - 2 - p + 1) = dgS t (t.length - 2 - p) := by
  have e1 : t.length - 2 - p = t.length - 1 - (p + 1) := by omega
  have e2 : t.length - 2 - p + 1 = t.length - 1 - p := by omega
  refine ⟨fun i h1 h2 => ?_, ?_, ?_⟩
  · rw [dg_sw t p hp, if_neg (by omega), if_neg (by omega)]
  · rw [dg_sw t p hp, if_pos e1, e2, dg_at t p (by omega)]
  · rw [dg_sw t p hp, if_neg (by omega), if_pos e2, e1, dg_at t (p + 1) hp]
theorem lr_sw {t : List UInt8} (h : lrP t) (p : Nat) (hp : p + 1 < t.length) : decide (lrP (swL t p)) = decide (byteAt t p = byteAt t (p + 1) ∨ byteAt t p = 48 ∧ byteAt t (p + 1) = 57 ∨ byteAt t p = 57 ∧ byteAt t (p + 1) = 48) := by
  obtain ⟨h1, h2, h3⟩ := h
  obtain ⟨f1, f2, f3⟩ := sw_facts p hp
  have hs := all_sw h2 p hp
  have q := su_swap (dg_dgs h2) (dg_dgs hs) 0 (t.length - 2 - p) f1 f2 f3 t.length (by omega)
  have b1 := h2 p (by omega)
  have b2 := h2 (p + 1) hp
  unfold Gd at b1 b2
  have g1 : dgS t (t.length - 2 - p) = byteAt t (p + 1) - 48 := by rw [show t.length - 2 - p = t.length - 1 - (p + 1) by omega, dg_at t (p + 1) hp]
  have g2 : dgS t (t.length - 2 - p + 1) = byteAt t p - 48 := by rw [show t.length - 2 - p + 1 = t.length - 1 - p by omega, dg_at t p (by omega)]
  rw [g1, g2, h3] at q
  apply decide_eq_decide.mpr
  unfold lrP
  rw [sw_len, q]
  constructor
  · rintro ⟨_, _, r⟩; omega
  · intro r
    refine ⟨sw_ne p hp, hs, by omega⟩
theorem vr_sw {t : List UInt8} (h : vrP t) (p : Nat) (hp : p + 1 < t.length) : decide (vrP (swL t p)) = decide (byteAt t p = byteAt t (p + 1)) := by
  obtain ⟨h1, h2, h3⟩ := h
  obtain ⟨f1, f2, f3⟩ := sw_facts p hp
  have hs := all_sw h2 p hp
  have q := ve_swap (dg_dgs h2) (dg_dgs hs) 0 (t.length - 2 - p) f1 f2 f3 t.length (by omega)
  have b1 := h2 p (by omega)
  have b2 := h2 (p + 1) hp
  unfold Gd at b1 b2
  have g1 : dgS t (t.length - 2 - p) = byteAt t (p + 1) - 48 := by rw [show t.length - 2 - p = t.length - 1 - (p + 1) by omega, dg_at t (p + 1) hp]
  have g2 : dgS t (t.length - 2 - p + 1) = byteAt t p - 48 := by rw [show t.length - 2 - p + 1 = t.length - 1 - p by omega, dg_at t p (by omega)]
  rw [g1, g2, h3] at q
  apply decide_eq_decide.mpr
  unfold vrP
  rw [sw_len]
  constructor
  · rintro ⟨_, _, r⟩; have := q r; omega
  · intro r
    refine ⟨sw_ne p hp, hs, ?_⟩
    exact (ve_ext (f := dgS t) 0 _ fun i hi => by
      by_cases e1 : i = t.length - 2 - p
      · subst e1; rw [f2, g1, g2, r]
      · by_cases e2 : i = t.length - 2 - p + 1
        · subst e2; rw [f3, g1, g2, r]
        · exact f1 i e1 e2).trans h3
end Go.Proofs.Ytjmaejdkdpiigab
