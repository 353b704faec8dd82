/- Plain facts: what stands behind a number, and is no digit of its kind, changes nothing; the number alone is read as the head was. -/
import Derived.Test.YtmmlmpcalhfigabRead
namespace Go.Proofs.Ytmmlmpcalhfigab
open Go
set_option linter.unusedVariables false

theorem runS_pre {K : Nat} {s t : List UInt8} {n : Nat} (hn : n ≤ t.length) (hag : ∀ j, j < n → byteAt t j = byteAt s j) (hst : ¬ (n < t.length ∧ ofB (byteAt t n) K = true)) : ∀ (f i v0 v : Nat), i ≤ s.length → runS K s f i v0 = (some v, n) → runS K t (t.length - i) i v0 = (some v, n)
  | 0, i, v0, v, hi, h => by
    simp only [runS, Prod.mk.injEq, Option.some.injEq] at h
    obtain ⟨rfl, rfl⟩ := h
    exact runS_stop hst
  | f + 1, i, v0, v, hi, h => by
    rw [runS] at h
    split at h
    · rename_i hc
      split at h
      · simp at h
      · rename_i hb
        have hle := (runS_le K s f (i + 1) _ (by omega) _ _ h).1
        have ha := hag i (by omega)
        rw [runS_step (by omega) (by rw [ha]; exact hc.2) (by rw [ha]; exact hb), ha]
        exact runS_pre hn hag hst f (i + 1) _ v (by omega) h
    · simp only [Prod.mk.injEq, Option.some.injEq] at h
      obtain ⟨rfl, rfl⟩ := h
      exact runS_stop hst
theorem runS_digits {K : Nat} {s : List UInt8} {n : Nat} : ∀ (f i v0 v : Nat), i ≤ s.length → runS K s f i v0 = (some v, n) → ∀ j, i ≤ j → j < n → ofB (byteAt s j) K = true
  | 0, i, v0, v, hi, h, j, h1, h2 => by
    simp only [runS, Prod.mk.injEq, Option.some.injEq] at h
    omega
  | f + 1, i, v0, v, hi, h, j, h1, h2 => by
    rw [runS] at h
    split at h
    · rename_i hc
      split at h
      · simp at h
      · by_cases e : j = i
        · subst e; exact hc.2
        · exact runS_digits f (i + 1) _ v (by omega) h j (by omega) h2
    · simp only [Prod.mk.injEq, Option.some.injEq] at h
      omega
theorem head_inv {s : List UInt8} {v K n : Nat} (h : headS s = (v, K, n, 0)) : (markS s).1 = K ∧ runS K s (s.length - (markS s).2) (markS s).2 0 = (some v, n) ∧ (markS s).2 < n ∧ n ≤ s.length := by
  have hm := markS_le s
  unfold headS at h
  cases hr : runS (markS s).1 s (s.length - (markS s).2) (markS s).2 0 with
  | mk o i =>
    have h2 := runS_le _ _ _ _ _ hm.1 _ _ hr
    rw [hr] at h
    cases o with
    | none => simp at h
    | some v' =>
      simp only at h
      split at h
      · simp at h
      · rename_i hi
        simp only [Prod.mk.injEq, and_true] at h
        obtain ⟨rfl, rfl, rfl⟩ := h
        exact ⟨rfl, hr, by omega, h2.2⟩
theorem head_err {s : List UInt8} (h : (headS s).2.2.2 ≠ 0) : (headS s).1 = 0 ∧ (headS s).2.1 = 0 := by
  unfold headS at h ⊢
  cases hr : runS (markS s).1 s (s.length - (markS s).2) (markS s).2 0 with
  | mk o i =>
    rw [hr] at h
    cases o with
    | none => exact ⟨rfl, rfl⟩
    | some v' =>
      simp only at h ⊢
      split
      · exact ⟨rfl, rfl⟩
      · rename_i hi
        rw [if_neg hi] at h
        exact absurd rfl h

theorem ofB_10 {c : Nat} (h : ofB c 10 = true) : 48 ≤ c ∧ c ≤ 57 := by
  unfold ofB digV at h
  rw [Bool.and_eq_true, decide_eq_true_eq, decide_eq_true_eq] at h
  split at h
  · assumption
  · split at h
    · omega
    · split at h <;> omega
theorem markS_cases (s : List UInt8) : ((0 < s.length ∧ byteAt s 0 = 36) ∧ markS s = (16, 1)) ∨ ((0 < s.length ∧ byteAt s 0 = 37) ∧ markS s = (2, 1)) ∨ ((0 < s.length ∧ byteAt s 0 = 64) ∧ markS s = (8, 1)) ∨ ((2 < s.length ∧ byteAt s 0 = 48 ∧ (byteAt s 1 = 120 ∨ byteAt s 1 = 88) ∧ ofB (byteAt s 2) 16 = true) ∧ markS s = (16, 2)) ∨
    (¬ (0 < s.length ∧ byteAt s 0 = 36) ∧ ¬ (0 < s.length ∧ byteAt s 0 = 37) ∧ ¬ (0 < s.length ∧ byteAt s 0 = 64) ∧ markS s = (10, 0)) := by
  by_cases h1 : 0 < s.length ∧ byteAt s 0 = 36
  · exact .inl ⟨h1, by unfold markS; rw [if_pos h1]⟩
  by_cases h2 : 0 < s.length ∧ byteAt s 0 = 37
  · exact .inr (.inl ⟨h2, by unfold markS; rw [if_neg h1, if_pos h2]⟩)
  by_cases h3 : 0 < s.length ∧ byteAt s 0 = 64
  · exact .inr (.inr (.inl ⟨h3, by unfold markS; rw [if_neg h1, if_neg h2, if_pos h3]⟩))
  by_cases h4 : 2 < s.length ∧ byteAt s 0 = 48 ∧ (byteAt s 1 = 120 ∨ byteAt s 1 = 88) ∧ ofB (byteAt s 2) 16 = true
  · exact .inr (.inr (.inr (.inl ⟨h4, by unfold markS; rw [if_neg h1, if_neg h2, if_neg h3, if_pos h4]⟩)))
  · exact .inr (.inr (.inr (.inr ⟨h1, h2, h3, by unfold markS; rw [if_neg h1, if_neg h2, if_neg h3, if_neg h4]⟩)))

/-- A text that begins as the number does, and goes on otherwise, has the same head. -/
theorem head_same {s t : List UInt8} {v K n : Nat} (h : headS s = (v, K, n, 0)) (hn : n ≤ t.length) (hag : ∀ j, j < n → byteAt t j = byteAt s j) (hst : ¬ (n < t.length ∧ ofB (byteAt t n) K = true)) (hx : ¬ (n = 1 ∧ byteAt s 0 = 48 ∧ 1 < t.length ∧ (byteAt t 1 = 120 ∨ byteAt t 1 = 88))) : headS t = (v, K, n, 0) := by
  obtain ⟨hK, hr, hA, hl⟩ := head_inv h
  have h0 := hag 0 (by omega)
  have hm : markS t = markS s := by
    rcases markS_cases s with ⟨hc, he⟩ | ⟨hc, he⟩ | ⟨hc, he⟩ | ⟨hc, he⟩ | ⟨n1, n2, n3, he⟩
    · rw [he]; unfold markS; rw [if_pos ⟨by omega, by rw [h0]; exact hc.2⟩]
    · rw [he]; unfold markS; rw [if_neg (by omega), if_pos ⟨by omega, by rw [h0]; exact hc.2⟩]
    · rw [he]; unfold markS; rw [if_neg (by omega), if_neg (by omega), if_pos ⟨by omega, by rw [h0]; exact hc.2⟩]
    · rw [he] at hA ⊢
      simp only at hA
      have h1 := hag 1 (by omega)
      have h2 := hag 2 (by omega)
      unfold markS
      rw [if_neg (by omega), if_neg (by omega), if_neg (by omega), if_pos ⟨by omega, by omega, by omega, by rw [h2]; exact hc.2.2.2⟩]
    · rw [he] at hA hr ⊢
      simp only at hA hr
      have hK' : K = 10 := by rw [← hK, he]
      subst hK'
      unfold markS
      rw [if_neg (by omega), if_neg (by omega), if_neg (by omega), if_neg]
      rintro ⟨q1, q2, q3, _⟩
      by_cases hn1 : n = 1
      · exact hx ⟨hn1, by omega, by omega, q3⟩
      · have hd := ofB_10 (runS_digits _ _ _ _ (by omega) hr 1 (by omega) (by omega))
        have h1 := hag 1 (by omega)
        omega
  have hr2 := runS_pre hn hag hst _ _ _ _ (markS_le s).1 hr
  unfold headS
  rw [hm, hK, hr2]
  simp only
  rw [if_neg (by omega)]

theorem byteAt_take {s : List UInt8} {n j : Nat} (h : j < n) : byteAt (s.take n) j = byteAt s j := by
  unfold byteAt; rw [List.getD, List.getD, List.getElem?_take, if_pos h]
theorem byteAt_app {p r : List UInt8} {j : Nat} (h : j < p.length) : byteAt (p ++ r) j = byteAt p j := by
  unfold byteAt; rw [List.getD, List.getD, List.getElem?_append_left h]
/-- The number alone is read as the head was. -/
theorem heads_read {s : List UInt8} {v K n : Nat} (h : headS s = (v, K, n, 0)) : readS (s.take n) = (v, K, 0, 0) := by
  obtain ⟨_, _, hA, hl⟩ := head_inv h
  have hlen : (s.take n).length = n := by rw [List.length_take]; omega
  have h1 := head_same (t := s.take n) h (by omega) (fun j hj => byteAt_take hj) (by omega) (by omega)
  rw [readS_eq h1, if_neg (by simp), if_neg (by omega)]
/-- F2.2: what stands behind it changes nothing. -/
theorem heads_behind {s : List UInt8} {v K n : Nat} (h : headS s = (v, K, n, 0)) (c : UInt8) (hc : ofB c.toNat K = false) (hx : ¬ (s.take n = [48] ∧ (c.toNat = 120 ∨ c.toNat = 88))) : headS (s.take n ++ c :: s) = (v, K, n, 0) := by
  obtain ⟨_, _, hA, hl⟩ := head_inv h
  have hlen : (s.take n).length = n := by rw [List.length_take]; omega
  have hb : byteAt (s.take n ++ c :: s) n = c.toNat := by
    unfold byteAt
    rw [List.getD, List.getElem?_append_right (by omega), hlen, Nat.sub_self]
    rfl
  refine head_same h (by simp; omega) (fun j hj => (byteAt_app (by omega)).trans (byteAt_take hj)) (fun q => by rw [hb, hc] at q; cases q.2) ?_
  rintro ⟨rfl, q0, _, q1⟩
  rw [hb] at q1
  refine hx ⟨?_, q1⟩
  match s, hl, q0 with
  | a :: l, _, q0 =>
    have : a = 48 := UInt8.toNat_inj.1 q0
    rw [this]; rfl
end Go.Proofs.Ytmmlmpcalhfigab
