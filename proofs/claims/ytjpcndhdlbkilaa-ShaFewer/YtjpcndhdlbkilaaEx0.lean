/- Plain: states that go on alike; words out of bytes; the padding ends a block. -/
import Derived.Test.YtjpcndhdlbkilaaLv
namespace Go.Proofs.Ytjpcndhdlbkilaa
set_option linter.unusedVariables false

def Eqv (k : Nat) (s t : Ps) : Prop := s.n = t.n ∧ s.c = t.c ∧ ∀ i, i < s.n % blkN k → s.r i = t.r i
theorem step_eqv {k : Nat} {s t : Ps} (h : Eqv k s t) (x : UInt8) : Eqv k (stepP k s x) (stepP k t x) := by
  obtain ⟨n, r, c⟩ := s
  obtain ⟨n', r', c'⟩ := t
  obtain ⟨h1, h2, h3⟩ := h
  simp only at h1 h2 h3
  subst h1 h2
  have hr : ∀ i, i ≤ n % blkN k → (if i = n % blkN k then x else r i) = (if i = n % blkN k then x else r' i) := fun i hi => by
    by_cases h : i = n % blkN k
    · rw [if_pos h, if_pos h]
    · rw [if_neg h, if_neg h, h3 i (by omega)]
  refine ⟨rfl, ?_, ?_⟩
  · unfold stepP
    simp only
    by_cases h : n % blkN k = blkN k - 1
    · rw [if_pos h, if_pos h]
      exact afK_congr k _ _ c fun i hi => hr i (by omega)
    · rw [if_neg h, if_neg h]
  · intro i hi
    have hi2 : i ≤ n % blkN k := by
      have : i < ((n + 1) % 18446744073709551616) % blkN k := hi
      unfold blkN at *
      by_cases hk : 256 < k
      · rw [if_pos hk] at *; omega
      · rw [if_neg hk] at *; omega
    exact hr i hi2
theorem feed_eqv {k : Nat} : ∀ (l : List UInt8) {s t : Ps}, Eqv k s t → Eqv k (feedP k s l) (feedP k t l)
  | [], _, _, h => h
  | x :: l, _, _, h => feed_eqv l (step_eqv h x)
theorem dg_eqv {k : Nat} {s t : Ps} (h : Eqv k s t) : dgP k s = dgP k t := by
  funext i
  unfold dgP
  rw [h.1, (feed_eqv (padL k t.n) h).2.1]
theorem rm_ends (k n : Nat) : (n + rmS (blkN k) n) % blkN k = 0 := by
  unfold blkN rmS
  by_cases hk : 256 < k
  · rw [if_pos hk]; split <;> omega
  · rw [if_neg hk]; split <;> omega
theorem or_add (x y : Nat) (hy : y < 256) : x * 256 ||| y = x * 256 + y := by
  have := Nat.shiftLeft_add_eq_or_of_lt (a := x) (b := y) (i := 8) hy
  rw [Nat.shiftLeft_eq] at this
  exact this.symm
/- the words of a chain's bytes are the chain's -/
theorem be_cb (n : Nat) (hn : 0 < n) (c : Nat → Nat) (j : Nat) (hc : c j < 2 ^ (8 * n)) : ∀ i, i ≤ n → beTo (cbS n c) (j * n) i = c j / 2 ^ (8 * (n - i))
  | 0, _ => by show 0 = _; rw [Nat.sub_zero, Nat.div_eq_of_lt hc]
  | i + 1, hi => by
    show beTo (cbS n c) (j * n) i * 256 ||| ((cbS n c (j * n + i)).toNat) = _
    rw [be_cb n hn c j hc i (by omega), cbS_nat]
    have h1 : (j * n + i) / n = j := by rw [Nat.mul_comm, Nat.mul_add_div hn, Nat.div_eq_of_lt (by omega), Nat.add_zero]
    have h2 : (j * n + i) % n = i := by rw [Nat.mul_comm, Nat.mul_add_mod, Nat.mod_eq_of_lt (by omega)]
    rw [h1, h2, or_add _ _ (Nat.mod_lt _ (by decide)), show 8 * (n - i) = 8 * (n - 1 - i) + 8 by omega, show n - (i + 1) = n - 1 - i by omega, Nat.pow_add, ← Nat.div_div_eq_div_mul]
    show c j / 2 ^ (8 * (n - 1 - i)) / 256 * 256 + _ = _
    omega
theorem be_back (n : Nat) (hn : 0 < n) (c : Nat → Nat) (j : Nat) (hc : c j < 2 ^ (8 * n)) : beTo (cbS n c) (j * n) n = c j := by
  rw [be_cb n hn c j hc n (Nat.le_refl _), Nat.sub_self, Nat.mul_zero, Nat.pow_zero, Nat.div_one]
/- who knows a digest and a length goes on -/
theorem extends_plain (k : Nat) (m x : List UInt8) (hm : m.length + 256 < 18446744073709551616) : dgP k (feedP k ⟨m.length + rmS (blkN k) m.length, fun _ => 0, (feedP k (newP k) (m ++ padL k m.length)).c⟩ x) = dgP k (feedP k (newP k) ((m ++ padL k m.length) ++ x)) := by
  have key : ∀ S : Ps, S.n = m.length + rmS (blkN k) m.length → dgP k (feedP k ⟨m.length + rmS (blkN k) m.length, fun _ => 0, S.c⟩ x) = dgP k (feedP k S x) := fun S hS => by
    have he : Eqv k ⟨m.length + rmS (blkN k) m.length, fun _ => 0, S.c⟩ S := ⟨hS.symm, rfl, fun i hi => by
      have : i < (m.length + rmS (blkN k) m.length) % blkN k := hi
      rw [rm_ends] at this
      omega⟩
    exact dg_eqv (feed_eqv x he)
  rw [feed_app k (newP k) (m ++ padL k m.length) x]
  refine key _ ?_
  rw [feed_n k _ _ (show 0 < 18446744073709551616 by decide), List.length_append, padL_len]
  show (0 + _) % _ = _
  have := blk_pos k
  have : rmS (blkN k) m.length ≤ 256 := by unfold rmS; split <;> omega
  omega
end Go.Proofs.Ytjpcndhdlbkilaa
