/- Plain: chains of data that part in one byte. -/
import Derived.Test.YtgefampdfhbmbaaMi
namespace Go.Proofs.Ytgefampdfhbmbaa
set_option linter.unusedVariables false

/-- One byte with the mask put in. -/
def turnS (d : List UInt8) (k : Nat) (m : UInt8) : List UInt8 := d.set k (d.getD k 0 ^^^ m)
theorem turn_len (d : List UInt8) (k : Nat) (m : UInt8) : (turnS d k m).length = d.length := List.length_set ..
theorem turn_at (d : List UInt8) {k : Nat} (hk : k < d.length) (m : UInt8) (j : Nat) : (turnS d k m).getD j 0 = if j = k then d.getD k 0 ^^^ m else d.getD j 0 := by
  unfold turnS
  rw [List.getD_eq_getElem?_getD, List.getElem?_set]
  by_cases h : k = j
  · subst h; rw [if_pos rfl, if_pos hk, if_pos rfl]; rfl
  · rw [if_neg h, if_neg (Ne.symm h), ← List.getD_eq_getElem?_getD]
theorem xor_self_iff (a m : UInt8) : a = a ^^^ m ↔ m = 0 := by
  constructor
  · intro h
    have h2 := congrArg (fun v => a ^^^ v) h
    simp only [← UInt8.xor_assoc, UInt8.xor_self, UInt8.zero_xor] at h2
    exact h2.symm
  · intro h; rw [h, UInt8.xor_zero]
theorem turn_other (d : List UInt8) {k : Nat} (hk : k < d.length) (m : UInt8) {i : Nat} (hi : i ≠ k / 16) : Same16 (bkA d i) (bkA (turnS d k m) i) := fun t ht => by
  unfold bkA
  rw [turn_at d hk, if_neg (by omega)]
theorem turn_here (d : List UInt8) {k : Nat} (hk : k < d.length) (m : UInt8) : Same16 (bkA d (k / 16)) (bkA (turnS d k m) (k / 16)) ↔ m = 0 := by
  constructor
  · intro h
    have h1 := h (k % 16) (Nat.mod_lt _ (by omega))
    unfold bkA at h1
    rw [turn_at d hk, if_pos (by omega), show 16 * (k / 16) + k % 16 = k by omega] at h1
    exact (xor_self_iff _ _).1 h1
  · intro h t ht
    unfold bkA
    rw [turn_at d hk]
    by_cases hj : 16 * (k / 16) + t = k
    · rw [if_pos hj, hj, h, UInt8.xor_zero]
    · rw [if_neg hj]
section
variable {E : (Nat → UInt8) → Nat → UInt8} (hE : ∀ {a b}, Same16 a b → Same16 (E a) (E b)) (h1 : ∀ {a b}, Same16 (E a) (E b) → Same16 a b)
theorem chain_ahead (first : Nat → UInt8) (d : List UInt8) {k : Nat} (hk : k < d.length) (m : UInt8) (hE : ∀ {a b}, Same16 a b → Same16 (E a) (E b)) : (chS E first d).take (16 * (k / 16)) = (chS E first (turnS d k m)).take (16 * (k / 16)) := by
  apply List.ext_getElem?
  intro j
  by_cases hj : j < 16 * (k / 16)
  · rw [List.getElem?_take, if_pos hj, List.getElem?_take, if_pos hj]
    unfold chS
    rw [turn_len, List.getElem?_map, List.getElem?_map, List.getElem?_range (by omega)]
    show some _ = some _
    congr 1
    exact ch_alike hE (fun i hi => turn_other d hk m (by omega)) (j % 16) (Nat.mod_lt _ (by omega))
  · rw [List.getElem?_take, if_neg hj, List.getElem?_take, if_neg hj]
theorem chain_here (first : Nat → UInt8) (d : List UInt8) {k : Nat} (hk : k < d.length) (hw : d.length % 16 = 0) (m : UInt8) (hE : ∀ {a b}, Same16 a b → Same16 (E a) (E b)) (h1 : ∀ {a b}, Same16 (E a) (E b) → Same16 a b) : toL (bkA (chS E first d) (k / 16)) = toL (bkA (chS E first (turnS d k m)) (k / 16)) ↔ m = 0 := by
  have hb : 16 * (k / 16) + 16 ≤ d.length := by omega
  rw [toL_congr (ch_bk hb), toL_congr (ch_bk (by rw [turn_len]; exact hb))]
  constructor
  · intro h
    exact (turn_here d hk m).1 ((ch_part hE h1 (fun i hi => turn_other d hk m (by omega))).1 (toL_inj h))
  · intro h
    exact toL_congr ((ch_part hE h1 (fun i hi => turn_other d hk m (by omega))).2 ((turn_here d hk m).2 h))
theorem chain_next (first : Nat → UInt8) (d : List UInt8) {k : Nat} (hk : k < d.length) (hn : 16 * (k / 16) + 32 ≤ d.length) (hw : d.length % 16 = 0) (m : UInt8) (hE : ∀ {a b}, Same16 a b → Same16 (E a) (E b)) (h1 : ∀ {a b}, Same16 (E a) (E b) → Same16 a b) : toL (bkA (chS E first d) (k / 16 + 1)) = toL (bkA (chS E first (turnS d k m)) (k / 16 + 1)) ↔ m = 0 := by
  have hb : 16 * (k / 16 + 1) + 16 ≤ d.length := by omega
  rw [toL_congr (ch_bk hb), toL_congr (ch_bk (by rw [turn_len]; exact hb))]
  have h2 := ch_next (first := first) hE h1 (turn_other d hk m (i := k / 16 + 1) (by omega))
  have h3 := ch_part (first := first) hE h1 (fun i hi => turn_other d hk m (i := i) (by omega)) (m := k / 16)
  constructor
  · intro h
    exact (turn_here d hk m).1 (h3.1 (h2.1 (toL_inj h)))
  · intro h
    exact toL_congr (h2.2 (h3.2 ((turn_here d hk m).2 h)))
end
/-- A place in a list of n, of whatever number. -/
theorem place (c : Int) {n : Nat} (hn : 0 < n) : ∃ m : Nat, m < n ∧ (c.tmod n + n).tmod n = (m : Int) := by
  have h1 : -(n : Int) < c.tmod n := by
    have := Int.tmod_lt_of_pos (-c) (b := n) (by omega)
    rw [Int.neg_tmod] at this
    omega
  have h2 : c.tmod n < n := Int.tmod_lt_of_pos c (by omega)
  have h3 : 0 ≤ c.tmod n + n := by omega
  refine ⟨((c.tmod n + n).tmod n).toNat, ?_, ?_⟩
  · have h4 := Int.tmod_lt_of_pos (c.tmod n + n) (b := n) (by omega)
    have h5 := Int.tmod_nonneg (n : Int) h3
    omega
  · have h5 := Int.tmod_nonneg (n : Int) h3
    omega
end Go.Proofs.Ytgefampdfhbmbaa
