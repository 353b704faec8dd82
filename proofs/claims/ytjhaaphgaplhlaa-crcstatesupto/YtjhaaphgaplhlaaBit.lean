/- What greatest and bitIn of the program answer. -/
import Derived.Test.YtjhaaphgaplhlaaBase
import Derived.Test.YtjhaaphgaplhlaaMthb
import Derived.BigQuiet
import Derived.Laws.ShiftsVarLaws
namespace Go.Proofs.Ytjhaaphgaplhlaa
open Go.RowKit
set_option linter.unusedVariables false

theorem hidD {q : Prop} (h : q) : Hid q := h
/-- A model. -/
structure Md where
  name : ByteArray
  w : Nat
  P : Nat
  I : Nat
  inn : Bool
  out : Bool
  X : Nat
structure MdOk (m : Md) : Prop where
  lo : 3 ≤ m.w
  hi : m.w ≤ 64
  P : m.P < 2 ^ m.w
  I : m.I < 2 ^ m.w
  X : m.X < 2 ^ m.w
def Md.v (m : Md) : Value := .agg #[.string m.name, .int .i64 m.w, .int .u64 m.P, .int .u64 m.I, .bool m.inn, .bool m.out, .int .u64 m.X]

theorem great_val {n : Nat} (h : n ≤ 64) : IntKind.u64.wrap (IntKind.u64.wrap (2 ^ n) - 1) = ((2 ^ n - 1 : Nat) : Int) := by
  have h1 : ∀ k : Fin 65, IntKind.u64.wrap (IntKind.u64.wrap (2 ^ k.val) - 1) = ((2 ^ k.val - 1 : Nat) : Int) := by decide +kernel
  exact h1 ⟨n, by omega⟩

set_option maxRecDepth 100000 in
set_option maxHeartbeats 400000 in
theorem greatest_any (n : Nat) (h : n ≤ 64) (w : World) : Calls Try.prog 51 #[.int .i64 n] w fun e w' => e = .returned (.int .u64 ((2 ^ n - 1 : Nat) : Int)) ∧ Below w.heap.size w w' := by
  have hv := great_val h
  generalize 2 ^ n - 1 = M at *
  go_enter Try.func51, Try.ntmps51
  go_wp2_with fail
  go_ret
  exact ⟨rfl, Below.refl _ _⟩

theorem pow64 {w : Nat} (h : w ≤ 64) : 2 ^ w ≤ 18446744073709551616 := Nat.pow_le_pow_right (n := 2) (by omega) h
theorem top_val {r v : Nat} (hr : r < 2 ^ (v + 1)) : (r : Int) / 2 ^ v = ((r.testBit v).toNat : Int) := by
  have h1 : r / 2 ^ v = (r.testBit v).toNat := by
    have h2 : r / 2 ^ v < 2 := by rw [Nat.div_lt_iff_lt_mul (Nat.two_pow_pos v), Nat.mul_comm, ← Nat.pow_succ]; exact hr
    rw [Nat.testBit_eq_decide_div_mod_eq]
    by_cases h : r / 2 ^ v = 0
    · simp [h]
    · have : r / 2 ^ v = 1 := by generalize r / 2 ^ v = q at *; omega
      simp [this]
  rw [← h1]; simp
theorem dbl_and {r w : Nat} (h : w ≤ 64) (hr : r < 2 ^ w) : bits .and .u64 (IntKind.u64.wrap ((r : Int) * 2)) ((2 ^ w - 1 : Nat) : Int) = (((2 * r) % 2 ^ w : Nat) : Int) := by
  have hp := pow64 h
  have e1 : IntKind.u64.wrap ((r : Int) * 2) = ((2 * r % 18446744073709551616 : Nat) : Int) := by rw [IntKind.wrap_u64]; omega
  rw [e1, u64_and_nat _ _ (by omega) (by omega), Nat.and_two_pow_sub_one_eq_mod]
  congr 1
  exact Nat.mod_mod_of_dvd _ (Nat.pow_dvd_pow 2 h)

set_option maxRecDepth 100000 in
set_option maxHeartbeats 400000 in
theorem bitIn_any (m : Md) (hm : MdOk m) (r : Nat) (hr : r < 2 ^ m.w) (c : Bool) (w : World) : Calls Try.prog 65 #[m.v, .int .u64 r, .int .u64 (c.toNat : Int)] w fun e w' => e = .returned (.int .u64 (stepB m.w m.P r c : Nat)) ∧ Below w.heap.size w w' := by
  obtain ⟨nm, ww, P, I, inn, out, X⟩ := m
  obtain ⟨hlo, hhi, hP, hI, hX⟩ := hm
  simp only at hlo hhi hP hI hX hr ⊢
  obtain ⟨v, rfl⟩ : ∃ v, ww = v + 1 := ⟨ww - 1, by omega⟩
  have hp := pow64 hhi
  have hq := top_val hr
  have hd := dbl_and hhi hr
  have hx : bits .xor .u64 (((2 * r) % 2 ^ (v + 1) : Nat) : Int) (P : Int) = (((2 * r) % 2 ^ (v + 1) ^^^ P : Nat) : Int) := u64_xor_nat _ _ (Nat.lt_of_lt_of_le (Nat.mod_lt _ (Nat.two_pow_pos _)) hp) (by omega)
  have HG : Hid (∀ w, Calls Try.prog 51 #[.int .i64 ((v : Int) + 1)] w fun e w' => e = .returned (.int .u64 ((2 ^ (v + 1) - 1 : Nat) : Int)) ∧ Below w.heap.size w w') := fun w => greatest_any (v + 1) hhi w
  have HS : Hid (stepB (v + 1) P r c = if r.testBit v = c then (2 * r) % 2 ^ (v + 1) else (2 * r) % 2 ^ (v + 1) ^^^ P) := by
    show _ = _
    unfold stepB sel
    rw [Nat.add_sub_cancel]
    cases r.testBit v <;> cases c <;> simp
  have hv63 : (v : Int) ≤ 63 := by omega
  clear hlo hP hI hX hr hp
  generalize stepB (v + 1) P r c = S at *
  generalize 2 * r % 2 ^ (v + 1) = D at *
  generalize D ^^^ P = DX at *
  generalize 2 ^ (v + 1) - 1 = G at *
  generalize r.testBit v = t at *
  unfold Md.v
  have HB : Hid (∀ o, Below w.heap.size w (w.alloc o)) := fun o => (Below.refl w.heap.size w).alloc (Nat.le_refl _) o
  by_cases htc : t = c
  · subst htc
    rw [if_pos rfl] at HS
    generalize (t.toNat : Int) = z at *
    go_enter Try.func65, Try.ntmps65
    go_wp2_with (go_at_call 51; refine (HG.out _).mono ?_; rintro e w2 ⟨rfl, hb2⟩)
    go_ret
    rw [HS.out]
    exact ⟨rfl, (HB.out _).trans (hb2.mono (by simp))⟩
  · rw [if_neg htc] at HS
    have hne : ¬ (t.toNat : Int) = (c.toNat : Int) := by revert htc; cases t <;> cases c <;> simp
    clear htc
    generalize (t.toNat : Int) = z at *
    generalize (c.toNat : Int) = z' at *
    go_enter Try.func65, Try.ntmps65
    go_wp2_with (go_at_call 51; refine (HG.out _).mono ?_; rintro e w2 ⟨rfl, hb2⟩; have hP2 : w2.cell? ⟨w.heap.size, 2, none⟩ = some (.int .u64 (P : Int)) := by (rw [hb2.cell (by simp), World.cell?_alloc_new]; rfl))
    go_ret
    rw [HS.out]
    exact ⟨rfl, (HB.out _).trans (hb2.mono (by simp))⟩
end Go.Proofs.Ytjhaaphgaplhlaa
