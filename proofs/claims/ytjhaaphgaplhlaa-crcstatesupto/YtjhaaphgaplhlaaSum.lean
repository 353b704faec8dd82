/- What turnedOut, ended and sumOf of the program answer. -/
import Derived.Test.YtjhaaphgaplhlaaByt
import Derived.Laws.Unary
namespace Go.Proofs.Ytjhaaphgaplhlaa
open Go.RowKit
set_option linter.unusedVariables false

def encB (b : UInt8) : Value := .int .u8 (b.toNat : Int)
/-- A slice value reads as these bytes. -/
def ByAt (w : World) (sl : Value) (bs : List UInt8) : Prop :=
  (bs = [] ∧ ∃ a cap, sl = .slice a 0 cap ∧ (a = none → cap = 0)) ∨
  ∃ g off cap, sl = .slice (some ⟨g, off, none⟩) bs.length cap ∧ g < w.heap.size ∧ ∀ j, j < bs.length → w.cell? ⟨g, off + j, none⟩ = some (encB (bs.getD j 0))
theorem ByAt.below {B : Nat} {w w' : World} {sl : Value} {bs : List UInt8} (h : ByAt w sl bs) (hb : Below B w w') (hB : w.heap.size ≤ B) : ByAt w' sl bs := by
  rcases h with h | ⟨g, off, cap, rfl, hg, hc⟩
  · exact .inl h
  · refine .inr ⟨g, off, cap, rfl, Nat.lt_of_lt_of_le hg hb.size, fun j hj => ?_⟩
    rw [hb.cell (p := ⟨g, off + j, none⟩) (Nat.lt_of_lt_of_le hg hB)]
    exact hc j hj

def toldS (m : Md) (r : Nat) : Nat := (if m.out then rev r m.w else r) ^^^ m.X
def regS (m : Md) (bs : List UInt8) : Nat := runB m.w m.P m.I (streamOf m.inn bs)
def sumS (m : Md) (bs : List UInt8) : Nat := toldS m (regS m bs)
theorem reg_lt {m : Md} (hm : MdOk m) (bs : List UInt8) : regS m bs < 2 ^ m.w := run_lt hm.P _ _ hm.I
theorem turn_lt {m : Md} {r : Nat} (hr : r < 2 ^ m.w) : (if m.out then rev r m.w else r) < 2 ^ m.w := by split; exact rev_lt _ _; exact hr
theorem told_lt {m : Md} (hm : MdOk m) {r : Nat} (hr : r < 2 ^ m.w) : toldS m r < 2 ^ m.w := xor_lt (turn_lt hr) hm.X
theorem sum_lt {m : Md} (hm : MdOk m) (bs : List UInt8) : sumS m bs < 2 ^ m.w := told_lt hm (reg_lt hm bs)

theorem rev_halves (r : Nat) : (rev (r % 4294967296) 32 * 4294967296 ||| rev (r / 4294967296) 32) = rev r 64 := by
  apply Nat.eq_of_testBit_eq; intro j
  rw [Nat.testBit_or, show rev (r % 4294967296) 32 * 4294967296 = rev (r % 2 ^ 32) 32 * 2 ^ 32 from rfl, Nat.testBit_mul_two_pow, rev_testBit, rev_testBit, rev_testBit, Nat.testBit_mod_two_pow, show r / 4294967296 = r / 2 ^ 32 from rfl, Nat.testBit_div_two_pow]
  by_cases h : j < 32
  · rw [decide_eq_true h, decide_eq_false (show ¬ (j ≥ 32) by omega), decide_eq_true (show j < 64 by omega), show 32 - 1 - j + 32 = 64 - 1 - j by omega]; simp
  · by_cases h2 : j < 64
    · rw [decide_eq_false h, decide_eq_true (show j ≥ 32 by omega), decide_eq_true h2, decide_eq_true (show j - 32 < 32 by omega), decide_eq_true (show 32 - 1 - (j - 32) < 32 by omega), show 32 - 1 - (j - 32) = 64 - 1 - j by omega]; simp
    · rw [decide_eq_false h, decide_eq_false h2, decide_eq_false (show ¬ j - 32 < 32 by omega)]; simp
theorem rev_down {r w d : Nat} (h : w + d = 64) : rev r 64 / 2 ^ d = rev r w := by
  apply Nat.eq_of_testBit_eq; intro j
  rw [Nat.testBit_div_two_pow, rev_testBit, rev_testBit]
  by_cases hj : j < w
  · rw [decide_eq_true hj, decide_eq_true (show j + d < 64 by omega), show 64 - 1 - (j + d) = w - 1 - j by omega]
  · rw [decide_eq_false hj, decide_eq_false (show ¬ j + d < 64 by omega)]; rfl
theorem rev_val {r : Nat} : bits .or .u64 ((rev (r % 4294967296) 32 : Nat) * 4294967296) ((rev (r / 4294967296) 32 : Nat) : Int) = ((rev r 64 : Nat) : Int) := by
  have h1 : rev (r % 4294967296) 32 < 4294967296 := rev_lt _ 32
  have h2 : rev (r / 4294967296) 32 < 4294967296 := rev_lt _ 32
  have e : ((rev (r % 4294967296) 32 : Nat) : Int) * 4294967296 = ((rev (r % 4294967296) 32 * 4294967296 : Nat) : Int) := by omega
  rw [e, u64_or_nat _ _ (by omega) (by omega), rev_halves]

set_option maxRecDepth 100000 in
set_option maxHeartbeats 400000 in
theorem turnedOut_any (m : Md) (hm : MdOk m) (r : Nat) (hr : r < 2 ^ m.w) (w : World) : Calls Try.prog 54 #[m.v, .int .u64 r] w fun e w' => e = .returned (.int .u64 ((if m.out then rev r m.w else r : Nat) : Int)) ∧ Below w.heap.size w w' := by
  have hp := pow64 hm.hi
  have hlo := hm.lo
  have hhi := hm.hi
  obtain ⟨nm, ww, P, I, inn, out, X⟩ := m
  simp only [Md.v] at *
  have HB : Hid (∀ o, Below w.heap.size w (w.alloc o)) := fun o => (Below.refl w.heap.size w).alloc (Nat.le_refl _) o
  cases out
  · simp only [Bool.false_eq_true, if_false]
    clear hm hp
    go_enter Try.func54, Try.ntmps54
    go_wp2_with fail
    go_ret
    exact ⟨rfl, HB.out _⟩
  · simp only [if_true]
    obtain ⟨d, hd⟩ : ∃ d, ww + d = 64 := ⟨64 - ww, by omega⟩
    have H1 : Hid (∀ (z : Int), 0 ≤ z → z < 4294967296 → ∀ w, Calls Try.prog 47 #[.int .u32 z, .int .i64 32] w fun e w' => e = .returned (.int .u32 (rev z.toNat 32 : Nat)) ∧ Below w.heap.size w w') := fun z h0 h1 w => by
      obtain ⟨n, rfl⟩ : ∃ n : Nat, z = n := ⟨z.toNat, by omega⟩
      exact reverse32_any n 32 (by omega) (by omega) w
    have e1 : ((r : Int) % 4294967296).toNat = r % 4294967296 := by omega
    have e2 : ((r : Int) / 4294967296).toNat = r / 4294967296 := by omega
    have g1 : 0 ≤ (r : Int) % 4294967296 ∧ (r : Int) % 4294967296 < 4294967296 := by omega
    have g2 : 0 ≤ (r : Int) / 4294967296 ∧ (r : Int) / 4294967296 < 4294967296 := by omega
    have hv := rev_val (r := r)
    have hdn : ((rev r 64 : Nat) : Int) / 2 ^ d = ((rev r ww : Nat) : Int) := by rw [← rev_down (r := r) hd]; simp
    have hdi : (64 : Int) - ww = d := by omega
    have hd64 : d ≤ 64 := by omega
    have hrb : (r : Int) < 18446744073709551616 := by omega
    clear hm hp hr
    obtain ⟨z1, hz1⟩ : ∃ z1, (r : Int) % 4294967296 = z1 := ⟨_, rfl⟩
    obtain ⟨z2, hz2⟩ : ∃ z2, (r : Int) / 4294967296 = z2 := ⟨_, rfl⟩
    rw [hz1] at e1 g1
    rw [hz2] at e2 g2
    have hz3 : z2 % 4294967296 = z2 := by omega
    obtain ⟨a1, b1⟩ := g1
    obtain ⟨a2, b2⟩ := g2
    have E1 := hidD e1
    have E2 := hidD e2
    clear e1 e2
    rw [← E1.out, ← E2.out] at hv
    generalize rev r 64 = R64 at *
    generalize rev r ww = RW at *
    obtain ⟨F, hF⟩ : ∃ F : Int → Nat, ∀ z, F z = rev z.toNat 32 := ⟨_, fun _ => rfl⟩
    have hFl : ∀ z, F z < 4294967296 := fun z => by rw [hF]; exact rev_lt _ 32
    have l1 := hFl z1
    have l2 := hFl z2
    rw [← hF, ← hF] at hv
    have H1 : Hid (∀ (z : Int), 0 ≤ z → z < 4294967296 → ∀ w, Calls Try.prog 47 #[.int .u32 z, .int .i64 32] w fun e w' => e = .returned (.int .u32 (F z : Nat)) ∧ Below w.heap.size w w') := fun z h0 h1 w => by rw [hF]; exact H1.out z h0 h1 w
    clear hF hFl
    have HA := hidD (MdAt.new ⟨nm, ww, P, I, inn, true, X⟩ w 35)
    simp only [Md.cells] at HA
    have HSZ : Hid (∀ o, w.heap.size < (w.alloc o).heap.size) := fun o => by simp
    go_enter Try.func54, Try.ntmps54
    go_wp2_with (go_at_call 47; refine (H1.out _ (by assumption) (by assumption) _).mono ?_; rintro e w2 ⟨rfl, hb2⟩; (first | (have HA := hidD (HA.out.below hb2 (HSZ.out _)); have HSZ2 := hidD (Nat.lt_of_lt_of_le (HSZ.out _) hb2.size); have hb2b := hb2) | (have hA := HA.out.below hb2 HSZ2.out; have q1 := hA.c1; have hb2c := hb2)))
    go_ret
    exact ⟨rfl, (HB.out _).trans ((hb2b.trans (hb2c.mono hb2b.size)).mono (Nat.le_of_lt (HSZ.out _)))⟩

set_option maxRecDepth 100000 in
set_option maxHeartbeats 400000 in
theorem ended_any (m : Md) (hm : MdOk m) (r : Nat) (hr : r < 2 ^ m.w) (w : World) : Calls Try.prog 58 #[m.v, .int .u64 r] w fun e w' => e = .returned (.int .u64 (toldS m r : Nat)) ∧ Below w.heap.size w w' := by
  have HT := hidD (fun w => turnedOut_any m hm r hr w)
  have hx : bits .xor .u64 (((if m.out then rev r m.w else r : Nat)) : Int) (m.X : Int) = ((toldS m r : Nat) : Int) := u64_xor_nat _ _ (Nat.lt_of_lt_of_le (turn_lt hr) (pow64 hm.hi)) (Nat.lt_of_lt_of_le hm.X (pow64 hm.hi))
  generalize toldS m r = S at *
  generalize (if m.out then rev r m.w else r : Nat) = T at *
  have HA := hidD (MdAt.new m w 35)
  have HBa : Hid (Below w.heap.size w (w.alloc (.cells m.cells 35))) := (Below.refl w.heap.size w).alloc (Nat.le_refl _) _
  have HSZ : Hid (w.heap.size < (w.alloc (.cells m.cells 35)).heap.size) := by show _ < _; simp
  clear hm hr
  obtain ⟨nm, ww, P, I, inn, out, X⟩ := m
  simp only [Md.v, Md.cells] at *
  go_enter Try.func58, Try.ntmps58
  go_wp2_with fail
  generalize w.alloc _ = w1 at *
  have hcl : ∀ i : BW w1, MdAt i.v w.heap.size ⟨nm, ww, P, I, inn, out, X⟩ := fun i => HA.out.below i.below HSZ.out
  have k0 := fun i => (hcl i).c0
  have k1 := fun i => (hcl i).c1
  have k2 := fun i => (hcl i).c2
  have k3 := fun i => (hcl i).c3
  have k4 := fun i => (hcl i).c4
  have k5 := fun i => (hcl i).c5
  have k6 := fun i => (hcl i).c6
  simp only at k0 k1 k2 k3 k4 k5 k6
  clear hcl
  refine wp_region_below (by kernel_rfl) (by kernel_rfl) ?_
  repeat (go_big_quiet_step ((go_at_call 54; exact Calls.below_of (HT.out _))))
  refine wpQuiet_nil ?_
  intro i
  go_wp2_with fail
  go_ret
  exact ⟨rfl, HBa.out.trans (i.below.mono (Nat.le_of_lt HSZ.out))⟩
end Go.Proofs.Ytjhaaphgaplhlaa
