/- What the step of a state answers. -/
import Derived.Test.YtjhaaphgaplhlaaTof
import Derived.Test.YtjhaaphgaplhlaaRef
namespace Go.Proofs.Ytjhaaphgaplhlaa
open Go.RowKit
set_option linter.unusedVariables false

def firstN (w r : Nat) : Nat := r * 2 ^ (64 - w) / 2 ^ 56
theorem first_mul {w r : Nat} (hw : w ≤ 64) (hr : r < 2 ^ w) : r * 2 ^ (64 - w) < 18446744073709551616 := by
  have h1 : r * 2 ^ (64 - w) < 2 ^ w * 2 ^ (64 - w) := Nat.mul_lt_mul_of_pos_right hr (Nat.two_pow_pos _)
  rw [← Nat.pow_add, show w + (64 - w) = 64 by omega] at h1
  exact h1
theorem firstN_lt {w r : Nat} (hw : w ≤ 64) (hr : r < 2 ^ w) : firstN w r < 256 := by
  have h := first_mul hw hr
  unfold firstN
  omega
theorem firstN_bit {w r k : Nat} (hw : w ≤ 64) (hk : k < 8) : (firstN w r).testBit (7 - k) = (decide (k < w) && r.testBit (w - 1 - k)) := by
  unfold firstN
  rw [Nat.testBit_div_two_pow, Nat.testBit_mul_two_pow]
  by_cases h : k < w
  · rw [decide_eq_true h, decide_eq_true (show 7 - k + 56 ≥ 64 - w by omega), show 7 - k + 56 - (64 - w) = w - 1 - k by omega]
  · rw [decide_eq_false h, decide_eq_false (show ¬ 7 - k + 56 ≥ 64 - w by omega)]; simp
def firstS (inn : Bool) (w r : Nat) : Nat := if inn then rev (firstN w r) 8 else firstN w r
theorem firstS_lt {inn : Bool} {w r : Nat} (hw : w ≤ 64) (hr : r < 2 ^ w) : firstS inn w r < 256 := by
  cases inn
  · exact firstN_lt hw hr
  · exact rev_lt _ 8
theorem firstS_bits {inn : Bool} {w r : Nat} (hw : w ≤ 64) (hr : r < 2 ^ w) : bitsOf inn (firstS inn w r) = topB w r 8 := by
  apply List.ext_getElem?
  intro i
  by_cases hi : i < 8
  · rw [bitsOf_get _ _ i hi, topB_get w 8 r i hi hr]
    cases inn
    · simp only [firstS, Bool.false_eq_true, if_false]
      rw [firstN_bit hw hi]
    · simp only [firstS, if_true]
      rw [rev_testBit, decide_eq_true hi, show 8 - 1 - i = 7 - i from rfl, firstN_bit hw hi]; rfl
  · rw [List.getElem?_eq_none (by rw [bitsOf_length]; omega), List.getElem?_eq_none (by rw [topB_length]; omega)]
theorem step_is {m : Md} {r c : Nat} (hw : m.w ≤ 64) (hr : r < 2 ^ m.w) : runB m.w m.P r (bitsOf m.inn c) = (r * 256) % 2 ^ m.w ^^^ tabS m (firstS m.inn m.w r ^^^ c) := run_byte hr (firstS_bits hw hr)

set_option maxRecDepth 100000 in
set_option maxHeartbeats 400000 in
theorem step63_any (m : Md) (hm : MdOk m) (r c : Nat) (hr : r < 2 ^ m.w) (hc : c < 256) (gm gx gt : Nat) (w : World) (hmd : MdAt w gm m) (hgx : gx < w.heap.size) (hmost : w.cell? ⟨gx, 0, none⟩ = some (.int .u64 ((2 ^ m.w - 1 : Nat) : Int))) (htab : w.heap[gt]? = some (.cells (fillC .u64 (tabS m) 256) (83 : TypeId) (0, 0))) :
    Calls Try.prog 63 #[.int .u64 r, .int .u8 c, .pointer (some ⟨gm, 0, none⟩), .pointer (some ⟨gx, 0, none⟩), .pointer (some ⟨gt, 0, none⟩)] w fun e w' => e = .returned (.int .u64 (runB m.w m.P r (bitsOf m.inn c) : Nat)) ∧ Below w.heap.size w w' := by
  have hst := step_is (c := c) hm.hi hr
  have hfl := firstS_lt (inn := m.inn) hm.hi hr
  have hfn := firstN_lt hm.hi hr
  have hp := pow64 hm.hi
  have hx8 : bits .xor .u8 (firstS m.inn m.w r : Int) (c : Int) = ((firstS m.inn m.w r ^^^ c : Nat) : Int) := u8_xor_nat _ _ hfl hc
  have hxl : firstS m.inn m.w r ^^^ c < 256 := xor_lt (w := 8) hfl hc
  have hxi : ((firstS m.inn m.w r ^^^ c : Nat) : Int) < 256 := by omega
  have htc : w.cell? ⟨gt, firstS m.inn m.w r ^^^ c, none⟩ = some (.int .u64 (tabS m (firstS m.inn m.w r ^^^ c) : Nat)) := by rw [cell_of_row _ _ _ _ _ _ htab]; exact fill_at _ _ _ hxl
  have htl := Nat.lt_of_lt_of_le (tab_lt hm (firstS m.inn m.w r ^^^ c)) hp
  obtain ⟨k0, k1, k2, k3, k4, k5, k6⟩ := hmd
  have hsub : (64 : Int) - (m.w : Int) = ((64 - m.w : Nat) : Int) := by have := hm.hi; omega
  have hmul := first_mul hm.hi hr
  have hwr : IntKind.u64.wrap ((r : Int) * 2 ^ (64 - m.w)) = ((r * 2 ^ (64 - m.w) : Nat) : Int) := by
    rw [show (r : Int) * 2 ^ (64 - m.w) = ((r * 2 ^ (64 - m.w) : Nat) : Int) by simp, IntKind.wrap_u64]; omega
  have hdv : ((r * 2 ^ (64 - m.w) : Nat) : Int) / 72057594037927936 % 256 = (firstN m.w r : Int) := by
    have : firstN m.w r = r * 2 ^ (64 - m.w) / 72057594037927936 := rfl
    omega
  have hsl : IntKind.u64.wrap ((r : Int) * 256) = ((r * 256 % 18446744073709551616 : Nat) : Int) := by rw [IntKind.wrap_u64]; omega
  have hmm : r * 256 % 18446744073709551616 % 2 ^ m.w = r * 256 % 2 ^ m.w := Nat.mod_mod_of_dvd _ (by rw [show (18446744073709551616 : Nat) = 2 ^ 64 from rfl]; exact Nat.pow_dvd_pow 2 hm.hi)
  have han : bits .and .u64 ((r * 256 % 18446744073709551616 : Nat) : Int) ((2 ^ m.w - 1 : Nat) : Int) = ((r * 256 % 2 ^ m.w : Nat) : Int) := by rw [← hmm]; exact and_mask (Nat.mod_lt _ (by decide)) hm.hi
  have hxr : bits .xor .u64 ((r * 256 % 2 ^ m.w : Nat) : Int) (tabS m (firstS m.inn m.w r ^^^ c) : Int) = (runB m.w m.P r (bitsOf m.inn c) : Nat) := by
    rw [hst]; exact u64_xor_nat _ _ (Nat.lt_of_lt_of_le (Nat.mod_lt _ (Nat.two_pow_pos _)) hp) htl
  have HGT := hidD (row_lt htab)
  have HGX := hidD hgx
  have HRV := hidD (fun w => reverse_any (firstN m.w r) hfn w)
  have HFS : Hid (firstS m.inn m.w r = if m.inn then rev (firstN m.w r) 8 else firstN m.w r) := rfl
  clear htab hgx hst hfl hmm htl hmul hp hr hc hm hxl hfn
  generalize runB m.w m.P r (bitsOf m.inn c) = R at *
  generalize tabS m (firstS m.inn m.w r ^^^ c) = T at *
  generalize firstS m.inn m.w r ^^^ c = XI at *
  generalize r * 256 % 18446744073709551616 = B at *
  generalize r * 256 % 2 ^ m.w = N1 at *
  generalize 2 ^ m.w - 1 = G at *
  generalize rev (firstN m.w r) 8 = RF at *
  generalize firstN m.w r = FN at *
  generalize firstS m.inn m.w r = FS at *
  generalize r * 2 ^ (64 - m.w) = A at *
  obtain ⟨nm, ww, P, I, inn, out, X⟩ := m
  simp only at *
  generalize 64 - ww = d at *
  cases inn
  · have hfs : FS = FN := HFS.out
    subst hfs
    clear HFS HRV
    go_enter Try.func63, Try.ntmps63
    go_wp2_with fail
    go_quiet (fail)
    go_wp2_with fail
    go_ret
    exact ⟨rfl, below_drewN (Below.refl _ _) _⟩
  · have hfs : FS = RF := HFS.out
    subst hfs
    clear HFS
    go_enter Try.func63, Try.ntmps63
    go_wp2_with (go_at_call 64; refine (HRV.out _).mono ?_; rintro e w2 ⟨rfl, hb2⟩; have HB2 := hidD hb2; have m2 := (hb2.cell (p := ⟨gx, 0, none⟩) HGX.out).trans hmost; have t2 := (hb2.cell (p := ⟨gt, XI, none⟩) HGT.out).trans htc; clear hb2)
    go_quiet (fail)
    go_wp2_with fail
    go_ret
    exact ⟨rfl, below_drewN HB2.out _⟩
end Go.Proofs.Ytjhaaphgaplhlaa
