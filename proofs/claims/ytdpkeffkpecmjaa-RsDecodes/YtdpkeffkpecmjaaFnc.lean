/- What New and a field's Exp, Mul, Div, Inv, Pow and Log of the program answer. -/
import Derived.Test.YtdpkeffkpecmjaaFld
import Derived.Laws.Pointers
namespace Go.Proofs.Ytdpkeffkpecmjaa
open Go.RowKit
set_option linter.unusedVariables false

/-- A field lies in a block. -/
def FdAt (w : World) (b : Nat) (P g : UInt8) : Prop := w.heap[b]? = some (.cells (fldC P g 255) (94 : TypeId) (0, 0))
theorem FdAt.below {w w' : World} {b n : Nat} {P g : UInt8} (h : FdAt w b P g) (hb : Below n w w') (hn : b < n) : FdAt w' b P g := (hb.block b hn).trans h
theorem FdAt.lt {w : World} {b : Nat} {P g : UInt8} (h : FdAt w b P g) : b < w.heap.size := by
  rcases Nat.lt_or_ge b w.heap.size with hl | hl
  · exact hl
  · rw [FdAt, Array.getElem?_eq_none hl] at h; exact absurd h (by simp)
theorem FdAt.next {w w' : World} {b : Nat} {P g : UInt8} (h : FdAt w b P g) (hb : Below w.heap.size w w') : FdAt w' b P g := h.below hb h.lt
theorem FdAt.cell {w : World} {b : Nat} {P g : UInt8} (h : FdAt w b P g) (i : Nat) (hi : i < 511) : w.cell? ⟨b, i, none⟩ = some (.int .u8 (fldF P g 255 i : Nat)) := by
  rw [cell_of_row w b i _ _ _ h]
  exact rowF_get _ _ _ i hi
theorem FdAt.exp {w : World} {b : Nat} {P g : UInt8} (h : FdAt w b P g) (i : Nat) (hi : i < 255) : w.cell? ⟨b, i, none⟩ = some (.int .u8 ((pw P g i).toNat : Int)) := by
  rw [h.cell i (by omega), fldF, if_pos hi, if_pos hi]
theorem FdAt.log {w : World} {b : Nat} {P g : UInt8} (h : FdAt w b P g) (a : UInt8) : w.cell? ⟨b, 255 + a.toNat, none⟩ = some (.int .u8 ((lg P g a : Nat) : Int)) := by
  have := u8_lt a
  rw [h.cell _ (by omega), fldF, if_neg (by omega), show 255 + a.toNat - 255 = a.toNat by omega]; rfl

/-- The generator to the n, n any number. -/
def pwI (P g : UInt8) (n : Int) : UInt8 := pw P g (n % 255).toNat
theorem tmod_neg {n : Int} (h : n.tmod 255 < 0) : n.tmod 255 + 255 = n % 255 := by
  have h1 := Int.tmod_eq_emod (a := n) (b := 255)
  have h2 := Int.emod_nonneg n (show (255 : Int) ≠ 0 by omega)
  have h3 := Int.emod_lt_of_pos n (show (0 : Int) < 255 by omega)
  split at h1 <;> simp at h1 <;> omega
theorem tmod_nonneg {n : Int} (h : ¬ n.tmod 255 < 0) : n.tmod 255 = n % 255 := by
  have h1 := Int.tmod_eq_emod (a := n) (b := 255)
  have h2 := Int.emod_nonneg n (show (255 : Int) ≠ 0 by omega)
  have h3 := Int.emod_lt_of_pos n (show (0 : Int) < 255 by omega)
  split at h1
  · simp at h1; omega
  · simp at h1
    have h4 := Int.tmod_lt_of_pos n (show (0 : Int) < 255 by omega)
    omega
theorem tmod_lo (n : Int) : -255 < n.tmod 255 := by
  have h1 := Int.tmod_eq_emod (a := n) (b := 255)
  have h2 := Int.emod_nonneg n (show (255 : Int) ≠ 0 by omega)
  split at h1 <;> simp at h1 <;> omega
theorem tmod_hi (n : Int) : n.tmod 255 < 255 := Int.tmod_lt_of_pos n (by omega)

set_option maxRecDepth 100000 in
set_option maxHeartbeats 400000 in
theorem exp_any {P g : UInt8} {b : Nat} (n : Int) (w : World) (hf : FdAt w b P g) : Calls Try.prog 40 #[.pointer (some ⟨b, 0, none⟩), .int .i64 n] w fun e w' => e = .returned (.int .u8 ((pwI P g n).toNat : Int)) ∧ Below w.heap.size w w' := by
  have h1 := tmod_lo n
  have h2 := tmod_hi n
  have h3 := Int.emod_nonneg n (show (255 : Int) ≠ 0 by omega)
  have h4 := Int.emod_lt_of_pos n (show (0 : Int) < 255 by omega)
  obtain ⟨m, hm⟩ := Int.eq_ofNat_of_zero_le h3
  have hml : m < 255 := by omega
  have hc := hf.exp m hml
  have HR : Hid (pwI P g n = pw P g m) := by show pw P g (n % 255).toNat = _; rw [hm]; rfl
  have HW : Hid (Below w.heap.size w w) := Below.refl _ _
  generalize hpv : ((pw P g m).toNat : Int) = v at *
  have HV : Hid (((pwI P g n).toNat : Int) = v) := by show _ = _; rw [HR.out]; exact hpv
  generalize ((pwI P g n).toNat : Int) = R at *
  clear hpv HR hf h3 h4
  by_cases hn : n.tmod 255 < 0
  · have he := (tmod_neg hn).trans hm
    have hwr : IntKind.i64.wrap (n.tmod 255 + 255) = (m : Int) := by rw [he, IntKind.wrap_i64]; omega
    have hwr2 : wrap64 (n.tmod 255 + 255) = (m : Int) := by rw [he]; unfold wrap64; omega
    have hmm : (m : Int) < 255 := by omega
    clear hm he
    go_enter Try.func40, Try.ntmps40
    go_wp2_with fail
    go_ret
    exact ⟨by rw [HV.out]; rfl, HW.out⟩
  · have he := (tmod_nonneg hn).trans hm
    have hmm : (m : Int) < 255 := by omega
    clear hm h1 h2 hn
    go_enter Try.func40, Try.ntmps40
    go_wp2_with fail
    go_ret
    exact ⟨by rw [HV.out]; rfl, HW.out⟩

theorem u8_ne {a : UInt8} (h : a ≠ 0) : ¬ (a.toNat : Int) = 0 := fun he => h (UInt8.toNat.inj (by show _ = 0; omega))
theorem u8_bne {a : UInt8} (h : a ≠ 0) : ((a.toNat : Int) == 0) = false := by have := u8_ne h; simpa using this
theorem u8_pos {a : UInt8} (h : a ≠ 0) : 0 < (a.toNat : Int) := by have := u8_ne h; omega

set_option maxRecDepth 100000 in
set_option maxHeartbeats 400000 in
theorem mul_any {P g : UInt8} {b : Nat} (ho : ordS P g = 255) (x y : UInt8) (w : World) (hf : FdAt w b P g) : Calls Try.prog 54 #[.pointer (some ⟨b, 0, none⟩), .int .u8 (x.toNat : Int), .int .u8 (y.toNat : Int)] w fun e w' => e = .returned (.int .u8 ((bm P x y).toNat : Int)) ∧ Below w.heap.size w w' := by
  have HW : Hid (Below w.heap.size w w) := Below.refl _ _
  by_cases hx : x = 0
  · subst hx
    have HV : Hid (((bm P 0 y).toNat : Int) = 0) := by rw [zero_bm]; exact rfl
    generalize ((bm P 0 y).toNat : Int) = R at *
    rw [show (((0 : UInt8).toNat : Nat) : Int) = 0 from rfl]
    go_enter Try.func54, Try.ntmps54
    go_wp2_with fail
    go_ret
    exact ⟨by rw [HV.out]; rfl, HW.out⟩
  · by_cases hy : y = 0
    · subst hy
      have HV : Hid (((bm P x 0).toNat : Int) = 0) := by rw [bm_zero]; exact rfl
      have hx0 := u8_ne hx
      have hxb := u8_bne hx
      generalize ((bm P x 0).toNat : Int) = R at *
      rw [show (((0 : UInt8).toNat : Nat) : Int) = 0 from rfl]
      generalize (x.toNat : Int) = X at *
      clear hf
      go_enter Try.func54, Try.ntmps54
      go_wp2_with fail
      go_ret
      exact ⟨by rw [HV.out]; rfl, HW.out⟩
    · have hx0 := u8_ne hx
      have hy0 := u8_ne hy
      have hyb := u8_bne hy
      have hxl := u8_lt x
      have hyl := u8_lt y
      have hlx := lg_lt P g x
      have hly := lg_lt P g y
      have HE : Hid (∀ i : BW w, Calls Try.prog 40 #[.pointer (some ⟨b, 0, none⟩), .int .i64 (((lg P g x : Nat) : Int) + ((lg P g y : Nat) : Int))] i.v fun e w' => e = .returned (.int .u8 ((bm P x y).toNat : Int)) ∧ Below i.v.heap.size i.v w') := fun i => by
        have := exp_any (P := P) (g := g) (b := b) (((lg P g x : Nat) : Int) + ((lg P g y : Nat) : Int)) i.v (hf.next i.below)
        rw [pwI, show (((lg P g x : Nat) : Int) + ((lg P g y : Nat) : Int)) % 255 = (((lg P g x + lg P g y) % 255 : Nat) : Int) by omega, Int.toNat_natCast, mul_lg ho hx hy] at this
        exact this
      have hcx : ∀ i : BW w, i.v.cell? ⟨b, 255 + x.toNat, none⟩ = some (.int .u8 ((lg P g x : Nat) : Int)) := fun i => (hf.next i.below).log x
      have hcy : ∀ i : BW w, i.v.cell? ⟨b, 255 + y.toNat, none⟩ = some (.int .u8 ((lg P g y : Nat) : Int)) := fun i => (hf.next i.below).log y
      generalize ((bm P x y).toNat : Int) = R at *
      generalize lg P g x = LX at *
      generalize lg P g y = LY at *
      generalize x.toNat = X at *
      generalize y.toNat = Y at *
      clear hf hx hy
      go_enter Try.func54, Try.ntmps54
      go_wp2_with fail
      refine wp_region_below (by kernel_rfl) (by kernel_rfl) ?_
      repeat (go_big_quiet_step ((go_at_call 40; exact Calls.below_of (HE.out _))))
      refine wpQuiet_nil ?_
      intro i
      go_wp2_with fail
      go_ret
      exact ⟨rfl, i.below⟩

theorem lg_sub {P g x y : UInt8} : (((lg P g x : Nat) : Int) - ((lg P g y : Nat) : Int)) % 255 = (((lg P g x + 255 - lg P g y) % 255 : Nat) : Int) := by
  have hlx := lg_lt P g x
  have hly := lg_lt P g y
  omega
set_option maxRecDepth 100000 in
set_option maxHeartbeats 400000 in
theorem div_zero {b : Nat} (x : UInt8) (w : World) : Calls Try.prog 70 #[.pointer (some ⟨b, 0, none⟩), .int .u8 (x.toNat : Int), .int .u8 0] w fun e w' => e = .returned (.tuple #[.int .u8 0, .int .i64 51]) ∧ Below w.heap.size w w' := by
  have HW : Hid (Below w.heap.size w w) := Below.refl _ _
  go_enter Try.func70, Try.ntmps70
  go_wp2_with fail
  refine bodyPost_ret (v := .tuple #[.int .u8 0, .int .i64 51]) (by simp [results, Try.results70, go_sem]) rfl ?_
  exact ⟨rfl, HW.out⟩
set_option maxRecDepth 100000 in
set_option maxHeartbeats 400000 in
theorem div_any {P g : UInt8} {b : Nat} (ho : ordS P g = 255) (x y : UInt8) (hy : y ≠ 0) (w : World) (hf : FdAt w b P g) : Calls Try.prog 70 #[.pointer (some ⟨b, 0, none⟩), .int .u8 (x.toNat : Int), .int .u8 (y.toNat : Int)] w fun e w' => e = .returned (.tuple #[.int .u8 ((bm P x (inv P y)).toNat : Int), .int .i64 0]) ∧ Below w.heap.size w w' := by
  have HW : Hid (Below w.heap.size w w) := Below.refl _ _
  have hy0 := u8_ne hy
  have hyb := u8_bne hy
  by_cases hx : x = 0
  · subst hx
    have HV : Hid (((bm P 0 (inv P y)).toNat : Int) = 0) := by rw [zero_bm]; exact rfl
    generalize ((bm P 0 (inv P y)).toNat : Int) = R at *
    rw [show (((0 : UInt8).toNat : Nat) : Int) = 0 from rfl]
    generalize (y.toNat : Int) = Y at *
    clear hf
    go_enter Try.func70, Try.ntmps70
    go_wp2_with fail
    refine bodyPost_ret (v := .tuple #[.int .u8 0, .int .i64 0]) (by simp [results, Try.results70, go_sem]) rfl ?_
    exact ⟨by rw [HV.out], HW.out⟩
  · have hx0 := u8_ne hx
    have hxb := u8_bne hx
    have hxl := u8_lt x
    have hyl := u8_lt y
    have hlx := lg_lt P g x
    have hly := lg_lt P g y
    have HE : Hid (∀ i : BW w, Calls Try.prog 40 #[.pointer (some ⟨b, 0, none⟩), .int .i64 (((lg P g x : Nat) : Int) - ((lg P g y : Nat) : Int))] i.v fun e w' => e = .returned (.int .u8 ((bm P x (inv P y)).toNat : Int)) ∧ Below i.v.heap.size i.v w') := fun i => by
      have := exp_any (P := P) (g := g) (b := b) (((lg P g x : Nat) : Int) - ((lg P g y : Nat) : Int)) i.v (hf.next i.below)
      rw [pwI, lg_sub, Int.toNat_natCast, div_lg ho hx hy] at this
      exact this
    have hcx : ∀ i : BW w, i.v.cell? ⟨b, 255 + x.toNat, none⟩ = some (.int .u8 ((lg P g x : Nat) : Int)) := fun i => (hf.next i.below).log x
    have hcy : ∀ i : BW w, i.v.cell? ⟨b, 255 + y.toNat, none⟩ = some (.int .u8 ((lg P g y : Nat) : Int)) := fun i => (hf.next i.below).log y
    generalize ((bm P x (inv P y)).toNat : Int) = R at *
    generalize lg P g x = LX at *
    generalize lg P g y = LY at *
    generalize x.toNat = X at *
    generalize y.toNat = Y at *
    clear hf hx hy
    go_enter Try.func70, Try.ntmps70
    go_wp2_with fail
    refine wp_region_below (by kernel_rfl) (by kernel_rfl) ?_
    repeat (go_big_quiet_step ((go_at_call 40; exact Calls.below_of (HE.out _))))
    refine wpQuiet_nil ?_
    intro i
    go_wp2_with fail
    refine bodyPost_ret (v := .tuple #[.int .u8 R, .int .i64 0]) (by simp [results, Try.results70, go_sem]) rfl ?_
    exact ⟨rfl, i.below⟩
set_option maxRecDepth 100000 in
set_option maxHeartbeats 400000 in
theorem inv_some {P g : UInt8} {b : Nat} (ho : ordS P g = 255) (y : UInt8) (hy : y ≠ 0) (w : World) (hf : FdAt w b P g) : Calls Try.prog 53 #[.pointer (some ⟨b, 0, none⟩), .int .u8 (y.toNat : Int)] w fun e w' => e = .returned (.tuple #[.int .u8 ((inv P y).toNat : Int), .int .i64 0]) ∧ Below w.heap.size w w' := by
  have HD := hidD (div_any ho 1 y hy w hf)
  rw [one_bm, show (((1 : UInt8).toNat : Nat) : Int) = 1 from rfl] at HD
  generalize ((inv P y).toNat : Int) = R at *
  go_enter Try.func53, Try.ntmps53
  go_wp2_with (go_at_call 70; refine HD.out.mono ?_; rintro e w2 ⟨rfl, hb2⟩)
  refine bodyPost_ret (v := .tuple #[.int .u8 R, .int .i64 0]) (by simp [results, Try.results53, go_sem]) rfl ?_
  exact ⟨rfl, hb2⟩
set_option maxRecDepth 100000 in
set_option maxHeartbeats 400000 in
theorem inv_zero {b : Nat} (w : World) : Calls Try.prog 53 #[.pointer (some ⟨b, 0, none⟩), .int .u8 0] w fun e w' => e = .returned (.tuple #[.int .u8 0, .int .i64 51]) ∧ Below w.heap.size w w' := by
  have HD := hidD (div_zero (b := b) 1 w)
  rw [show (((1 : UInt8).toNat : Nat) : Int) = 1 from rfl] at HD
  go_enter Try.func53, Try.ntmps53
  go_wp2_with (go_at_call 70; refine HD.out.mono ?_; rintro e w2 ⟨rfl, hb2⟩)
  refine bodyPost_ret (v := .tuple #[.int .u8 0, .int .i64 51]) (by simp [results, Try.results53, go_sem]) rfl ?_
  exact ⟨rfl, hb2⟩

theorem pow_mod {l : Nat} (n : Int) : ((l : Int) * n.tmod 255) % 255 = (((l * (n % 255).toNat) % 255 : Nat) : Int) := by
  have h3 := Int.emod_nonneg n (show (255 : Int) ≠ 0 by omega)
  obtain ⟨m, hm⟩ := Int.eq_ofNat_of_zero_le h3
  have h1 : (n.tmod 255) % 255 = (m : Int) % 255 := by
    rw [← hm]
    by_cases hn : n.tmod 255 < 0
    · have := tmod_neg hn; omega
    · have := tmod_nonneg hn; omega
  rw [Int.mul_emod, h1, ← Int.mul_emod, hm]
  simp
theorem mul_small {l : Nat} (hl : l < 255) {t : Int} (h1 : -255 < t) (h2 : t < 255) : -65025 < (l : Int) * t ∧ (l : Int) * t < 65025 := by
  have e : (l : Int) * t = t * l := Int.mul_comm _ _
  rcases Int.le_total 0 t with h | h
  · have := Int.mul_le_mul (show (l : Int) ≤ 254 by omega) (show t ≤ 254 by omega) h (by omega)
    have := Int.mul_nonneg (show (0 : Int) ≤ l by omega) h
    omega
  · have h3 : (l : Int) * (-t) = - ((l : Int) * t) := Int.mul_neg _ _
    have := Int.mul_le_mul (show (l : Int) ≤ 254 by omega) (show -t ≤ 254 by omega) (by omega) (by omega)
    have := Int.mul_nonneg (show (0 : Int) ≤ l by omega) (show 0 ≤ -t by omega)
    omega
end Go.Proofs.Ytdpkeffkpecmjaa
