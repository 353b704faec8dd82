/- What the document's Linear answers. -/
import Derived.Test.YtdbledfpphkppabRf5
import Derived.Test.YtdbledfpphkppabWht
namespace Go.Proofs.Ytdbledfpphkppab
open Go.RowKit
set_option linter.unusedVariables false

def sgS (t : Nat → Nat) (b x : Nat) : Int := 1 - 2 * (parS (t x &&& b) : Int)
theorem sg_bound (t : Nat → Nat) (b x : Nat) : -1 ≤ sgS t b x ∧ sgS t b x ≤ 1 := by have := par_lt (t x &&& b); unfold sgS; omega
def bestL (t : Nat → Nat) (j : Nat) : Nat := mx (fun b => mx (fun a => offS t a (b + 1)) 256) j
theorem off_le (t : Nat → Nat) (a b : Nat) : offS t a b ≤ 128 := by have := ct_le (fun x => parS (x &&& a) == parS (t x &&& b)) 256; unfold offS linS; omega
theorem bestL_le (t : Nat → Nat) (j : Nat) : bestL t j ≤ 128 := mx_le fun a _ => mx_le fun c _ => off_le _ _ _
theorem off_wh (t : Nat → Nat) {a b : Nat} (ha : a < 256) : (max (whS (sgS t b) 8 a) (-whS (sgS t b) 8 a)).tdiv 2 = (offS t a b : Int) := by
  rw [wh_lin (f := sgS t b) (t := t) (b := b) ha (fun x => rfl)]
  unfold offS
  rw [Int.tdiv_eq_ediv_of_nonneg (by omega)]
  omega
theorem pow_i {k : Nat} (hk : k < 8) : (2 ^ k : Nat) < 256 ∧ 0 < (2 ^ k : Nat) := ⟨Nat.lt_of_lt_of_le (Nat.pow_lt_pow_right (by omega) hk) (Nat.le_refl _), Nat.two_pow_pos k⟩
def andP (k i : Nat) : Bool := (i &&& 2 ^ k) == (i.testBit k).toNat * 2 ^ k
theorem and_tab : ((List.range 8).all fun k => (List.range 256).all fun i => andP k i) = true := by decide +kernel
theorem and_bit {i k : Nat} (hk : k < 8) (hi : i < 256) : i &&& 2 ^ k = (i.testBit k).toNat * 2 ^ k := eq_of_beq (List.all_eq_true.1 (List.all_eq_true.1 and_tab k (by simpa using hk)) i (by simpa using hi))
theorem drew_row {w : World} {g n : Nat} {kd : IntKind} {ty : TypeId} {f : Nat → Int} (h : RowZ w g kd n ty f) (m : Nat) : RowZ (w.drewN m) g kd n ty f := h

end Go.Proofs.Ytdbledfpphkppab
