/- Plain: the lengths of a table's cycles, as they are met, and in falling order. -/
import Derived.Test.YtdbledfpphkppaaIsl
namespace Go.Proofs.Ytdbledfpphkppaa
set_option linter.unusedVariables false

def walkC (t : Nat → Nat) : Nat → (Nat → Bool) → Nat → Nat → (Nat → Bool) × Nat
  | 0, met, y, n => (met, n)
  | f + 1, met, y, n => if met y then walkC t f (fun z => if z = y then false else met z) (t y) (n + 1) else (met, n)
def cycTo (t : Nat → Nat) : Nat → (Nat → Bool) × List Int
  | 0 => (fun _ => true, [])
  | k + 1 => ((walkC t 257 (cycTo t k).1 k 0).1, if 0 < (walkC t 257 (cycTo t k).1 k 0).2 then insF ((walkC t 257 (cycTo t k).1 k 0).2 : Int) (cycTo t k).2 else (cycTo t k).2)
def cycS (t : Nat → Nat) : List Int := (cycTo t 256).2
def onceB (t : Nat → Nat) : Bool := (List.range 256).all fun v => ct (fun x => t x == v) 256 == 1
theorem cyc_len (t : Nat → Nat) : ∀ k, (cycTo t k).2.length ≤ k
  | 0 => Nat.le_refl _
  | k + 1 => by
    have := cyc_len t k
    rw [cycTo]
    dsimp only
    split
    · rw [ins_len]; omega
    · omega
theorem ct_clear (met : Nat → Bool) {y : Nat} (h : met y = true) : ∀ {n : Nat}, y < n → ct (fun z => if z = y then false else met z) n + 1 = ct met n
  | n + 1, hy => by
    rw [ct_succ, ct_succ]
    by_cases he : n = y
    · subst he
      rw [if_pos rfl, h]
      rw [ct_congr (q := met) (fun x hx => by rw [if_neg (by omega)])]; rfl
    · rw [if_neg he]
      have := ct_clear met h (n := n) (by omega)
      omega
theorem ct_pos (met : Nat → Bool) {y : Nat} (h : met y = true) {n : Nat} (hy : y < n) : 0 < ct met n := by have := ct_clear met h hy; omega
theorem walk_le (t : Nat → Nat) : ∀ f met y n, n ≤ (walkC t f met y n).2
  | 0, met, y, n => Nat.le_refl _
  | f + 1, met, y, n => by
    rw [walkC]; split
    · exact Nat.le_trans (Nat.le_succ n) (walk_le t f _ _ _)
    · exact Nat.le_refl _
theorem walk_most (t : Nat → Nat) : ∀ f met y n, (walkC t f met y n).2 ≤ n + f
  | 0, met, y, n => Nat.le_refl _
  | f + 1, met, y, n => by
    rw [walkC]; split
    · have := walk_most t f (fun z => if z = y then false else met z) (t y) (n + 1); omega
    · show n ≤ _; omega
theorem once_not {t : Nat → Nat} {v : Nat} (hv : v < 256) (h : ct (fun x => t x == v) 256 ≠ 1) : onceB t = false := by
  cases hb : onceB t with
  | false => rfl
  | true => exact absurd (eq_of_beq (List.all_eq_true.1 hb v (by simpa using hv))) h
theorem once_all {t : Nat → Nat} (h : ∀ v, v < 256 → ct (fun x => t x == v) 256 = 1) : onceB t = true := List.all_eq_true.2 fun v hv => by simpa using h v (by simpa using hv)
theorem cyc_sb : cycS sbN = [87, 81, 59, 27, 2] := by decide +kernel
end Go.Proofs.Ytdbledfpphkppaa
