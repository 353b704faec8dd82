/- What the document's Uniform answers. -/
import Derived.Test.YtdbledfpphkppabRwz
namespace Go.Proofs.Ytdbledfpphkppab
open Go.RowKit
set_option linter.unusedVariables false

def cD (t : Nat → Nat) (a k d : Nat) : Nat := ct (fun x => t x ^^^ t (x ^^^ a) == d) k
theorem mx_ge {f g : Nat → Nat} : ∀ {n : Nat}, (∀ x, x < n → f x ≤ g x) → mx f n ≤ mx g n
  | 0, _ => Nat.le_refl _
  | n + 1, h => mx_le fun x hx => Nat.le_trans (h x hx) (le_mx hx)
theorem mx_step (t : Nat → Nat) (a k : Nat) (hd : t k ^^^ t (k ^^^ a) < 256) : mx (cD t a (k + 1)) 256 = max (mx (cD t a k) 256) (cD t a (k + 1) (t k ^^^ t (k ^^^ a))) := by
  apply Nat.le_antisymm
  · refine mx_le fun d hdl => ?_
    by_cases h : t k ^^^ t (k ^^^ a) = d
    · subst h; exact Nat.le_max_right _ _
    · refine Nat.le_trans ?_ (Nat.le_max_left _ _)
      have : cD t a (k + 1) d = cD t a k d := by
        unfold cD; rw [ct_succ, show (t k ^^^ t (k ^^^ a) == d) = false by simpa using h]; rfl
      rw [this]; exact le_mx hdl
  · refine Nat.max_le.2 ⟨mx_ge fun d _ => ?_, le_mx hd⟩
    unfold cD; rw [ct_succ]; omega
theorem mx_zero (t : Nat → Nat) (a : Nat) : mx (cD t a 0) 256 = 0 := Nat.le_antisymm (mx_le fun d _ => Nat.le_refl _) (Nat.zero_le _)
def bestS (t : Nat → Nat) (j : Nat) : Nat := mx (fun a => mx (fun c => diffS t (a + 1) c) 256) j
theorem best_succ (t : Nat → Nat) (j : Nat) : bestS t (j + 1) = max (bestS t j) (mx (cD t (j + 1) 256) 256) := rfl
theorem best_le (t : Nat → Nat) (j : Nat) : bestS t j ≤ 256 := mx_le fun a _ => mx_le fun c _ => ct_le _ _
theorem cD_le (t : Nat → Nat) (a k d : Nat) : cD t a k d ≤ k := ct_le _ _
theorem Try.zero40 : (Try.prog.info? 40).map (fun i => (i.zero, i.size)) = some (some (.agg (rowZ .i64 256 (fun _ => 0))), 256) := by kernel_rfl

end Go.Proofs.Ytdbledfpphkppab
