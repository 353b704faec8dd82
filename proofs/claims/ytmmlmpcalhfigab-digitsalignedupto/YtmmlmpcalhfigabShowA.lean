/- What Show of the document answers, whatever it is given. -/
import Derived.Test.YtmmlmpcalhfigabShow
namespace Go.Proofs.Ytmmlmpcalhfigab
open Go.RowKit
set_option linter.unusedVariables false

theorem show_eq {v : Nat} {kind width : Int} {m : List UInt8} (hm : markL kind = some m) (hw : ¬ (width < 0 ∨ 64 < width)) : showS v kind width = (m ++ padS width.toNat (digS kind.toNat 65 v []), 0) := by
  unfold showS; rw [hm]; simp only; rw [if_neg hw]
theorem show_bad {v : Nat} {kind width : Int} {m : List UInt8} (hm : markL kind = some m) (hw : width < 0 ∨ 64 < width) : showS v kind width = ([], 1) := by
  unfold showS; rw [hm]; simp only; rw [if_pos hw]
theorem show_none {v : Nat} {kind width : Int} (hm : markL kind = none) : showS v kind width = ([], 1) := by
  unfold showS; rw [hm]

end Go.Proofs.Ytmmlmpcalhfigab
