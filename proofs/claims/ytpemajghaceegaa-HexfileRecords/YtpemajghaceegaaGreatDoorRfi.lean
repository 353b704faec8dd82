/- What the document's Split answers of every line. -/
import Derived.Test.YtpemajghaceegaaGreatDoorRfg
import Derived.Test.YtpemajghaceegaaGreatDoorRfh
namespace Go.Proofs.YtpemajghaceegaaGreatDoor
open Go.RowKit
set_option linter.unusedVariables false

theorem refSplit_any (l : List UInt8) (hl : l.length ≤ 140737488355000) (w : World) :
    Calls Tryz.prog 19 #[.string (bA l)] w fun e w' => SplIs (lineS l) e w w' := by
  cases l with
  | nil => exact refSplitNil_any w
  | cons c t =>
    have ht : t.length ≤ 140737488355000 := by rw [List.length_cons] at hl; omega
    by_cases h1 : c = 58
    · subst h1; exact refSplitIntel_any t ht w
    · by_cases h2 : c = 83
      · subst h2
        cases t with
        | nil => exact refSplitOne_any w
        | cons k u =>
          have hu : u.length ≤ 140737488355000 := by rw [List.length_cons] at ht; omega
          have e : lineS (83 :: k :: u) = if k = 48 ∨ k = 49 ∨ k = 53 ∨ k = 57 then (match unS u with | none => .error 210 | some b => motS (k.toNat - 48) b) else .error 210 := rfl
          rw [e]
          by_cases h48 : k = 48
          · subst h48; exact refSplitMotorola0_any u hu w
          by_cases h49 : k = 49
          · subst h49; exact refSplitMotorola1_any u hu w
          by_cases h53 : k = 53
          · subst h53; exact refSplitMotorola5_any u hu w
          by_cases h57 : k = 57
          · subst h57; exact refSplitMotorola9_any u hu w
          rw [if_neg (fun h => h.elim h48 (fun h => h.elim h49 (fun h => h.elim h53 h57)))]
          exact refSplitKind_any k u hu h48 h49 h53 h57 w
      · by_cases h3 : c = 59
        · subst h3; exact refSplitMos_any t ht w
        · have e : lineS (c :: t) = .error 210 := by simp only [lineS, if_neg h1, if_neg h2, if_neg h3]
          rw [e]
          exact refSplitOther_any c t ht h1 h2 h3 w
end Go.Proofs.YtpemajghaceegaaGreatDoor
