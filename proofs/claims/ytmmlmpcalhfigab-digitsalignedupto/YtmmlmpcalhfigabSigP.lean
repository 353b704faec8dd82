/- What Signed of the program answers. -/
import Derived.Test.YtmmlmpcalhfigabSig
import Derived.Lib.Strings
namespace Go.Proofs.Ytmmlmpcalhfigab
open Go.RowKit
set_option linter.unusedVariables false

theorem first_byte (s : List UInt8) (h : 0 < s.length) (c : UInt8) : ((({ data := s.toArray } : ByteArray).extract 0 1).toList == [c]) = decide (byteAt s 0 = c.toNat) := by
  have h1 : (({ data := s.toArray } : ByteArray).extract 0 1).toList = [s.getD 0 0] := by
    rw [Lib.extract_toList]
    cases s with
    | nil => simp at h
    | cons a l => rfl
  rw [h1, byteAt, Bool.eq_iff_iff]
  simp only [beq_iff_eq, List.cons.injEq, and_true, decide_eq_true_eq]
  exact UInt8.toNat_inj.symm

end Go.Proofs.Ytmmlmpcalhfigab
