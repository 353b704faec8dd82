/- What Signed answers, the document's and the program's. -/
import Derived.Test.YtmmlmpcalhfigabRead
namespace Go.Proofs.Ytmmlmpcalhfigab
open Go.RowKit
set_option linter.unusedVariables false

theorem ba_drop (s : List UInt8) (m : Nat) : ({ data := s.toArray } : ByteArray).extract m s.length = ⟨(s.drop m).toArray⟩ := by
  apply ByteArray.ext
  rw [ByteArray.data_extract]
  apply Array.toList_inj.1
  simp only [Array.toList_extract, List.extract_eq_take_drop]
  exact List.take_of_length_le (by simp)
theorem signed_eq {s : List UInt8} {m v kd n er : Nat} (hm : (if 0 < s.length ∧ byteAt s 0 = 45 then 1 else 0) = m) (hr : readS (s.drop m) = (v, kd, n, er)) : signedS s = if er ≠ 0 then (0, m + n, er) else if m = 0 ∧ 9223372036854775807 < v ∨ m = 1 ∧ 9223372036854775808 < v then (0, m, 3) else if m = 1 then (-(v : Int), 0, 0) else ((v : Int), 0, 0) := by
  unfold signedS
  simp only [hm, hr]
theorem neg_back {v : Nat} (h : v ≤ 9223372036854775808) : IntKind.i64.wrap (IntKind.u64.wrap (-(v : Int))) = -(v : Int) := by
  rw [IntKind.wrap_i64, IntKind.wrap_u64]
  omega

end Go.Proofs.Ytmmlmpcalhfigab
