/- What Mul and Inverse of the program and Bytes of the statements answer. -/
import Derived.Test.YtdpkeffkpecmjaaTms
import Derived.Laws.IdiomStrings
namespace Go.Proofs.Ytdpkeffkpecmjaa
open Go.RowKit
set_option linter.unusedVariables false

theorem inv_sq (a : UInt8) (k : Nat) : bm 27 (pw 27 a (2 ^ k)) (pw 27 a (2 ^ k)) = pw 27 a (2 ^ (k + 1)) := by rw [← pw_add]; congr 1; omega
theorem inv_next (a : UInt8) (k : Nat) : bm 27 (pw 27 a (2 ^ (k + 1) - 2)) (pw 27 a (2 ^ (k + 1))) = pw 27 a (2 ^ (k + 1 + 1) - 2) := by
  have : 2 ≤ 2 ^ (k + 1) := by have := Nat.two_pow_pos k; omega
  rw [← pw_add]; congr 1; omega
theorem conv_by {w : World} {v : Value} {l : List UInt8} (h : ByAt w v l) : (convert 22 9 v).run Try.prog w = .ok (.string ⟨l.toArray⟩) w := by
  rcases h with ⟨rfl, a, cap, rfl, hc⟩ | ⟨g, off, cap, rfl, hg, hc⟩
  · cases a with
    | none =>
      rw [run_convert_bytes_string w 22 9 5 none 0 cap Try.underlying22 Try.underlying5 Try.underlying9]
      simp [Conv.bytesToString]
      rfl
    | some a => exact run_convert_bytes_back w 22 9 5 a cap [] Try.underlying22 Try.underlying5 Try.underlying9 (fun j hj => by simp at hj)
  · refine run_convert_bytes_back w 22 9 5 _ cap l Try.underlying22 Try.underlying5 Try.underlying9 fun j hj => ?_
    rw [Go.WideShapes.add_plain, hc j hj, List.getD_eq_getElem?_getD, List.getElem?_eq_getElem hj]; rfl
end Go.Proofs.Ytdpkeffkpecmjaa
