/- Plain: FlagV of a difference, in the document's words. -/
import Derived.Test.YtiipfljdkbdbbaaOvf
namespace Go.Proofs.Ytiipfljdkbdbbaa
theorem ovs_of {a b s : Nat} {A B : Bool} (hb : b < 256) (qa : b7 a = A) (qb : b7 b = B) : ov a (255 - b) s = ((A != B) && (b7 s != A)) := by
  rw [ov_of qa (show b7 (255 - b) = !B by rw [b7_not b hb, qb])]; cases A <;> cases B <;> cases b7 s <;> rfl
end Go.Proofs.Ytiipfljdkbdbbaa
