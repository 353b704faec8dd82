/- Plain: have two bytes the same bit 7, and the sum another? -/
import Derived.Test.YtiipfljdkbdbbaaAqp
namespace Go.Proofs.Ytiipfljdkbdbbaa
theorem ov_of {a b s : Nat} {A B : Bool} (qa : b7 a = A) (qb : b7 b = B) : ov a b s = ((A == B) && (b7 s != A)) := by
  unfold ov unl; rw [qa, qb]; cases A <;> cases B <;> cases b7 s <;> rfl
end Go.Proofs.Ytiipfljdkbdbbaa
