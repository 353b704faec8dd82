/- GfDivides: all cases. -/
import Derived.Test.YtfngnajjlhnglaaDvt
import Derived.Test.YtfngnajjlhnglaaDvu
import Derived.Test.YtfngnajjlhnglaaDvv
namespace Go.Proofs.Ytfngnajjlhnglaa
open Go.RowKit
set_option linter.unusedVariables false

theorem gfDivides_any (p q : List UInt8) (a d : Option Addr) (ca cd : Nat) (hp1 : p.length ≤ ca) (hp2 : ca ≤ 140737488351232) (hq1 : q.length ≤ cd) (hq2 : cd ≤ 140737488351232) (nx : Nat) (hx : nx < 256) (w : World) (hp : ByAt w (.slice a p.length ca) p) (hq : ByAt w (.slice d q.length cd) q) :
    Calls Try.prog 8 #[.slice a p.length ca, .slice d q.length cd, .int .u8 nx] w fun e w' => e = .returned (.bool true) ∧ Below w.heap.size w w' := by
  obtain ⟨x, rfl⟩ := u8_of nx hx
  have hsp : SlAt w (.slice a p.length ca) p := ⟨⟨_, _, rfl, hp1, by omega⟩, hp⟩
  have hsq : SlAt w (.slice d q.length cd) q := ⟨⟨_, _, rfl, hq1, by omega⟩, hq⟩
  by_cases hy : evalS 29 x p = 0
  · by_cases h0 : trimS q = []
    · exact divides_yq p q x hy h0 (by omega) (by omega) _ _ w hsp hsq
    · exact divides_yn p q x hy h0 (by omega) (by omega) _ _ w hsp hsq
  · by_cases h0 : trimS q = []
    · exact divides_nq p q x hy h0 (by omega) (by omega) _ _ w hsp hsq
    · exact divides_nn p q x hy h0 (by omega) (by omega) _ _ w hsp hsq
end Go.Proofs.Ytfngnajjlhnglaa
