/-
  No cell of these rows narrows 'for every input' (looked for: loops, veiled, ifaces, maps, wideKeys, modest, calm, conditions, laid).
  DERIVED. THE GIVEN ROWS OF THIS SEAT. 6 by the template 'for every input the law returns true; each argument reads behind the call as it read before'; 0 by the template 'total and deterministic' (their statements: YtfngnajjlhnglaaTotals.lean).
  GIVEN WITH THE SEED: the statements are not yours to turn. If you find one false, say at which input.
  Laid BY PROGRAM, IN A SANDBOX (cutbox-rows.mjs): the forced cells as the released guide's own fill.sh prints them over the translation 902d0a8204ba5977… (all of the seat's roots in one cut). By AI agents, Wed Nov 11 2026. No macro, syntax, notation, axiom, sorry.
-/
import Derived.Test.YtfngnajjlhnglaaChecked
import GoSem.Claim
import GoSem.ClaimJoined
import GoSem.ClaimMapViews
import Derived.JoinedTies
import Derived.KernelRfl
namespace Go.Proofs.Ytfngnajjlhnglaa
/- THE CELL 'sum', in the pinned program and in every row, IS THE sha256 OF THE DUMP (.gsa) THAT YtfngnajjlhnglaaProg.lean LOADS. Nothing in Lean hashes anything: it is a label: what it is worth is what the hold of that sum in a sandbox is worth. -/
noncomputable def Try.pinned : Pinned := { name := "ytfngnajjlhnglaa", sum := "902d0a8204ba5977c48243eb0e0e851189d21f5b771dda9468b49bf82f2e3c94", checked := Try.checked }
namespace Rows
def none {H : Type} : Left H := { results := [], args := [] }

/-- 'orrerylaw05.GfCarries': WHATEVER THE INPUT: true; the input reads as it did. -/
def gfCarriesSpec : ChangeSpec := { name := "gfCarries", fn := fun _ => fun
  | [d1, d2, d3] => { results := [.lit (.bool true)], args := [d1, d2, d3] }
  | _ => none }
def gfCarriesRow : OpenClaim := { program := "ytfngnajjlhnglaa", sum := "902d0a8204ba5977c48243eb0e0e851189d21f5b771dda9468b49bf82f2e3c94", func := "orrery/orrerylaw05.GfCarries", spec := "gfCarries", apart := false }
def GfCarriesSaid : Prop := gfCarriesRow.holds Try.pinned (OpenSpec.ofChange gfCarriesSpec)

/-- ITS FALSE NEIGHBOUR: 'it returns false'. Refute it at one input. -/
def gfCarriesWrong : ChangeSpec := { name := "gfCarries", fn := fun _ => fun
  | [d1, d2, d3] => { results := [.lit (.bool false)], args := [d1, d2, d3] }
  | _ => none }
def GfCarriesWrongFalsely : Prop := gfCarriesRow.holds Try.pinned (OpenSpec.ofChange gfCarriesWrong)

/-- 'orrerylaw05.GfFields': WHATEVER THE INPUT: true; the input reads as it did. -/
def gfFieldsSpec : ChangeSpec := { name := "gfFields", fn := fun _ => fun
  | [d1, d2, d3, d4, d5] => { results := [.lit (.bool true)], args := [d1, d2, d3, d4, d5] }
  | _ => none }
def gfFieldsRow : OpenClaim := { program := "ytfngnajjlhnglaa", sum := "902d0a8204ba5977c48243eb0e0e851189d21f5b771dda9468b49bf82f2e3c94", func := "orrery/orrerylaw05.GfFields", spec := "gfFields", apart := false }
def GfFieldsSaid : Prop := gfFieldsRow.holds Try.pinned (OpenSpec.ofChange gfFieldsSpec)

/-- ITS FALSE NEIGHBOUR: 'it returns false'. Refute it at one input. -/
def gfFieldsWrong : ChangeSpec := { name := "gfFields", fn := fun _ => fun
  | [d1, d2, d3, d4, d5] => { results := [.lit (.bool false)], args := [d1, d2, d3, d4, d5] }
  | _ => none }
def GfFieldsWrongFalsely : Prop := gfFieldsRow.holds Try.pinned (OpenSpec.ofChange gfFieldsWrong)

/-- 'orrerylaw05.GfPolynomials': WHATEVER THE INPUT: true; the input reads as it did. -/
def gfPolynomialsSpec : ChangeSpec := { name := "gfPolynomials", fn := fun _ => fun
  | [d1, d2, d3, d4, d5] => { results := [.lit (.bool true)], args := [d1, d2, d3, d4, d5] }
  | _ => none }
def gfPolynomialsRow : OpenClaim := { program := "ytfngnajjlhnglaa", sum := "902d0a8204ba5977c48243eb0e0e851189d21f5b771dda9468b49bf82f2e3c94", func := "orrery/orrerylaw05.GfPolynomials", spec := "gfPolynomials", apart := false }
def GfPolynomialsSaid : Prop := gfPolynomialsRow.holds Try.pinned (OpenSpec.ofChange gfPolynomialsSpec)

/-- ITS FALSE NEIGHBOUR: 'it returns false'. Refute it at one input. -/
def gfPolynomialsWrong : ChangeSpec := { name := "gfPolynomials", fn := fun _ => fun
  | [d1, d2, d3, d4, d5] => { results := [.lit (.bool false)], args := [d1, d2, d3, d4, d5] }
  | _ => none }
def GfPolynomialsWrongFalsely : Prop := gfPolynomialsRow.holds Try.pinned (OpenSpec.ofChange gfPolynomialsWrong)

/-- 'orrerylaw05.GfTable': WHATEVER THE INPUT: true; the input reads as it did. -/
def gfTableSpec : ChangeSpec := { name := "gfTable", fn := fun _ => fun
  | [d1, d2] => { results := [.lit (.bool true)], args := [d1, d2] }
  | _ => none }
def gfTableRow : OpenClaim := { program := "ytfngnajjlhnglaa", sum := "902d0a8204ba5977c48243eb0e0e851189d21f5b771dda9468b49bf82f2e3c94", func := "orrery/orrerylaw05.GfTable", spec := "gfTable", apart := false }
def GfTableSaid : Prop := gfTableRow.holds Try.pinned (OpenSpec.ofChange gfTableSpec)

/-- ITS FALSE NEIGHBOUR: 'it returns false'. Refute it at one input. -/
def gfTableWrong : ChangeSpec := { name := "gfTable", fn := fun _ => fun
  | [d1, d2] => { results := [.lit (.bool false)], args := [d1, d2] }
  | _ => none }
def GfTableWrongFalsely : Prop := gfTableRow.holds Try.pinned (OpenSpec.ofChange gfTableWrong)

/-- 'orrerylaw05.GfField': WHATEVER THE INPUT: true; the input reads as it did. -/
def gfFieldSpec : ChangeSpec := { name := "gfField", fn := fun _ => fun
  | [d1, d2, d3, d4, d5] => { results := [.lit (.bool true)], args := [d1, d2, d3, d4, d5] }
  | _ => none }
def gfFieldRow : OpenClaim := { program := "ytfngnajjlhnglaa", sum := "902d0a8204ba5977c48243eb0e0e851189d21f5b771dda9468b49bf82f2e3c94", func := "orrery/orrerylaw05.GfField", spec := "gfField", apart := false }
def GfFieldSaid : Prop := gfFieldRow.holds Try.pinned (OpenSpec.ofChange gfFieldSpec)

/-- ITS FALSE NEIGHBOUR: 'it returns false'. Refute it at one input. -/
def gfFieldWrong : ChangeSpec := { name := "gfField", fn := fun _ => fun
  | [d1, d2, d3, d4, d5] => { results := [.lit (.bool false)], args := [d1, d2, d3, d4, d5] }
  | _ => none }
def GfFieldWrongFalsely : Prop := gfFieldRow.holds Try.pinned (OpenSpec.ofChange gfFieldWrong)

/-- 'orrerylaw05.GfDivides': WHATEVER THE INPUT: true; the input reads as it did. -/
def gfDividesSpec : ChangeSpec := { name := "gfDivides", fn := fun _ => fun
  | [d1, d2, d3] => { results := [.lit (.bool true)], args := [d1, d2, d3] }
  | _ => none }
def gfDividesRow : OpenClaim := { program := "ytfngnajjlhnglaa", sum := "902d0a8204ba5977c48243eb0e0e851189d21f5b771dda9468b49bf82f2e3c94", func := "orrery/orrerylaw05.GfDivides", spec := "gfDivides", apart := false }
def GfDividesSaid : Prop := gfDividesRow.holds Try.pinned (OpenSpec.ofChange gfDividesSpec)

/-- ITS FALSE NEIGHBOUR: 'it returns false'. Refute it at one input. -/
def gfDividesWrong : ChangeSpec := { name := "gfDivides", fn := fun _ => fun
  | [d1, d2, d3] => { results := [.lit (.bool false)], args := [d1, d2, d3] }
  | _ => none }
def GfDividesWrongFalsely : Prop := gfDividesRow.holds Try.pinned (OpenSpec.ofChange gfDividesWrong)

/- THE SECOND FORM. 'bulk': how many values and letters a reading holds, each counted each time it is reached (what is shared counts as often as it is met; a slice's spare places count too). A statement '..UptoSaid' is the law's where the arguments, and the package variables that the reading takes, are together of bulk at most 1048576: NARROWER than '..Said'. Prove '..Said' where nothing that the law and all that it calls make is longer than what came in: it says more and counts as full. Else prove '..UptoSaid'. A law counts once. -/
mutual
def uptoBulk {H : Type} : DataW H → Nat
  | .lit (.string bytes) => bytes.length + 1
  | .lit _ => 1
  | .nil => 1
  | .ptr d => uptoBulk d + 1
  | .slice elems spare => uptoBulkAll elems + uptoBulkAll spare + 1
  | .agg parts => uptoBulkAll parts + 1
  | .iface _ d => uptoBulk d + 1
  | .map entries => uptoBulkEntries entries + 1
  | .held _ => 1
def uptoBulkAll {H : Type} : List (DataW H) → Nat
  | [] => 0
  | d :: r => uptoBulk d + uptoBulkAll r
def uptoBulkEntries {H : Type} : List (Lit × DataW H) → Nat
  | [] => 0
  | x :: r => uptoBulkEntry x + uptoBulkEntries r
def uptoBulkEntry {H : Type} : Lit × DataW H → Nat
  | (.string bytes, d) => bytes.length + uptoBulk d + 1
  | (_, d) => uptoBulk d + 1
 end
def uptoSmall : (H : Type) → List (DataW H) → Bool := fun _ ds => decide (uptoBulkAll ds ≤ 1048576)
def OpenSpec.upto (s : _root_.Go.ChangeSpec) : _root_.Go.OpenSpec := { _root_.Go.OpenSpec.ofChange s with cond := some uptoSmall }

/-- 'orrerylaw05.GfCarries', WHERE WHAT IT READS IS OF BULK AT MOST 1048576: true; the input reads as it did. -/
def gfCarriesUptoRow : OpenClaim := { program := "ytfngnajjlhnglaa", sum := "902d0a8204ba5977c48243eb0e0e851189d21f5b771dda9468b49bf82f2e3c94", func := "orrery/orrerylaw05.GfCarries", spec := "gfCarries", apart := false, narrowed := true }
def GfCarriesUptoSaid : Prop := gfCarriesUptoRow.holds Try.pinned (OpenSpec.upto gfCarriesSpec)

/-- 'orrerylaw05.GfFields', WHERE WHAT IT READS IS OF BULK AT MOST 1048576: true; the input reads as it did. -/
def gfFieldsUptoRow : OpenClaim := { program := "ytfngnajjlhnglaa", sum := "902d0a8204ba5977c48243eb0e0e851189d21f5b771dda9468b49bf82f2e3c94", func := "orrery/orrerylaw05.GfFields", spec := "gfFields", apart := false, narrowed := true }
def GfFieldsUptoSaid : Prop := gfFieldsUptoRow.holds Try.pinned (OpenSpec.upto gfFieldsSpec)

/-- 'orrerylaw05.GfPolynomials', WHERE WHAT IT READS IS OF BULK AT MOST 1048576: true; the input reads as it did. -/
def gfPolynomialsUptoRow : OpenClaim := { program := "ytfngnajjlhnglaa", sum := "902d0a8204ba5977c48243eb0e0e851189d21f5b771dda9468b49bf82f2e3c94", func := "orrery/orrerylaw05.GfPolynomials", spec := "gfPolynomials", apart := false, narrowed := true }
def GfPolynomialsUptoSaid : Prop := gfPolynomialsUptoRow.holds Try.pinned (OpenSpec.upto gfPolynomialsSpec)

/-- 'orrerylaw05.GfTable', WHERE WHAT IT READS IS OF BULK AT MOST 1048576: true; the input reads as it did. -/
def gfTableUptoRow : OpenClaim := { program := "ytfngnajjlhnglaa", sum := "902d0a8204ba5977c48243eb0e0e851189d21f5b771dda9468b49bf82f2e3c94", func := "orrery/orrerylaw05.GfTable", spec := "gfTable", apart := false, narrowed := true }
def GfTableUptoSaid : Prop := gfTableUptoRow.holds Try.pinned (OpenSpec.upto gfTableSpec)

/-- 'orrerylaw05.GfField', WHERE WHAT IT READS IS OF BULK AT MOST 1048576: true; the input reads as it did. -/
def gfFieldUptoRow : OpenClaim := { program := "ytfngnajjlhnglaa", sum := "902d0a8204ba5977c48243eb0e0e851189d21f5b771dda9468b49bf82f2e3c94", func := "orrery/orrerylaw05.GfField", spec := "gfField", apart := false, narrowed := true }
def GfFieldUptoSaid : Prop := gfFieldUptoRow.holds Try.pinned (OpenSpec.upto gfFieldSpec)

/-- 'orrerylaw05.GfDivides', WHERE WHAT IT READS IS OF BULK AT MOST 1048576: true; the input reads as it did. -/
def gfDividesUptoRow : OpenClaim := { program := "ytfngnajjlhnglaa", sum := "902d0a8204ba5977c48243eb0e0e851189d21f5b771dda9468b49bf82f2e3c94", func := "orrery/orrerylaw05.GfDivides", spec := "gfDivides", apart := false, narrowed := true }
def GfDividesUptoSaid : Prop := gfDividesUptoRow.holds Try.pinned (OpenSpec.upto gfDividesSpec)

end Rows
end Go.Proofs.Ytfngnajjlhnglaa
