/-
  No cell of these rows narrows 'for every input' (looked for: loops, veiled, ifaces, maps, wideKeys, modest, calm, conditions, laid).
  DERIVED. THE GIVEN ROWS OF THIS SEAT. 6 by the template 'for every input the law returns true; each argument reads behind the call as it read before'; 0 by the template 'total and deterministic' (their statements: YtfecadongbmfhaaTotals.lean).
  GIVEN WITH THE SEED: the statements are not yours to turn. If you find one false, say at which input.
  Laid BY PROGRAM, IN A SANDBOX (cutbox-rows.mjs): the forced cells as the released guide's own fill.sh prints them over the translation 9ca71b03ed368816… (all of the seat's roots in one cut). By AI agents, Wed Nov 11 2026. No macro, syntax, notation, axiom, sorry.
-/
import Derived.Test.YtfecadongbmfhaaChecked
import GoSem.Claim
import GoSem.ClaimJoined
import GoSem.ClaimMapViews
import Derived.JoinedTies
import Derived.KernelRfl
namespace Go.Proofs.Ytfecadongbmfhaa
/- THE CELL 'sum', in the pinned program and in every row, IS THE sha256 OF THE DUMP (.gsa) THAT YtfecadongbmfhaaProg.lean LOADS. Nothing in Lean hashes anything: it is a label: what it is worth is what the hold of that sum in a sandbox is worth. -/
noncomputable def Try.pinned : Pinned := { name := "ytfecadongbmfhaa", sum := "9ca71b03ed36881669f95121d97d23a2d40e1f62595ee7981c3b31dd872fe0c1", checked := Try.checked }
namespace Rows
def none {H : Type} : Left H := { results := [], args := [] }

/-- 'orrerylaw18.OpcodeTable': WHATEVER THE INPUT: true; the input reads as it did. -/
def opcodeTableSpec : ChangeSpec := { name := "opcodeTable", fn := fun _ => fun
  | [d1, d2] => { results := [.lit (.bool true)], args := [d1, d2] }
  | _ => none }
def opcodeTableRow : OpenClaim := { program := "ytfecadongbmfhaa", sum := "9ca71b03ed36881669f95121d97d23a2d40e1f62595ee7981c3b31dd872fe0c1", func := "orrery/orrerylaw18.OpcodeTable", spec := "opcodeTable", apart := false }
def OpcodeTableSaid : Prop := opcodeTableRow.holds Try.pinned (OpenSpec.ofChange opcodeTableSpec)

/-- ITS FALSE NEIGHBOUR: 'it returns false'. Refute it at one input. -/
def opcodeTableWrong : ChangeSpec := { name := "opcodeTable", fn := fun _ => fun
  | [d1, d2] => { results := [.lit (.bool false)], args := [d1, d2] }
  | _ => none }
def OpcodeTableWrongFalsely : Prop := opcodeTableRow.holds Try.pinned (OpenSpec.ofChange opcodeTableWrong)

/-- 'orrerylaw18.OpcodeBytes': WHATEVER THE INPUT: true; the input reads as it did. -/
def opcodeBytesSpec : ChangeSpec := { name := "opcodeBytes", fn := fun _ => fun
  | [d] => { results := [.lit (.bool true)], args := [d] }
  | _ => none }
def opcodeBytesRow : OpenClaim := { program := "ytfecadongbmfhaa", sum := "9ca71b03ed36881669f95121d97d23a2d40e1f62595ee7981c3b31dd872fe0c1", func := "orrery/orrerylaw18.OpcodeBytes", spec := "opcodeBytes", apart := false }
def OpcodeBytesSaid : Prop := opcodeBytesRow.holds Try.pinned (OpenSpec.ofChange opcodeBytesSpec)

/-- ITS FALSE NEIGHBOUR: 'it returns false'. Refute it at one input. -/
def opcodeBytesWrong : ChangeSpec := { name := "opcodeBytes", fn := fun _ => fun
  | [d] => { results := [.lit (.bool false)], args := [d] }
  | _ => none }
def OpcodeBytesWrongFalsely : Prop := opcodeBytesRow.holds Try.pinned (OpenSpec.ofChange opcodeBytesWrong)

/-- 'orrerylaw18.OpcodeNames': WHATEVER THE INPUT: true; the input reads as it did. -/
def opcodeNamesSpec : ChangeSpec := { name := "opcodeNames", fn := fun _ => fun
  | [d1, d2] => { results := [.lit (.bool true)], args := [d1, d2] }
  | _ => none }
def opcodeNamesRow : OpenClaim := { program := "ytfecadongbmfhaa", sum := "9ca71b03ed36881669f95121d97d23a2d40e1f62595ee7981c3b31dd872fe0c1", func := "orrery/orrerylaw18.OpcodeNames", spec := "opcodeNames", recurses := true, apart := false }
def OpcodeNamesSaid : Prop := opcodeNamesRow.holds Try.pinned (OpenSpec.ofChange opcodeNamesSpec)

/-- ITS FALSE NEIGHBOUR: 'it returns false'. Refute it at one input. -/
def opcodeNamesWrong : ChangeSpec := { name := "opcodeNames", fn := fun _ => fun
  | [d1, d2] => { results := [.lit (.bool false)], args := [d1, d2] }
  | _ => none }
def OpcodeNamesWrongFalsely : Prop := opcodeNamesRow.holds Try.pinned (OpenSpec.ofChange opcodeNamesWrong)

/-- 'orrerylaw18.OpcodeHashes': WHATEVER THE INPUT: true; the input reads as it did. -/
def opcodeHashesSpec : ChangeSpec := { name := "opcodeHashes", fn := fun _ => fun
  | [d1, d2, d3] => { results := [.lit (.bool true)], args := [d1, d2, d3] }
  | _ => none }
def opcodeHashesRow : OpenClaim := { program := "ytfecadongbmfhaa", sum := "9ca71b03ed36881669f95121d97d23a2d40e1f62595ee7981c3b31dd872fe0c1", func := "orrery/orrerylaw18.OpcodeHashes", spec := "opcodeHashes", apart := false }
def OpcodeHashesSaid : Prop := opcodeHashesRow.holds Try.pinned (OpenSpec.ofChange opcodeHashesSpec)

/-- ITS FALSE NEIGHBOUR: 'it returns false'. Refute it at one input. -/
def opcodeHashesWrong : ChangeSpec := { name := "opcodeHashes", fn := fun _ => fun
  | [d1, d2, d3] => { results := [.lit (.bool false)], args := [d1, d2, d3] }
  | _ => none }
def OpcodeHashesWrongFalsely : Prop := opcodeHashesRow.holds Try.pinned (OpenSpec.ofChange opcodeHashesWrong)

/-- 'orrerylaw18.OpcodeBoth': WHATEVER THE INPUT: true; the input reads as it did. -/
def opcodeBothSpec : ChangeSpec := { name := "opcodeBoth", fn := fun _ => fun
  | [d1, d2, d3, d4] => { results := [.lit (.bool true)], args := [d1, d2, d3, d4] }
  | _ => none }
def opcodeBothRow : OpenClaim := { program := "ytfecadongbmfhaa", sum := "9ca71b03ed36881669f95121d97d23a2d40e1f62595ee7981c3b31dd872fe0c1", func := "orrery/orrerylaw18.OpcodeBoth", spec := "opcodeBoth", apart := false }
def OpcodeBothSaid : Prop := opcodeBothRow.holds Try.pinned (OpenSpec.ofChange opcodeBothSpec)

/-- ITS FALSE NEIGHBOUR: 'it returns false'. Refute it at one input. -/
def opcodeBothWrong : ChangeSpec := { name := "opcodeBoth", fn := fun _ => fun
  | [d1, d2, d3, d4] => { results := [.lit (.bool false)], args := [d1, d2, d3, d4] }
  | _ => none }
def OpcodeBothWrongFalsely : Prop := opcodeBothRow.holds Try.pinned (OpenSpec.ofChange opcodeBothWrong)

/-- 'orrerylaw18.OpcodeCounts': WHATEVER THE INPUT: true; the input reads as it did. -/
def opcodeCountsSpec : ChangeSpec := { name := "opcodeCounts", fn := fun _ => fun
  | [d] => { results := [.lit (.bool true)], args := [d] }
  | _ => none }
def opcodeCountsRow : OpenClaim := { program := "ytfecadongbmfhaa", sum := "9ca71b03ed36881669f95121d97d23a2d40e1f62595ee7981c3b31dd872fe0c1", func := "orrery/orrerylaw18.OpcodeCounts", spec := "opcodeCounts", apart := false }
def OpcodeCountsSaid : Prop := opcodeCountsRow.holds Try.pinned (OpenSpec.ofChange opcodeCountsSpec)

/-- ITS FALSE NEIGHBOUR: 'it returns false'. Refute it at one input. -/
def opcodeCountsWrong : ChangeSpec := { name := "opcodeCounts", fn := fun _ => fun
  | [d] => { results := [.lit (.bool false)], args := [d] }
  | _ => none }
def OpcodeCountsWrongFalsely : Prop := opcodeCountsRow.holds Try.pinned (OpenSpec.ofChange opcodeCountsWrong)

/- THE SECOND FORM. 'bulk': how many values and letters a reading holds, each counted each time it is reached (what is shared counts as often as it is met; a slice's spare places count too). A statement '..UptoSaid' is the law's where the arguments, and the package variables that the reading takes, are together of bulk at most 1048576: NARROWER than '..Said'. Prove '..Said' where nothing that the law and all that it calls make is longer than what came in: it says more and counts as full. Else prove '..UptoSaid'. A law counts once. -/
mutual
def uptoBulk {H : Type} : DataW H → Nat
  | .lit (.string bytes) => bytes.length + 1
  | .lit _ => 1
  | .nil => 1
  | .ptr d => uptoBulk d + 1
  | .slice elems spare => uptoBulkAll elems + uptoBulkAll spare + 1
  | .agg parts => uptoBulkAll parts + 1
  | .iface _ d => uptoBulk d + 1
  | .map entries => uptoBulkEntries entries + 1
  | .held _ => 1
def uptoBulkAll {H : Type} : List (DataW H) → Nat
  | [] => 0
  | d :: r => uptoBulk d + uptoBulkAll r
def uptoBulkEntries {H : Type} : List (Lit × DataW H) → Nat
  | [] => 0
  | x :: r => uptoBulkEntry x + uptoBulkEntries r
def uptoBulkEntry {H : Type} : Lit × DataW H → Nat
  | (.string bytes, d) => bytes.length + uptoBulk d + 1
  | (_, d) => uptoBulk d + 1
 end
def uptoSmall : (H : Type) → List (DataW H) → Bool := fun _ ds => decide (uptoBulkAll ds ≤ 1048576)
def OpenSpec.upto (s : _root_.Go.ChangeSpec) : _root_.Go.OpenSpec := { _root_.Go.OpenSpec.ofChange s with cond := some uptoSmall }

/-- 'orrerylaw18.OpcodeTable', WHERE WHAT IT READS IS OF BULK AT MOST 1048576: true; the input reads as it did. -/
def opcodeTableUptoRow : OpenClaim := { program := "ytfecadongbmfhaa", sum := "9ca71b03ed36881669f95121d97d23a2d40e1f62595ee7981c3b31dd872fe0c1", func := "orrery/orrerylaw18.OpcodeTable", spec := "opcodeTable", apart := false, narrowed := true }
def OpcodeTableUptoSaid : Prop := opcodeTableUptoRow.holds Try.pinned (OpenSpec.upto opcodeTableSpec)

/-- 'orrerylaw18.OpcodeBytes', WHERE WHAT IT READS IS OF BULK AT MOST 1048576: true; the input reads as it did. -/
def opcodeBytesUptoRow : OpenClaim := { program := "ytfecadongbmfhaa", sum := "9ca71b03ed36881669f95121d97d23a2d40e1f62595ee7981c3b31dd872fe0c1", func := "orrery/orrerylaw18.OpcodeBytes", spec := "opcodeBytes", apart := false, narrowed := true }
def OpcodeBytesUptoSaid : Prop := opcodeBytesUptoRow.holds Try.pinned (OpenSpec.upto opcodeBytesSpec)

/-- 'orrerylaw18.OpcodeNames', WHERE WHAT IT READS IS OF BULK AT MOST 1048576: true; the input reads as it did. -/
def opcodeNamesUptoRow : OpenClaim := { program := "ytfecadongbmfhaa", sum := "9ca71b03ed36881669f95121d97d23a2d40e1f62595ee7981c3b31dd872fe0c1", func := "orrery/orrerylaw18.OpcodeNames", spec := "opcodeNames", recurses := true, apart := false, narrowed := true }
def OpcodeNamesUptoSaid : Prop := opcodeNamesUptoRow.holds Try.pinned (OpenSpec.upto opcodeNamesSpec)

/-- 'orrerylaw18.OpcodeHashes', WHERE WHAT IT READS IS OF BULK AT MOST 1048576: true; the input reads as it did. -/
def opcodeHashesUptoRow : OpenClaim := { program := "ytfecadongbmfhaa", sum := "9ca71b03ed36881669f95121d97d23a2d40e1f62595ee7981c3b31dd872fe0c1", func := "orrery/orrerylaw18.OpcodeHashes", spec := "opcodeHashes", apart := false, narrowed := true }
def OpcodeHashesUptoSaid : Prop := opcodeHashesUptoRow.holds Try.pinned (OpenSpec.upto opcodeHashesSpec)

/-- 'orrerylaw18.OpcodeBoth', WHERE WHAT IT READS IS OF BULK AT MOST 1048576: true; the input reads as it did. -/
def opcodeBothUptoRow : OpenClaim := { program := "ytfecadongbmfhaa", sum := "9ca71b03ed36881669f95121d97d23a2d40e1f62595ee7981c3b31dd872fe0c1", func := "orrery/orrerylaw18.OpcodeBoth", spec := "opcodeBoth", apart := false, narrowed := true }
def OpcodeBothUptoSaid : Prop := opcodeBothUptoRow.holds Try.pinned (OpenSpec.upto opcodeBothSpec)

/-- 'orrerylaw18.OpcodeCounts', WHERE WHAT IT READS IS OF BULK AT MOST 1048576: true; the input reads as it did. -/
def opcodeCountsUptoRow : OpenClaim := { program := "ytfecadongbmfhaa", sum := "9ca71b03ed36881669f95121d97d23a2d40e1f62595ee7981c3b31dd872fe0c1", func := "orrery/orrerylaw18.OpcodeCounts", spec := "opcodeCounts", apart := false, narrowed := true }
def OpcodeCountsUptoSaid : Prop := opcodeCountsUptoRow.holds Try.pinned (OpenSpec.upto opcodeCountsSpec)

end Rows
end Go.Proofs.Ytfecadongbmfhaa
