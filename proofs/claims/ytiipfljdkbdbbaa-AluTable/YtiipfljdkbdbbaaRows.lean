/-
  No cell of these rows narrows 'for every input' (looked for: loops, veiled, ifaces, maps, wideKeys, modest, calm, conditions, laid).
  DERIVED. THE GIVEN ROWS OF THIS SEAT. 6 by the template 'for every input the law returns true; each argument reads behind the call as it read before'; 0 by the template 'total and deterministic' (their statements: YtiipfljdkbdbbaaTotals.lean).
  GIVEN WITH THE SEED: the statements are not yours to turn. If you find one false, say at which input.
  Laid BY PROGRAM, IN A SANDBOX (cutbox-rows.mjs): the forced cells as the released guide's own fill.sh prints them over the translation 04cf8fbdb3f54d69… (all of the seat's roots in one cut). By AI agents, Wed Nov 11 2026. No macro, syntax, notation, axiom, sorry.
-/
import Derived.Test.YtiipfljdkbdbbaaChecked
import GoSem.Claim
import GoSem.ClaimJoined
import GoSem.ClaimMapViews
import Derived.JoinedTies
import Derived.KernelRfl
namespace Go.Proofs.Ytiipfljdkbdbbaa
/- THE CELL 'sum', in the pinned program and in every row, IS THE sha256 OF THE DUMP (.gsa) THAT YtiipfljdkbdbbaaProg.lean LOADS. Nothing in Lean hashes anything: it is a label: what it is worth is what the hold of that sum in a sandbox is worth. -/
noncomputable def Try.pinned : Pinned := { name := "ytiipfljdkbdbbaa", sum := "04cf8fbdb3f54d6961e13f8d6804fce755bcd592ec95aac96b6e665fa5e5a311", checked := Try.checked }
namespace Rows
def none {H : Type} : Left H := { results := [], args := [] }

/-- 'orrerylaw24.AluTable': WHATEVER THE INPUT: true; the input reads as it did. -/
def aluTableSpec : ChangeSpec := { name := "aluTable", fn := fun _ => fun
  | [d1, d2, d3, d4] => { results := [.lit (.bool true)], args := [d1, d2, d3, d4] }
  | _ => none }
def aluTableRow : OpenClaim := { program := "ytiipfljdkbdbbaa", sum := "04cf8fbdb3f54d6961e13f8d6804fce755bcd592ec95aac96b6e665fa5e5a311", func := "orrery/orrerylaw24.AluTable", spec := "aluTable", apart := false }
def AluTableSaid : Prop := aluTableRow.holds Try.pinned (OpenSpec.ofChange aluTableSpec)

/-- ITS FALSE NEIGHBOUR: 'it returns false'. Refute it at one input. -/
def aluTableWrong : ChangeSpec := { name := "aluTable", fn := fun _ => fun
  | [d1, d2, d3, d4] => { results := [.lit (.bool false)], args := [d1, d2, d3, d4] }
  | _ => none }
def AluTableWrongFalsely : Prop := aluTableRow.holds Try.pinned (OpenSpec.ofChange aluTableWrong)

/-- 'orrerylaw24.AluSums': WHATEVER THE INPUT: true; the input reads as it did. -/
def aluSumsSpec : ChangeSpec := { name := "aluSums", fn := fun _ => fun
  | [d1, d2, d3] => { results := [.lit (.bool true)], args := [d1, d2, d3] }
  | _ => none }
def aluSumsRow : OpenClaim := { program := "ytiipfljdkbdbbaa", sum := "04cf8fbdb3f54d6961e13f8d6804fce755bcd592ec95aac96b6e665fa5e5a311", func := "orrery/orrerylaw24.AluSums", spec := "aluSums", apart := false }
def AluSumsSaid : Prop := aluSumsRow.holds Try.pinned (OpenSpec.ofChange aluSumsSpec)

/-- ITS FALSE NEIGHBOUR: 'it returns false'. Refute it at one input. -/
def aluSumsWrong : ChangeSpec := { name := "aluSums", fn := fun _ => fun
  | [d1, d2, d3] => { results := [.lit (.bool false)], args := [d1, d2, d3] }
  | _ => none }
def AluSumsWrongFalsely : Prop := aluSumsRow.holds Try.pinned (OpenSpec.ofChange aluSumsWrong)

/-- 'orrerylaw24.AluBits': WHATEVER THE INPUT: true; the input reads as it did. -/
def aluBitsSpec : ChangeSpec := { name := "aluBits", fn := fun _ => fun
  | [d1, d2, d3] => { results := [.lit (.bool true)], args := [d1, d2, d3] }
  | _ => none }
def aluBitsRow : OpenClaim := { program := "ytiipfljdkbdbbaa", sum := "04cf8fbdb3f54d6961e13f8d6804fce755bcd592ec95aac96b6e665fa5e5a311", func := "orrery/orrerylaw24.AluBits", spec := "aluBits", apart := false }
def AluBitsSaid : Prop := aluBitsRow.holds Try.pinned (OpenSpec.ofChange aluBitsSpec)

/-- ITS FALSE NEIGHBOUR: 'it returns false'. Refute it at one input. -/
def aluBitsWrong : ChangeSpec := { name := "aluBits", fn := fun _ => fun
  | [d1, d2, d3] => { results := [.lit (.bool false)], args := [d1, d2, d3] }
  | _ => none }
def AluBitsWrongFalsely : Prop := aluBitsRow.holds Try.pinned (OpenSpec.ofChange aluBitsWrong)

/-- 'orrerylaw24.AluShifts': WHATEVER THE INPUT: true; the input reads as it did. -/
def aluShiftsSpec : ChangeSpec := { name := "aluShifts", fn := fun _ => fun
  | [d1, d2] => { results := [.lit (.bool true)], args := [d1, d2] }
  | _ => none }
def aluShiftsRow : OpenClaim := { program := "ytiipfljdkbdbbaa", sum := "04cf8fbdb3f54d6961e13f8d6804fce755bcd592ec95aac96b6e665fa5e5a311", func := "orrery/orrerylaw24.AluShifts", spec := "aluShifts", apart := false }
def AluShiftsSaid : Prop := aluShiftsRow.holds Try.pinned (OpenSpec.ofChange aluShiftsSpec)

/-- ITS FALSE NEIGHBOUR: 'it returns false'. Refute it at one input. -/
def aluShiftsWrong : ChangeSpec := { name := "aluShifts", fn := fun _ => fun
  | [d1, d2] => { results := [.lit (.bool false)], args := [d1, d2] }
  | _ => none }
def AluShiftsWrongFalsely : Prop := aluShiftsRow.holds Try.pinned (OpenSpec.ofChange aluShiftsWrong)

/-- 'orrerylaw24.AluBinary': WHATEVER THE INPUT: true; the input reads as it did. -/
def aluBinarySpec : ChangeSpec := { name := "aluBinary", fn := fun _ => fun
  | [d1, d2, d3] => { results := [.lit (.bool true)], args := [d1, d2, d3] }
  | _ => none }
def aluBinaryRow : OpenClaim := { program := "ytiipfljdkbdbbaa", sum := "04cf8fbdb3f54d6961e13f8d6804fce755bcd592ec95aac96b6e665fa5e5a311", func := "orrery/orrerylaw24.AluBinary", spec := "aluBinary", apart := false }
def AluBinarySaid : Prop := aluBinaryRow.holds Try.pinned (OpenSpec.ofChange aluBinarySpec)

/-- ITS FALSE NEIGHBOUR: 'it returns false'. Refute it at one input. -/
def aluBinaryWrong : ChangeSpec := { name := "aluBinary", fn := fun _ => fun
  | [d1, d2, d3] => { results := [.lit (.bool false)], args := [d1, d2, d3] }
  | _ => none }
def AluBinaryWrongFalsely : Prop := aluBinaryRow.holds Try.pinned (OpenSpec.ofChange aluBinaryWrong)

/-- 'orrerylaw24.AluDecimal': WHATEVER THE INPUT: true; the input reads as it did. -/
def aluDecimalSpec : ChangeSpec := { name := "aluDecimal", fn := fun _ => fun
  | [d1, d2, d3] => { results := [.lit (.bool true)], args := [d1, d2, d3] }
  | _ => none }
def aluDecimalRow : OpenClaim := { program := "ytiipfljdkbdbbaa", sum := "04cf8fbdb3f54d6961e13f8d6804fce755bcd592ec95aac96b6e665fa5e5a311", func := "orrery/orrerylaw24.AluDecimal", spec := "aluDecimal", apart := false }
def AluDecimalSaid : Prop := aluDecimalRow.holds Try.pinned (OpenSpec.ofChange aluDecimalSpec)

/-- ITS FALSE NEIGHBOUR: 'it returns false'. Refute it at one input. -/
def aluDecimalWrong : ChangeSpec := { name := "aluDecimal", fn := fun _ => fun
  | [d1, d2, d3] => { results := [.lit (.bool false)], args := [d1, d2, d3] }
  | _ => none }
def AluDecimalWrongFalsely : Prop := aluDecimalRow.holds Try.pinned (OpenSpec.ofChange aluDecimalWrong)

/- THE SECOND FORM. 'bulk': how many values and letters a reading holds, each counted each time it is reached (what is shared counts as often as it is met; a slice's spare places count too). A statement '..UptoSaid' is the law's where the arguments, and the package variables that the reading takes, are together of bulk at most 1048576: NARROWER than '..Said'. Prove '..Said' where nothing that the law and all that it calls make is longer than what came in: it says more and counts as full. Else prove '..UptoSaid'. A law counts once. -/
mutual
def uptoBulk {H : Type} : DataW H → Nat
  | .lit (.string bytes) => bytes.length + 1
  | .lit _ => 1
  | .nil => 1
  | .ptr d => uptoBulk d + 1
  | .slice elems spare => uptoBulkAll elems + uptoBulkAll spare + 1
  | .agg parts => uptoBulkAll parts + 1
  | .iface _ d => uptoBulk d + 1
  | .map entries => uptoBulkEntries entries + 1
  | .held _ => 1
def uptoBulkAll {H : Type} : List (DataW H) → Nat
  | [] => 0
  | d :: r => uptoBulk d + uptoBulkAll r
def uptoBulkEntries {H : Type} : List (Lit × DataW H) → Nat
  | [] => 0
  | x :: r => uptoBulkEntry x + uptoBulkEntries r
def uptoBulkEntry {H : Type} : Lit × DataW H → Nat
  | (.string bytes, d) => bytes.length + uptoBulk d + 1
  | (_, d) => uptoBulk d + 1
 end
def uptoSmall : (H : Type) → List (DataW H) → Bool := fun _ ds => decide (uptoBulkAll ds ≤ 1048576)
def OpenSpec.upto (s : _root_.Go.ChangeSpec) : _root_.Go.OpenSpec := { _root_.Go.OpenSpec.ofChange s with cond := some uptoSmall }

/-- 'orrerylaw24.AluTable', WHERE WHAT IT READS IS OF BULK AT MOST 1048576: true; the input reads as it did. -/
def aluTableUptoRow : OpenClaim := { program := "ytiipfljdkbdbbaa", sum := "04cf8fbdb3f54d6961e13f8d6804fce755bcd592ec95aac96b6e665fa5e5a311", func := "orrery/orrerylaw24.AluTable", spec := "aluTable", apart := false, narrowed := true }
def AluTableUptoSaid : Prop := aluTableUptoRow.holds Try.pinned (OpenSpec.upto aluTableSpec)

/-- 'orrerylaw24.AluSums', WHERE WHAT IT READS IS OF BULK AT MOST 1048576: true; the input reads as it did. -/
def aluSumsUptoRow : OpenClaim := { program := "ytiipfljdkbdbbaa", sum := "04cf8fbdb3f54d6961e13f8d6804fce755bcd592ec95aac96b6e665fa5e5a311", func := "orrery/orrerylaw24.AluSums", spec := "aluSums", apart := false, narrowed := true }
def AluSumsUptoSaid : Prop := aluSumsUptoRow.holds Try.pinned (OpenSpec.upto aluSumsSpec)

/-- 'orrerylaw24.AluBits', WHERE WHAT IT READS IS OF BULK AT MOST 1048576: true; the input reads as it did. -/
def aluBitsUptoRow : OpenClaim := { program := "ytiipfljdkbdbbaa", sum := "04cf8fbdb3f54d6961e13f8d6804fce755bcd592ec95aac96b6e665fa5e5a311", func := "orrery/orrerylaw24.AluBits", spec := "aluBits", apart := false, narrowed := true }
def AluBitsUptoSaid : Prop := aluBitsUptoRow.holds Try.pinned (OpenSpec.upto aluBitsSpec)

/-- 'orrerylaw24.AluShifts', WHERE WHAT IT READS IS OF BULK AT MOST 1048576: true; the input reads as it did. -/
def aluShiftsUptoRow : OpenClaim := { program := "ytiipfljdkbdbbaa", sum := "04cf8fbdb3f54d6961e13f8d6804fce755bcd592ec95aac96b6e665fa5e5a311", func := "orrery/orrerylaw24.AluShifts", spec := "aluShifts", apart := false, narrowed := true }
def AluShiftsUptoSaid : Prop := aluShiftsUptoRow.holds Try.pinned (OpenSpec.upto aluShiftsSpec)

/-- 'orrerylaw24.AluBinary', WHERE WHAT IT READS IS OF BULK AT MOST 1048576: true; the input reads as it did. -/
def aluBinaryUptoRow : OpenClaim := { program := "ytiipfljdkbdbbaa", sum := "04cf8fbdb3f54d6961e13f8d6804fce755bcd592ec95aac96b6e665fa5e5a311", func := "orrery/orrerylaw24.AluBinary", spec := "aluBinary", apart := false, narrowed := true }
def AluBinaryUptoSaid : Prop := aluBinaryUptoRow.holds Try.pinned (OpenSpec.upto aluBinarySpec)

/-- 'orrerylaw24.AluDecimal', WHERE WHAT IT READS IS OF BULK AT MOST 1048576: true; the input reads as it did. -/
def aluDecimalUptoRow : OpenClaim := { program := "ytiipfljdkbdbbaa", sum := "04cf8fbdb3f54d6961e13f8d6804fce755bcd592ec95aac96b6e665fa5e5a311", func := "orrery/orrerylaw24.AluDecimal", spec := "aluDecimal", apart := false, narrowed := true }
def AluDecimalUptoSaid : Prop := aluDecimalUptoRow.holds Try.pinned (OpenSpec.upto aluDecimalSpec)

end Rows
end Go.Proofs.Ytiipfljdkbdbbaa
