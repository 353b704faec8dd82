/-
  No cell of these rows narrows 'for every input' (looked for: loops, veiled, ifaces, maps, wideKeys, modest, calm, conditions, laid).
  DERIVED. THE GIVEN ROWS OF THIS SEAT. 6 by the template 'for every input the law returns true; each argument reads behind the call as it read before'; 0 by the template 'total and deterministic' (their statements: YtdbledfpphkppaaTotals.lean).
  GIVEN WITH THE SEED: the statements are not yours to turn. If you find one false, say at which input.
  Laid BY PROGRAM, IN A SANDBOX (cutbox-rows.mjs): the forced cells as the released guide's own fill.sh prints them over the translation 9c44db8157215de8… (all of the seat's roots in one cut). By AI agents, Wed Nov 11 2026. No macro, syntax, notation, axiom, sorry.
-/
import Derived.Test.YtdbledfpphkppaaChecked
import GoSem.Claim
import GoSem.ClaimJoined
import GoSem.ClaimMapViews
import Derived.JoinedTies
import Derived.KernelRfl
namespace Go.Proofs.Ytdbledfpphkppaa
/- THE CELL 'sum', in the pinned program and in every row, IS THE sha256 OF THE DUMP (.gsa) THAT YtdbledfpphkppaaProg.lean LOADS. Nothing in Lean hashes anything: it is a label: what it is worth is what the hold of that sum in a sandbox is worth. -/
noncomputable def Try.pinned : Pinned := { name := "ytdbledfpphkppaa", sum := "9c44db8157215de867500721ca4e5774815a821a069025c25b8c585c963801d2", checked := Try.checked }
namespace Rows
def none {H : Type} : Left H := { results := [], args := [] }

/-- 'orrerylaw07.SboxParts': WHATEVER THE INPUT: true; the input reads as it did. -/
def sboxPartsSpec : ChangeSpec := { name := "sboxParts", fn := fun _ => fun
  | [d1, d2, d3] => { results := [.lit (.bool true)], args := [d1, d2, d3] }
  | _ => none }
def sboxPartsRow : OpenClaim := { program := "ytdbledfpphkppaa", sum := "9c44db8157215de867500721ca4e5774815a821a069025c25b8c585c963801d2", func := "orrery/orrerylaw07.SboxParts", spec := "sboxParts", apart := false }
def SboxPartsSaid : Prop := sboxPartsRow.holds Try.pinned (OpenSpec.ofChange sboxPartsSpec)

/-- ITS FALSE NEIGHBOUR: 'it returns false'. Refute it at one input. -/
def sboxPartsWrong : ChangeSpec := { name := "sboxParts", fn := fun _ => fun
  | [d1, d2, d3] => { results := [.lit (.bool false)], args := [d1, d2, d3] }
  | _ => none }
def SboxPartsWrongFalsely : Prop := sboxPartsRow.holds Try.pinned (OpenSpec.ofChange sboxPartsWrong)

/-- 'orrerylaw07.SboxTables': WHATEVER THE INPUT: true; the input reads as it did. -/
def sboxTablesSpec : ChangeSpec := { name := "sboxTables", fn := fun _ => fun
  | [d1, d2, d3, d4] => { results := [.lit (.bool true)], args := [d1, d2, d3, d4] }
  | _ => none }
def sboxTablesRow : OpenClaim := { program := "ytdbledfpphkppaa", sum := "9c44db8157215de867500721ca4e5774815a821a069025c25b8c585c963801d2", func := "orrery/orrerylaw07.SboxTables", spec := "sboxTables", recurses := true, apart := false }
def SboxTablesSaid : Prop := sboxTablesRow.holds Try.pinned (OpenSpec.ofChange sboxTablesSpec)

/-- ITS FALSE NEIGHBOUR: 'it returns false'. Refute it at one input. -/
def sboxTablesWrong : ChangeSpec := { name := "sboxTables", fn := fun _ => fun
  | [d1, d2, d3, d4] => { results := [.lit (.bool false)], args := [d1, d2, d3, d4] }
  | _ => none }
def SboxTablesWrongFalsely : Prop := sboxTablesRow.holds Try.pinned (OpenSpec.ofChange sboxTablesWrong)

/-- 'orrerylaw07.SboxGreatest': WHATEVER THE INPUT: true; the input reads as it did. -/
def sboxGreatestSpec : ChangeSpec := { name := "sboxGreatest", fn := fun _ => fun
  | [d] => { results := [.lit (.bool true)], args := [d] }
  | _ => none }
def sboxGreatestRow : OpenClaim := { program := "ytdbledfpphkppaa", sum := "9c44db8157215de867500721ca4e5774815a821a069025c25b8c585c963801d2", func := "orrery/orrerylaw07.SboxGreatest", spec := "sboxGreatest", apart := false }
def SboxGreatestSaid : Prop := sboxGreatestRow.holds Try.pinned (OpenSpec.ofChange sboxGreatestSpec)

/-- ITS FALSE NEIGHBOUR: 'it returns false'. Refute it at one input. -/
def sboxGreatestWrong : ChangeSpec := { name := "sboxGreatest", fn := fun _ => fun
  | [d] => { results := [.lit (.bool false)], args := [d] }
  | _ => none }
def SboxGreatestWrongFalsely : Prop := sboxGreatestRow.holds Try.pinned (OpenSpec.ofChange sboxGreatestWrong)

/-- 'orrerylaw07.SboxTable': WHATEVER THE INPUT: true; the input reads as it did. -/
def sboxTableSpec : ChangeSpec := { name := "sboxTable", fn := fun _ => fun
  | [d] => { results := [.lit (.bool true)], args := [d] }
  | _ => none }
def sboxTableRow : OpenClaim := { program := "ytdbledfpphkppaa", sum := "9c44db8157215de867500721ca4e5774815a821a069025c25b8c585c963801d2", func := "orrery/orrerylaw07.SboxTable", spec := "sboxTable", apart := false }
def SboxTableSaid : Prop := sboxTableRow.holds Try.pinned (OpenSpec.ofChange sboxTableSpec)

/-- ITS FALSE NEIGHBOUR: 'it returns false'. Refute it at one input. -/
def sboxTableWrong : ChangeSpec := { name := "sboxTable", fn := fun _ => fun
  | [d] => { results := [.lit (.bool false)], args := [d] }
  | _ => none }
def SboxTableWrongFalsely : Prop := sboxTableRow.holds Try.pinned (OpenSpec.ofChange sboxTableWrong)

/-- 'orrerylaw07.SboxBack': WHATEVER THE INPUT: true; the input reads as it did. -/
def sboxBackSpec : ChangeSpec := { name := "sboxBack", fn := fun _ => fun
  | [d1, d2, d3] => { results := [.lit (.bool true)], args := [d1, d2, d3] }
  | _ => none }
def sboxBackRow : OpenClaim := { program := "ytdbledfpphkppaa", sum := "9c44db8157215de867500721ca4e5774815a821a069025c25b8c585c963801d2", func := "orrery/orrerylaw07.SboxBack", spec := "sboxBack", apart := false }
def SboxBackSaid : Prop := sboxBackRow.holds Try.pinned (OpenSpec.ofChange sboxBackSpec)

/-- ITS FALSE NEIGHBOUR: 'it returns false'. Refute it at one input. -/
def sboxBackWrong : ChangeSpec := { name := "sboxBack", fn := fun _ => fun
  | [d1, d2, d3] => { results := [.lit (.bool false)], args := [d1, d2, d3] }
  | _ => none }
def SboxBackWrongFalsely : Prop := sboxBackRow.holds Try.pinned (OpenSpec.ofChange sboxBackWrong)

/-- 'orrerylaw07.SboxStrong': WHATEVER THE INPUT: true; the input reads as it did. -/
def sboxStrongSpec : ChangeSpec := { name := "sboxStrong", fn := fun _ => fun
  | [d1, d2, d3] => { results := [.lit (.bool true)], args := [d1, d2, d3] }
  | _ => none }
def sboxStrongRow : OpenClaim := { program := "ytdbledfpphkppaa", sum := "9c44db8157215de867500721ca4e5774815a821a069025c25b8c585c963801d2", func := "orrery/orrerylaw07.SboxStrong", spec := "sboxStrong", recurses := true, apart := false }
def SboxStrongSaid : Prop := sboxStrongRow.holds Try.pinned (OpenSpec.ofChange sboxStrongSpec)

/-- ITS FALSE NEIGHBOUR: 'it returns false'. Refute it at one input. -/
def sboxStrongWrong : ChangeSpec := { name := "sboxStrong", fn := fun _ => fun
  | [d1, d2, d3] => { results := [.lit (.bool false)], args := [d1, d2, d3] }
  | _ => none }
def SboxStrongWrongFalsely : Prop := sboxStrongRow.holds Try.pinned (OpenSpec.ofChange sboxStrongWrong)

/- THE SECOND FORM. 'bulk': how many values and letters a reading holds, each counted each time it is reached (what is shared counts as often as it is met; a slice's spare places count too). A statement '..UptoSaid' is the law's where the arguments, and the package variables that the reading takes, are together of bulk at most 1048576: NARROWER than '..Said'. Prove '..Said' where nothing that the law and all that it calls make is longer than what came in: it says more and counts as full. Else prove '..UptoSaid'. A law counts once. -/
mutual
def uptoBulk {H : Type} : DataW H → Nat
  | .lit (.string bytes) => bytes.length + 1
  | .lit _ => 1
  | .nil => 1
  | .ptr d => uptoBulk d + 1
  | .slice elems spare => uptoBulkAll elems + uptoBulkAll spare + 1
  | .agg parts => uptoBulkAll parts + 1
  | .iface _ d => uptoBulk d + 1
  | .map entries => uptoBulkEntries entries + 1
  | .held _ => 1
def uptoBulkAll {H : Type} : List (DataW H) → Nat
  | [] => 0
  | d :: r => uptoBulk d + uptoBulkAll r
def uptoBulkEntries {H : Type} : List (Lit × DataW H) → Nat
  | [] => 0
  | x :: r => uptoBulkEntry x + uptoBulkEntries r
def uptoBulkEntry {H : Type} : Lit × DataW H → Nat
  | (.string bytes, d) => bytes.length + uptoBulk d + 1
  | (_, d) => uptoBulk d + 1
 end
def uptoSmall : (H : Type) → List (DataW H) → Bool := fun _ ds => decide (uptoBulkAll ds ≤ 1048576)
def OpenSpec.upto (s : _root_.Go.ChangeSpec) : _root_.Go.OpenSpec := { _root_.Go.OpenSpec.ofChange s with cond := some uptoSmall }

/-- 'orrerylaw07.SboxParts', WHERE WHAT IT READS IS OF BULK AT MOST 1048576: true; the input reads as it did. -/
def sboxPartsUptoRow : OpenClaim := { program := "ytdbledfpphkppaa", sum := "9c44db8157215de867500721ca4e5774815a821a069025c25b8c585c963801d2", func := "orrery/orrerylaw07.SboxParts", spec := "sboxParts", apart := false, narrowed := true }
def SboxPartsUptoSaid : Prop := sboxPartsUptoRow.holds Try.pinned (OpenSpec.upto sboxPartsSpec)

/-- 'orrerylaw07.SboxTables', WHERE WHAT IT READS IS OF BULK AT MOST 1048576: true; the input reads as it did. -/
def sboxTablesUptoRow : OpenClaim := { program := "ytdbledfpphkppaa", sum := "9c44db8157215de867500721ca4e5774815a821a069025c25b8c585c963801d2", func := "orrery/orrerylaw07.SboxTables", spec := "sboxTables", recurses := true, apart := false, narrowed := true }
def SboxTablesUptoSaid : Prop := sboxTablesUptoRow.holds Try.pinned (OpenSpec.upto sboxTablesSpec)

/-- 'orrerylaw07.SboxGreatest', WHERE WHAT IT READS IS OF BULK AT MOST 1048576: true; the input reads as it did. -/
def sboxGreatestUptoRow : OpenClaim := { program := "ytdbledfpphkppaa", sum := "9c44db8157215de867500721ca4e5774815a821a069025c25b8c585c963801d2", func := "orrery/orrerylaw07.SboxGreatest", spec := "sboxGreatest", apart := false, narrowed := true }
def SboxGreatestUptoSaid : Prop := sboxGreatestUptoRow.holds Try.pinned (OpenSpec.upto sboxGreatestSpec)

/-- 'orrerylaw07.SboxTable', WHERE WHAT IT READS IS OF BULK AT MOST 1048576: true; the input reads as it did. -/
def sboxTableUptoRow : OpenClaim := { program := "ytdbledfpphkppaa", sum := "9c44db8157215de867500721ca4e5774815a821a069025c25b8c585c963801d2", func := "orrery/orrerylaw07.SboxTable", spec := "sboxTable", apart := false, narrowed := true }
def SboxTableUptoSaid : Prop := sboxTableUptoRow.holds Try.pinned (OpenSpec.upto sboxTableSpec)

/-- 'orrerylaw07.SboxBack', WHERE WHAT IT READS IS OF BULK AT MOST 1048576: true; the input reads as it did. -/
def sboxBackUptoRow : OpenClaim := { program := "ytdbledfpphkppaa", sum := "9c44db8157215de867500721ca4e5774815a821a069025c25b8c585c963801d2", func := "orrery/orrerylaw07.SboxBack", spec := "sboxBack", apart := false, narrowed := true }
def SboxBackUptoSaid : Prop := sboxBackUptoRow.holds Try.pinned (OpenSpec.upto sboxBackSpec)

/-- 'orrerylaw07.SboxStrong', WHERE WHAT IT READS IS OF BULK AT MOST 1048576: true; the input reads as it did. -/
def sboxStrongUptoRow : OpenClaim := { program := "ytdbledfpphkppaa", sum := "9c44db8157215de867500721ca4e5774815a821a069025c25b8c585c963801d2", func := "orrery/orrerylaw07.SboxStrong", spec := "sboxStrong", recurses := true, apart := false, narrowed := true }
def SboxStrongUptoSaid : Prop := sboxStrongUptoRow.holds Try.pinned (OpenSpec.upto sboxStrongSpec)

end Rows
end Go.Proofs.Ytdbledfpphkppaa
