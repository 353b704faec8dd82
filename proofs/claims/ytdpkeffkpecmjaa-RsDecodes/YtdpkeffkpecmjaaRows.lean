/-
  No cell of these rows narrows 'for every input' (looked for: loops, veiled, ifaces, maps, wideKeys, modest, calm, conditions, laid).
  DERIVED. THE GIVEN ROWS OF THIS SEAT. 6 by the template 'for every input the law returns true; each argument reads behind the call as it read before'; 0 by the template 'total and deterministic' (their statements: YtdpkeffkpecmjaaTotals.lean).
  GIVEN WITH THE SEED: the statements are not yours to turn. If you find one false, say at which input.
  Laid BY PROGRAM, IN A SANDBOX (cutbox-rows.mjs): the forced cells as the released guide's own fill.sh prints them over the translation db64d80c6a0ca4ea… (all of the seat's roots in one cut). By AI agents, Wed Nov 11 2026. No macro, syntax, notation, axiom, sorry.
-/
import Derived.Test.YtdpkeffkpecmjaaChecked
import GoSem.Claim
import GoSem.ClaimJoined
import GoSem.ClaimMapViews
import Derived.JoinedTies
import Derived.KernelRfl
namespace Go.Proofs.Ytdpkeffkpecmjaa
/- THE CELL 'sum', in the pinned program and in every row, IS THE sha256 OF THE DUMP (.gsa) THAT YtdpkeffkpecmjaaProg.lean LOADS. Nothing in Lean hashes anything: it is a label: what it is worth is what the hold of that sum in a sandbox is worth. -/
noncomputable def Try.pinned : Pinned := { name := "ytdpkeffkpecmjaa", sum := "db64d80c6a0ca4ea914f54447769d66c2a5f7fa3c479904e5968f8c311ff15df", checked := Try.checked }
namespace Rows
def none {H : Type} : Left H := { results := [], args := [] }

/-- 'orrerylaw11.RsEncodes': WHATEVER THE INPUT: true; the input reads as it did. -/
def rsEncodesSpec : ChangeSpec := { name := "rsEncodes", fn := fun _ => fun
  | [d1, d2, d3, d4] => { results := [.lit (.bool true)], args := [d1, d2, d3, d4] }
  | _ => none }
def rsEncodesRow : OpenClaim := { program := "ytdpkeffkpecmjaa", sum := "db64d80c6a0ca4ea914f54447769d66c2a5f7fa3c479904e5968f8c311ff15df", func := "orrery/orrerylaw11.RsEncodes", spec := "rsEncodes", apart := false }
def RsEncodesSaid : Prop := rsEncodesRow.holds Try.pinned (OpenSpec.ofChange rsEncodesSpec)

/-- ITS FALSE NEIGHBOUR: 'it returns false'. Refute it at one input. -/
def rsEncodesWrong : ChangeSpec := { name := "rsEncodes", fn := fun _ => fun
  | [d1, d2, d3, d4] => { results := [.lit (.bool false)], args := [d1, d2, d3, d4] }
  | _ => none }
def RsEncodesWrongFalsely : Prop := rsEncodesRow.holds Try.pinned (OpenSpec.ofChange rsEncodesWrong)

/-- 'orrerylaw11.RsDecodes': WHATEVER THE INPUT: true; the input reads as it did. -/
def rsDecodesSpec : ChangeSpec := { name := "rsDecodes", fn := fun _ => fun
  | [d1, d2, d3, d4] => { results := [.lit (.bool true)], args := [d1, d2, d3, d4] }
  | _ => none }
def rsDecodesRow : OpenClaim := { program := "ytdpkeffkpecmjaa", sum := "db64d80c6a0ca4ea914f54447769d66c2a5f7fa3c479904e5968f8c311ff15df", func := "orrery/orrerylaw11.RsDecodes", spec := "rsDecodes", apart := false }
def RsDecodesSaid : Prop := rsDecodesRow.holds Try.pinned (OpenSpec.ofChange rsDecodesSpec)

/-- ITS FALSE NEIGHBOUR: 'it returns false'. Refute it at one input. -/
def rsDecodesWrong : ChangeSpec := { name := "rsDecodes", fn := fun _ => fun
  | [d1, d2, d3, d4] => { results := [.lit (.bool false)], args := [d1, d2, d3, d4] }
  | _ => none }
def RsDecodesWrongFalsely : Prop := rsDecodesRow.holds Try.pinned (OpenSpec.ofChange rsDecodesWrong)

/-- 'orrerylaw11.RsRows': WHATEVER THE INPUT: true; the input reads as it did. -/
def rsRowsSpec : ChangeSpec := { name := "rsRows", fn := fun _ => fun
  | [d1, d2, d3] => { results := [.lit (.bool true)], args := [d1, d2, d3] }
  | _ => none }
def rsRowsRow : OpenClaim := { program := "ytdpkeffkpecmjaa", sum := "db64d80c6a0ca4ea914f54447769d66c2a5f7fa3c479904e5968f8c311ff15df", func := "orrery/orrerylaw11.RsRows", spec := "rsRows", apart := false }
def RsRowsSaid : Prop := rsRowsRow.holds Try.pinned (OpenSpec.ofChange rsRowsSpec)

/-- ITS FALSE NEIGHBOUR: 'it returns false'. Refute it at one input. -/
def rsRowsWrong : ChangeSpec := { name := "rsRows", fn := fun _ => fun
  | [d1, d2, d3] => { results := [.lit (.bool false)], args := [d1, d2, d3] }
  | _ => none }
def RsRowsWrongFalsely : Prop := rsRowsRow.holds Try.pinned (OpenSpec.ofChange rsRowsWrong)

/-- 'orrerylaw11.RsMends': WHATEVER THE INPUT: true; the input reads as it did. -/
def rsMendsSpec : ChangeSpec := { name := "rsMends", fn := fun _ => fun
  | [d1, d2, d3, d4, d5, d6] => { results := [.lit (.bool true)], args := [d1, d2, d3, d4, d5, d6] }
  | _ => none }
def rsMendsRow : OpenClaim := { program := "ytdpkeffkpecmjaa", sum := "db64d80c6a0ca4ea914f54447769d66c2a5f7fa3c479904e5968f8c311ff15df", func := "orrery/orrerylaw11.RsMends", spec := "rsMends", apart := false }
def RsMendsSaid : Prop := rsMendsRow.holds Try.pinned (OpenSpec.ofChange rsMendsSpec)

/-- ITS FALSE NEIGHBOUR: 'it returns false'. Refute it at one input. -/
def rsMendsWrong : ChangeSpec := { name := "rsMends", fn := fun _ => fun
  | [d1, d2, d3, d4, d5, d6] => { results := [.lit (.bool false)], args := [d1, d2, d3, d4, d5, d6] }
  | _ => none }
def RsMendsWrongFalsely : Prop := rsMendsRow.holds Try.pinned (OpenSpec.ofChange rsMendsWrong)

/-- 'orrerylaw11.RsLinear': WHATEVER THE INPUT: true; the input reads as it did. -/
def rsLinearSpec : ChangeSpec := { name := "rsLinear", fn := fun _ => fun
  | [d1, d2, d3, d4, d5] => { results := [.lit (.bool true)], args := [d1, d2, d3, d4, d5] }
  | _ => none }
def rsLinearRow : OpenClaim := { program := "ytdpkeffkpecmjaa", sum := "db64d80c6a0ca4ea914f54447769d66c2a5f7fa3c479904e5968f8c311ff15df", func := "orrery/orrerylaw11.RsLinear", spec := "rsLinear", apart := false }
def RsLinearSaid : Prop := rsLinearRow.holds Try.pinned (OpenSpec.ofChange rsLinearSpec)

/-- ITS FALSE NEIGHBOUR: 'it returns false'. Refute it at one input. -/
def rsLinearWrong : ChangeSpec := { name := "rsLinear", fn := fun _ => fun
  | [d1, d2, d3, d4, d5] => { results := [.lit (.bool false)], args := [d1, d2, d3, d4, d5] }
  | _ => none }
def RsLinearWrongFalsely : Prop := rsLinearRow.holds Try.pinned (OpenSpec.ofChange rsLinearWrong)

/-- 'orrerylaw11.RsApart': WHATEVER THE INPUT: true; the input reads as it did. -/
def rsApartSpec : ChangeSpec := { name := "rsApart", fn := fun _ => fun
  | [d1, d2, d3, d4] => { results := [.lit (.bool true)], args := [d1, d2, d3, d4] }
  | _ => none }
def rsApartRow : OpenClaim := { program := "ytdpkeffkpecmjaa", sum := "db64d80c6a0ca4ea914f54447769d66c2a5f7fa3c479904e5968f8c311ff15df", func := "orrery/orrerylaw11.RsApart", spec := "rsApart", apart := false }
def RsApartSaid : Prop := rsApartRow.holds Try.pinned (OpenSpec.ofChange rsApartSpec)

/-- ITS FALSE NEIGHBOUR: 'it returns false'. Refute it at one input. -/
def rsApartWrong : ChangeSpec := { name := "rsApart", fn := fun _ => fun
  | [d1, d2, d3, d4] => { results := [.lit (.bool false)], args := [d1, d2, d3, d4] }
  | _ => none }
def RsApartWrongFalsely : Prop := rsApartRow.holds Try.pinned (OpenSpec.ofChange rsApartWrong)

/- THE SECOND FORM. 'bulk': how many values and letters a reading holds, each counted each time it is reached (what is shared counts as often as it is met; a slice's spare places count too). A statement '..UptoSaid' is the law's where the arguments, and the package variables that the reading takes, are together of bulk at most 1048576: NARROWER than '..Said'. Prove '..Said' where nothing that the law and all that it calls make is longer than what came in: it says more and counts as full. Else prove '..UptoSaid'. A law counts once. -/
mutual
def uptoBulk {H : Type} : DataW H → Nat
  | .lit (.string bytes) => bytes.length + 1
  | .lit _ => 1
  | .nil => 1
  | .ptr d => uptoBulk d + 1
  | .slice elems spare => uptoBulkAll elems + uptoBulkAll spare + 1
  | .agg parts => uptoBulkAll parts + 1
  | .iface _ d => uptoBulk d + 1
  | .map entries => uptoBulkEntries entries + 1
  | .held _ => 1
def uptoBulkAll {H : Type} : List (DataW H) → Nat
  | [] => 0
  | d :: r => uptoBulk d + uptoBulkAll r
def uptoBulkEntries {H : Type} : List (Lit × DataW H) → Nat
  | [] => 0
  | x :: r => uptoBulkEntry x + uptoBulkEntries r
def uptoBulkEntry {H : Type} : Lit × DataW H → Nat
  | (.string bytes, d) => bytes.length + uptoBulk d + 1
  | (_, d) => uptoBulk d + 1
 end
def uptoSmall : (H : Type) → List (DataW H) → Bool := fun _ ds => decide (uptoBulkAll ds ≤ 1048576)
def OpenSpec.upto (s : _root_.Go.ChangeSpec) : _root_.Go.OpenSpec := { _root_.Go.OpenSpec.ofChange s with cond := some uptoSmall }

/-- 'orrerylaw11.RsEncodes', WHERE WHAT IT READS IS OF BULK AT MOST 1048576: true; the input reads as it did. -/
def rsEncodesUptoRow : OpenClaim := { program := "ytdpkeffkpecmjaa", sum := "db64d80c6a0ca4ea914f54447769d66c2a5f7fa3c479904e5968f8c311ff15df", func := "orrery/orrerylaw11.RsEncodes", spec := "rsEncodes", apart := false, narrowed := true }
def RsEncodesUptoSaid : Prop := rsEncodesUptoRow.holds Try.pinned (OpenSpec.upto rsEncodesSpec)

/-- 'orrerylaw11.RsDecodes', WHERE WHAT IT READS IS OF BULK AT MOST 1048576: true; the input reads as it did. -/
def rsDecodesUptoRow : OpenClaim := { program := "ytdpkeffkpecmjaa", sum := "db64d80c6a0ca4ea914f54447769d66c2a5f7fa3c479904e5968f8c311ff15df", func := "orrery/orrerylaw11.RsDecodes", spec := "rsDecodes", apart := false, narrowed := true }
def RsDecodesUptoSaid : Prop := rsDecodesUptoRow.holds Try.pinned (OpenSpec.upto rsDecodesSpec)

/-- 'orrerylaw11.RsRows', WHERE WHAT IT READS IS OF BULK AT MOST 1048576: true; the input reads as it did. -/
def rsRowsUptoRow : OpenClaim := { program := "ytdpkeffkpecmjaa", sum := "db64d80c6a0ca4ea914f54447769d66c2a5f7fa3c479904e5968f8c311ff15df", func := "orrery/orrerylaw11.RsRows", spec := "rsRows", apart := false, narrowed := true }
def RsRowsUptoSaid : Prop := rsRowsUptoRow.holds Try.pinned (OpenSpec.upto rsRowsSpec)

/-- 'orrerylaw11.RsMends', WHERE WHAT IT READS IS OF BULK AT MOST 1048576: true; the input reads as it did. -/
def rsMendsUptoRow : OpenClaim := { program := "ytdpkeffkpecmjaa", sum := "db64d80c6a0ca4ea914f54447769d66c2a5f7fa3c479904e5968f8c311ff15df", func := "orrery/orrerylaw11.RsMends", spec := "rsMends", apart := false, narrowed := true }
def RsMendsUptoSaid : Prop := rsMendsUptoRow.holds Try.pinned (OpenSpec.upto rsMendsSpec)

/-- 'orrerylaw11.RsLinear', WHERE WHAT IT READS IS OF BULK AT MOST 1048576: true; the input reads as it did. -/
def rsLinearUptoRow : OpenClaim := { program := "ytdpkeffkpecmjaa", sum := "db64d80c6a0ca4ea914f54447769d66c2a5f7fa3c479904e5968f8c311ff15df", func := "orrery/orrerylaw11.RsLinear", spec := "rsLinear", apart := false, narrowed := true }
def RsLinearUptoSaid : Prop := rsLinearUptoRow.holds Try.pinned (OpenSpec.upto rsLinearSpec)

/-- 'orrerylaw11.RsApart', WHERE WHAT IT READS IS OF BULK AT MOST 1048576: true; the input reads as it did. -/
def rsApartUptoRow : OpenClaim := { program := "ytdpkeffkpecmjaa", sum := "db64d80c6a0ca4ea914f54447769d66c2a5f7fa3c479904e5968f8c311ff15df", func := "orrery/orrerylaw11.RsApart", spec := "rsApart", apart := false, narrowed := true }
def RsApartUptoSaid : Prop := rsApartUptoRow.holds Try.pinned (OpenSpec.upto rsApartSpec)

end Rows
end Go.Proofs.Ytdpkeffkpecmjaa
