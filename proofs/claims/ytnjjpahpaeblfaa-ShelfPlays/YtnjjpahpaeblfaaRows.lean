/-
  No cell of these rows narrows 'for every input' (looked for: loops, veiled, ifaces, maps, wideKeys, modest, calm, conditions, laid).
  DERIVED. THE GIVEN ROWS OF THIS SEAT. 6 by the template 'for every input the law returns true; each argument reads behind the call as it read before'; 0 by the template 'total and deterministic' (their statements: YtnjjpahpaeblfaaTotals.lean).
  GIVEN WITH THE SEED: the statements are not yours to turn. If you find one false, say at which input.
  Laid BY PROGRAM, IN A SANDBOX (cutbox-rows.mjs): the forced cells as the released guide's own fill.sh prints them over the translation 9141a36820675905… (all of the seat's roots in one cut). By AI agents, Wed Nov 11 2026. No macro, syntax, notation, axiom, sorry.
-/
import Derived.Test.YtnjjpahpaeblfaaChecked
import GoSem.Claim
import GoSem.ClaimJoined
import GoSem.ClaimMapViews
import Derived.JoinedTies
import Derived.KernelRfl
namespace Go.Proofs.Ytnjjpahpaeblfaa
/- THE CELL 'sum', in the pinned program and in every row, IS THE sha256 OF THE DUMP (.gsa) THAT YtnjjpahpaeblfaaProg.lean LOADS. Nothing in Lean hashes anything: it is a label: what it is worth is what the hold of that sum in a sandbox is worth. -/
noncomputable def Try.pinned : Pinned := { name := "ytnjjpahpaeblfaa", sum := "9141a368206759051f0eeed09a7da7569d1ddf3faa87dd61c9b3b6cdcfd49a0b", checked := Try.checked }
namespace Rows
def none {H : Type} : Left H := { results := [], args := [] }

/-- 'orrerylaw01.ShelfSums': WHATEVER THE INPUT: true; the input reads as it did. -/
def shelfSumsSpec : ChangeSpec := { name := "shelfSums", fn := fun _ => fun
  | [d] => { results := [.lit (.bool true)], args := [d] }
  | _ => none }
def shelfSumsRow : OpenClaim := { program := "ytnjjpahpaeblfaa", sum := "9141a368206759051f0eeed09a7da7569d1ddf3faa87dd61c9b3b6cdcfd49a0b", func := "orrery/orrerylaw01.ShelfSums", spec := "shelfSums", recurses := true, apart := false }
def ShelfSumsSaid : Prop := shelfSumsRow.holds Try.pinned (OpenSpec.ofChange shelfSumsSpec)

/-- ITS FALSE NEIGHBOUR: 'it returns false'. Refute it at one input. -/
def shelfSumsWrong : ChangeSpec := { name := "shelfSums", fn := fun _ => fun
  | [d] => { results := [.lit (.bool false)], args := [d] }
  | _ => none }
def ShelfSumsWrongFalsely : Prop := shelfSumsRow.holds Try.pinned (OpenSpec.ofChange shelfSumsWrong)

/-- 'orrerylaw01.ShelfRights': WHATEVER THE INPUT: true; the input reads as it did. -/
def shelfRightsSpec : ChangeSpec := { name := "shelfRights", fn := fun _ => fun
  | [d] => { results := [.lit (.bool true)], args := [d] }
  | _ => none }
def shelfRightsRow : OpenClaim := { program := "ytnjjpahpaeblfaa", sum := "9141a368206759051f0eeed09a7da7569d1ddf3faa87dd61c9b3b6cdcfd49a0b", func := "orrery/orrerylaw01.ShelfRights", spec := "shelfRights", recurses := true, apart := false }
def ShelfRightsSaid : Prop := shelfRightsRow.holds Try.pinned (OpenSpec.ofChange shelfRightsSpec)

/-- ITS FALSE NEIGHBOUR: 'it returns false'. Refute it at one input. -/
def shelfRightsWrong : ChangeSpec := { name := "shelfRights", fn := fun _ => fun
  | [d] => { results := [.lit (.bool false)], args := [d] }
  | _ => none }
def ShelfRightsWrongFalsely : Prop := shelfRightsRow.holds Try.pinned (OpenSpec.ofChange shelfRightsWrong)

/-- 'orrerylaw01.ShelfPlays': WHATEVER THE INPUT: true; the input reads as it did. -/
def shelfPlaysSpec : ChangeSpec := { name := "shelfPlays", fn := fun _ => fun
  | [d1, d2] => { results := [.lit (.bool true)], args := [d1, d2] }
  | _ => none }
def shelfPlaysRow : OpenClaim := { program := "ytnjjpahpaeblfaa", sum := "9141a368206759051f0eeed09a7da7569d1ddf3faa87dd61c9b3b6cdcfd49a0b", func := "orrery/orrerylaw01.ShelfPlays", spec := "shelfPlays", recurses := true, apart := false }
def ShelfPlaysSaid : Prop := shelfPlaysRow.holds Try.pinned (OpenSpec.ofChange shelfPlaysSpec)

/-- ITS FALSE NEIGHBOUR: 'it returns false'. Refute it at one input. -/
def shelfPlaysWrong : ChangeSpec := { name := "shelfPlays", fn := fun _ => fun
  | [d1, d2] => { results := [.lit (.bool false)], args := [d1, d2] }
  | _ => none }
def ShelfPlaysWrongFalsely : Prop := shelfPlaysRow.holds Try.pinned (OpenSpec.ofChange shelfPlaysWrong)

/-- 'orrerylaw01.ShelfNils': WHATEVER THE INPUT: true; the input reads as it did. -/
def shelfNilsSpec : ChangeSpec := { name := "shelfNils", fn := fun _ => fun
  | [d] => { results := [.lit (.bool true)], args := [d] }
  | _ => none }
def shelfNilsRow : OpenClaim := { program := "ytnjjpahpaeblfaa", sum := "9141a368206759051f0eeed09a7da7569d1ddf3faa87dd61c9b3b6cdcfd49a0b", func := "orrery/orrerylaw01.ShelfNils", spec := "shelfNils", recurses := true, apart := false }
def ShelfNilsSaid : Prop := shelfNilsRow.holds Try.pinned (OpenSpec.ofChange shelfNilsSpec)

/-- ITS FALSE NEIGHBOUR: 'it returns false'. Refute it at one input. -/
def shelfNilsWrong : ChangeSpec := { name := "shelfNils", fn := fun _ => fun
  | [d] => { results := [.lit (.bool false)], args := [d] }
  | _ => none }
def ShelfNilsWrongFalsely : Prop := shelfNilsRow.holds Try.pinned (OpenSpec.ofChange shelfNilsWrong)

/-- 'orrerylaw01.ShelfBehind': WHATEVER THE INPUT: true; the input reads as it did. -/
def shelfBehindSpec : ChangeSpec := { name := "shelfBehind", fn := fun _ => fun
  | [d] => { results := [.lit (.bool true)], args := [d] }
  | _ => none }
def shelfBehindRow : OpenClaim := { program := "ytnjjpahpaeblfaa", sum := "9141a368206759051f0eeed09a7da7569d1ddf3faa87dd61c9b3b6cdcfd49a0b", func := "orrery/orrerylaw01.ShelfBehind", spec := "shelfBehind", recurses := true, apart := false }
def ShelfBehindSaid : Prop := shelfBehindRow.holds Try.pinned (OpenSpec.ofChange shelfBehindSpec)

/-- ITS FALSE NEIGHBOUR: 'it returns false'. Refute it at one input. -/
def shelfBehindWrong : ChangeSpec := { name := "shelfBehind", fn := fun _ => fun
  | [d] => { results := [.lit (.bool false)], args := [d] }
  | _ => none }
def ShelfBehindWrongFalsely : Prop := shelfBehindRow.holds Try.pinned (OpenSpec.ofChange shelfBehindWrong)

/-- 'orrerylaw01.ShelfUnder': WHATEVER THE INPUT: true; the input reads as it did. -/
def shelfUnderSpec : ChangeSpec := { name := "shelfUnder", fn := fun _ => fun
  | [d] => { results := [.lit (.bool true)], args := [d] }
  | _ => none }
def shelfUnderRow : OpenClaim := { program := "ytnjjpahpaeblfaa", sum := "9141a368206759051f0eeed09a7da7569d1ddf3faa87dd61c9b3b6cdcfd49a0b", func := "orrery/orrerylaw01.ShelfUnder", spec := "shelfUnder", recurses := true, apart := false }
def ShelfUnderSaid : Prop := shelfUnderRow.holds Try.pinned (OpenSpec.ofChange shelfUnderSpec)

/-- ITS FALSE NEIGHBOUR: 'it returns false'. Refute it at one input. -/
def shelfUnderWrong : ChangeSpec := { name := "shelfUnder", fn := fun _ => fun
  | [d] => { results := [.lit (.bool false)], args := [d] }
  | _ => none }
def ShelfUnderWrongFalsely : Prop := shelfUnderRow.holds Try.pinned (OpenSpec.ofChange shelfUnderWrong)

/- THE SECOND FORM. 'bulk': how many values and letters a reading holds, each counted each time it is reached (what is shared counts as often as it is met; a slice's spare places count too). A statement '..UptoSaid' is the law's where the arguments, and the package variables that the reading takes, are together of bulk at most 1048576: NARROWER than '..Said'. Prove '..Said' where nothing that the law and all that it calls make is longer than what came in: it says more and counts as full. Else prove '..UptoSaid'. A law counts once. -/
mutual
def uptoBulk {H : Type} : DataW H → Nat
  | .lit (.string bytes) => bytes.length + 1
  | .lit _ => 1
  | .nil => 1
  | .ptr d => uptoBulk d + 1
  | .slice elems spare => uptoBulkAll elems + uptoBulkAll spare + 1
  | .agg parts => uptoBulkAll parts + 1
  | .iface _ d => uptoBulk d + 1
  | .map entries => uptoBulkEntries entries + 1
  | .held _ => 1
def uptoBulkAll {H : Type} : List (DataW H) → Nat
  | [] => 0
  | d :: r => uptoBulk d + uptoBulkAll r
def uptoBulkEntries {H : Type} : List (Lit × DataW H) → Nat
  | [] => 0
  | x :: r => uptoBulkEntry x + uptoBulkEntries r
def uptoBulkEntry {H : Type} : Lit × DataW H → Nat
  | (.string bytes, d) => bytes.length + uptoBulk d + 1
  | (_, d) => uptoBulk d + 1
 end
def uptoSmall : (H : Type) → List (DataW H) → Bool := fun _ ds => decide (uptoBulkAll ds ≤ 1048576)
def OpenSpec.upto (s : _root_.Go.ChangeSpec) : _root_.Go.OpenSpec := { _root_.Go.OpenSpec.ofChange s with cond := some uptoSmall }

/-- 'orrerylaw01.ShelfSums', WHERE WHAT IT READS IS OF BULK AT MOST 1048576: true; the input reads as it did. -/
def shelfSumsUptoRow : OpenClaim := { program := "ytnjjpahpaeblfaa", sum := "9141a368206759051f0eeed09a7da7569d1ddf3faa87dd61c9b3b6cdcfd49a0b", func := "orrery/orrerylaw01.ShelfSums", spec := "shelfSums", recurses := true, apart := false, narrowed := true }
def ShelfSumsUptoSaid : Prop := shelfSumsUptoRow.holds Try.pinned (OpenSpec.upto shelfSumsSpec)

/-- 'orrerylaw01.ShelfRights', WHERE WHAT IT READS IS OF BULK AT MOST 1048576: true; the input reads as it did. -/
def shelfRightsUptoRow : OpenClaim := { program := "ytnjjpahpaeblfaa", sum := "9141a368206759051f0eeed09a7da7569d1ddf3faa87dd61c9b3b6cdcfd49a0b", func := "orrery/orrerylaw01.ShelfRights", spec := "shelfRights", recurses := true, apart := false, narrowed := true }
def ShelfRightsUptoSaid : Prop := shelfRightsUptoRow.holds Try.pinned (OpenSpec.upto shelfRightsSpec)

/-- 'orrerylaw01.ShelfPlays', WHERE WHAT IT READS IS OF BULK AT MOST 1048576: true; the input reads as it did. -/
def shelfPlaysUptoRow : OpenClaim := { program := "ytnjjpahpaeblfaa", sum := "9141a368206759051f0eeed09a7da7569d1ddf3faa87dd61c9b3b6cdcfd49a0b", func := "orrery/orrerylaw01.ShelfPlays", spec := "shelfPlays", recurses := true, apart := false, narrowed := true }
def ShelfPlaysUptoSaid : Prop := shelfPlaysUptoRow.holds Try.pinned (OpenSpec.upto shelfPlaysSpec)

/-- 'orrerylaw01.ShelfNils', WHERE WHAT IT READS IS OF BULK AT MOST 1048576: true; the input reads as it did. -/
def shelfNilsUptoRow : OpenClaim := { program := "ytnjjpahpaeblfaa", sum := "9141a368206759051f0eeed09a7da7569d1ddf3faa87dd61c9b3b6cdcfd49a0b", func := "orrery/orrerylaw01.ShelfNils", spec := "shelfNils", recurses := true, apart := false, narrowed := true }
def ShelfNilsUptoSaid : Prop := shelfNilsUptoRow.holds Try.pinned (OpenSpec.upto shelfNilsSpec)

/-- 'orrerylaw01.ShelfBehind', WHERE WHAT IT READS IS OF BULK AT MOST 1048576: true; the input reads as it did. -/
def shelfBehindUptoRow : OpenClaim := { program := "ytnjjpahpaeblfaa", sum := "9141a368206759051f0eeed09a7da7569d1ddf3faa87dd61c9b3b6cdcfd49a0b", func := "orrery/orrerylaw01.ShelfBehind", spec := "shelfBehind", recurses := true, apart := false, narrowed := true }
def ShelfBehindUptoSaid : Prop := shelfBehindUptoRow.holds Try.pinned (OpenSpec.upto shelfBehindSpec)

/-- 'orrerylaw01.ShelfUnder', WHERE WHAT IT READS IS OF BULK AT MOST 1048576: true; the input reads as it did. -/
def shelfUnderUptoRow : OpenClaim := { program := "ytnjjpahpaeblfaa", sum := "9141a368206759051f0eeed09a7da7569d1ddf3faa87dd61c9b3b6cdcfd49a0b", func := "orrery/orrerylaw01.ShelfUnder", spec := "shelfUnder", recurses := true, apart := false, narrowed := true }
def ShelfUnderUptoSaid : Prop := shelfUnderUptoRow.holds Try.pinned (OpenSpec.upto shelfUnderSpec)

end Rows
end Go.Proofs.Ytnjjpahpaeblfaa
