/-
  NARROWER THAN 'FOR EVERY INPUT', by the rows' own cells (each row's printed sentence says how): GrammarParses: laid · GrammarMakes: laid · GrammarSets: laid · GrammarLeast: laid · GrammarReplays: laid · GrammarClosed: laid.
  DERIVED. THE GIVEN ROWS OF THIS SEAT. 6 by the template 'for every input the law returns true; each argument reads behind the call as it read before'; 0 by the template 'total and deterministic' (their statements: YtgmbkelmgolkpaaDoorTotals.lean).
  GIVEN WITH THE SEED: the statements are not yours to turn. If you find one false, say at which input.
  Laid BY PROGRAM, IN A SANDBOX (cutbox-rows.mjs): the forced cells as the released guide's own fill.sh prints them over the translation 04a84150ca184aad… (all of the seat's roots in one cut). By AI agents, Wed Nov 11 2026. No macro, syntax, notation, axiom, sorry.
-/
import Derived.Test.YtgmbkelmgolkpaaDoorChecked
import GoSem.PinnedTables
import GoSem.Claim
import GoSem.ClaimJoined
import GoSem.ClaimMapViews
import Derived.JoinedTies
import Derived.KernelRfl
namespace Go.Proofs.YtgmbkelmgolkpaaDoor
/- THE CELL 'sum', in the pinned program and in every row, IS THE sha256 OF THE DUMP (.gsa) THAT YtgmbkelmgolkpaaDoorProg.lean LOADS. Nothing in Lean hashes anything: it is a label: what it is worth is what the hold of that sum in a sandbox is worth. -/
noncomputable def Tryd.pinned : Pinned := { name := "ytgmbkelmgolkpaadoor", sum := "04a84150ca184aade1713ed16f4e914e03a1d942a2f4504157ffc49d502aad5c", checked := Tryd.checked }
namespace Rows
def none {H : Type} : Left H := { results := [], args := [] }

/- WHAT THE LISTED PACKAGE-LEVEL VARIABLES READ AS WHEN THE CALL BEGINS. Each datum BY PROGRAM (the guide's laid-datum.mjs) off the statement by which the dump's own 'gosem.cut.vars' lays the variable. In a bare row this is a premise. The card (YtgmbkelmgolkpaaDoorCards.lean) ties it to the program's text. -/
def laid_unicode_utf8_acceptRanges {H : Type} : DataW H := .agg [.agg [.lit (.int .u8 128), .lit (.int .u8 191)], .agg [.lit (.int .u8 160), .lit (.int .u8 191)], .agg [.lit (.int .u8 128), .lit (.int .u8 159)], .agg [.lit (.int .u8 144), .lit (.int .u8 191)], .agg [.lit (.int .u8 128), .lit (.int .u8 143)], .agg [.lit (.int .u8 0), .lit (.int .u8 0)], .agg [.lit (.int .u8 0), .lit (.int .u8 0)], .agg [.lit (.int .u8 0), .lit (.int .u8 0)], .agg [.lit (.int .u8 0), .lit (.int .u8 0)], .agg [.lit (.int .u8 0), .lit (.int .u8 0)], .agg [.lit (.int .u8 0), .lit (.int .u8 0)], .agg [.lit (.int .u8 0), .lit (.int .u8 0)], .agg [.lit (.int .u8 0), .lit (.int .u8 0)], .agg [.lit (.int .u8 0), .lit (.int .u8 0)], .agg [.lit (.int .u8 0), .lit (.int .u8 0)], .agg [.lit (.int .u8 0), .lit (.int .u8 0)]]
/-- One of Go's own tables, pinned by name: the form's constant. -/
def laid_unicode_utf8_first : DataW Unit := Go.Pinned.utf8First

/-- 'orrerylaw13.GrammarParses': WHATEVER THE INPUT: true; the input reads as it did. -/
def grammarParsesSpec : ChangeSpec := { name := "grammarParses", fn := fun _ => fun
  | [d1, d2] => { results := [.lit (.bool true)], args := [d1, d2] }
  | _ => none }
def grammarParsesRow : OpenClaim := { program := "ytgmbkelmgolkpaadoor", sum := "04a84150ca184aade1713ed16f4e914e03a1d942a2f4504157ffc49d502aad5c", func := "orrery/orrerylaw13.GrammarParses", spec := "grammarParses", inPlace := ["internal/bytealg.CountString", "internal/bytealg.IndexByteString", "internal/bytealg.IndexString", "internal/abi.NoEscape"], unfollowed := true, recurses := true, named := ["unicode/utf8.first", "unicode/utf8.acceptRanges", "internal/bytealg.MaxLen"], apart := false, laid := [("unicode/utf8.acceptRanges", laid_unicode_utf8_acceptRanges), ("unicode/utf8.first", laid_unicode_utf8_first)] }
def GrammarParsesSaid : Prop := grammarParsesRow.holds Tryd.pinned (OpenSpec.ofChange grammarParsesSpec)

/-- ITS FALSE NEIGHBOUR: 'it returns false'. Refute it at one input. -/
def grammarParsesWrong : ChangeSpec := { name := "grammarParses", fn := fun _ => fun
  | [d1, d2] => { results := [.lit (.bool false)], args := [d1, d2] }
  | _ => none }
def GrammarParsesWrongFalsely : Prop := grammarParsesRow.holds Tryd.pinned (OpenSpec.ofChange grammarParsesWrong)

/-- 'orrerylaw13.GrammarMakes': WHATEVER THE INPUT: true; the input reads as it did. -/
def grammarMakesSpec : ChangeSpec := { name := "grammarMakes", fn := fun _ => fun
  | [d1, d2, d3, d4] => { results := [.lit (.bool true)], args := [d1, d2, d3, d4] }
  | _ => none }
def grammarMakesRow : OpenClaim := { program := "ytgmbkelmgolkpaadoor", sum := "04a84150ca184aade1713ed16f4e914e03a1d942a2f4504157ffc49d502aad5c", func := "orrery/orrerylaw13.GrammarMakes", spec := "grammarMakes", inPlace := ["internal/abi.NoEscape", "internal/bytealg.CountString", "internal/bytealg.IndexByteString", "internal/bytealg.IndexString"], unfollowed := true, recurses := true, named := ["unicode/utf8.first", "unicode/utf8.acceptRanges", "internal/bytealg.MaxLen"], apart := false, laid := [("unicode/utf8.acceptRanges", laid_unicode_utf8_acceptRanges), ("unicode/utf8.first", laid_unicode_utf8_first)] }
def GrammarMakesSaid : Prop := grammarMakesRow.holds Tryd.pinned (OpenSpec.ofChange grammarMakesSpec)

/-- ITS FALSE NEIGHBOUR: 'it returns false'. Refute it at one input. -/
def grammarMakesWrong : ChangeSpec := { name := "grammarMakes", fn := fun _ => fun
  | [d1, d2, d3, d4] => { results := [.lit (.bool false)], args := [d1, d2, d3, d4] }
  | _ => none }
def GrammarMakesWrongFalsely : Prop := grammarMakesRow.holds Tryd.pinned (OpenSpec.ofChange grammarMakesWrong)

/-- 'orrerylaw13.GrammarSets': WHATEVER THE INPUT: true; the input reads as it did. -/
def grammarSetsSpec : ChangeSpec := { name := "grammarSets", fn := fun _ => fun
  | [d1, d2, d3] => { results := [.lit (.bool true)], args := [d1, d2, d3] }
  | _ => none }
def grammarSetsRow : OpenClaim := { program := "ytgmbkelmgolkpaadoor", sum := "04a84150ca184aade1713ed16f4e914e03a1d942a2f4504157ffc49d502aad5c", func := "orrery/orrerylaw13.GrammarSets", spec := "grammarSets", inPlace := ["internal/bytealg.CountString", "internal/bytealg.IndexByteString", "internal/bytealg.IndexString"], unfollowed := true, recurses := true, named := ["unicode/utf8.first", "unicode/utf8.acceptRanges", "internal/bytealg.MaxLen"], apart := false, laid := [("unicode/utf8.acceptRanges", laid_unicode_utf8_acceptRanges), ("unicode/utf8.first", laid_unicode_utf8_first)] }
def GrammarSetsSaid : Prop := grammarSetsRow.holds Tryd.pinned (OpenSpec.ofChange grammarSetsSpec)

/-- ITS FALSE NEIGHBOUR: 'it returns false'. Refute it at one input. -/
def grammarSetsWrong : ChangeSpec := { name := "grammarSets", fn := fun _ => fun
  | [d1, d2, d3] => { results := [.lit (.bool false)], args := [d1, d2, d3] }
  | _ => none }
def GrammarSetsWrongFalsely : Prop := grammarSetsRow.holds Tryd.pinned (OpenSpec.ofChange grammarSetsWrong)

/-- 'orrerylaw13.GrammarLeast': WHATEVER THE INPUT: true; the input reads as it did. -/
def grammarLeastSpec : ChangeSpec := { name := "grammarLeast", fn := fun _ => fun
  | [d1, d2] => { results := [.lit (.bool true)], args := [d1, d2] }
  | _ => none }
def grammarLeastRow : OpenClaim := { program := "ytgmbkelmgolkpaadoor", sum := "04a84150ca184aade1713ed16f4e914e03a1d942a2f4504157ffc49d502aad5c", func := "orrery/orrerylaw13.GrammarLeast", spec := "grammarLeast", inPlace := ["internal/bytealg.CountString", "internal/bytealg.IndexByteString", "internal/bytealg.IndexString", "internal/abi.NoEscape", "internal/bytealg.MakeNoZero"], unfollowed := true, recurses := true, named := ["unicode/utf8.first", "unicode/utf8.acceptRanges", "internal/bytealg.MaxLen"], apart := false, laid := [("unicode/utf8.acceptRanges", laid_unicode_utf8_acceptRanges), ("unicode/utf8.first", laid_unicode_utf8_first)] }
def GrammarLeastSaid : Prop := grammarLeastRow.holds Tryd.pinned (OpenSpec.ofChange grammarLeastSpec)

/-- ITS FALSE NEIGHBOUR: 'it returns false'. Refute it at one input. -/
def grammarLeastWrong : ChangeSpec := { name := "grammarLeast", fn := fun _ => fun
  | [d1, d2] => { results := [.lit (.bool false)], args := [d1, d2] }
  | _ => none }
def GrammarLeastWrongFalsely : Prop := grammarLeastRow.holds Tryd.pinned (OpenSpec.ofChange grammarLeastWrong)

/-- 'orrerylaw13.GrammarReplays': WHATEVER THE INPUT: true; the input reads as it did. -/
def grammarReplaysSpec : ChangeSpec := { name := "grammarReplays", fn := fun _ => fun
  | [d1, d2] => { results := [.lit (.bool true)], args := [d1, d2] }
  | _ => none }
def grammarReplaysRow : OpenClaim := { program := "ytgmbkelmgolkpaadoor", sum := "04a84150ca184aade1713ed16f4e914e03a1d942a2f4504157ffc49d502aad5c", func := "orrery/orrerylaw13.GrammarReplays", spec := "grammarReplays", inPlace := ["internal/bytealg.CountString", "internal/bytealg.IndexByteString", "internal/bytealg.IndexString"], unfollowed := true, recurses := true, named := ["unicode/utf8.first", "unicode/utf8.acceptRanges", "internal/bytealg.MaxLen"], apart := false, laid := [("unicode/utf8.acceptRanges", laid_unicode_utf8_acceptRanges), ("unicode/utf8.first", laid_unicode_utf8_first)] }
def GrammarReplaysSaid : Prop := grammarReplaysRow.holds Tryd.pinned (OpenSpec.ofChange grammarReplaysSpec)

/-- ITS FALSE NEIGHBOUR: 'it returns false'. Refute it at one input. -/
def grammarReplaysWrong : ChangeSpec := { name := "grammarReplays", fn := fun _ => fun
  | [d1, d2] => { results := [.lit (.bool false)], args := [d1, d2] }
  | _ => none }
def GrammarReplaysWrongFalsely : Prop := grammarReplaysRow.holds Tryd.pinned (OpenSpec.ofChange grammarReplaysWrong)

/-- 'orrerylaw13.GrammarClosed': WHATEVER THE INPUT: true; the input reads as it did. -/
def grammarClosedSpec : ChangeSpec := { name := "grammarClosed", fn := fun _ => fun
  | [d] => { results := [.lit (.bool true)], args := [d] }
  | _ => none }
def grammarClosedRow : OpenClaim := { program := "ytgmbkelmgolkpaadoor", sum := "04a84150ca184aade1713ed16f4e914e03a1d942a2f4504157ffc49d502aad5c", func := "orrery/orrerylaw13.GrammarClosed", spec := "grammarClosed", inPlace := ["internal/bytealg.CountString", "internal/bytealg.IndexByteString", "internal/bytealg.IndexString"], unfollowed := true, recurses := true, named := ["unicode/utf8.first", "unicode/utf8.acceptRanges", "internal/bytealg.MaxLen"], apart := false, laid := [("unicode/utf8.acceptRanges", laid_unicode_utf8_acceptRanges), ("unicode/utf8.first", laid_unicode_utf8_first)] }
def GrammarClosedSaid : Prop := grammarClosedRow.holds Tryd.pinned (OpenSpec.ofChange grammarClosedSpec)

/-- ITS FALSE NEIGHBOUR: 'it returns false'. Refute it at one input. -/
def grammarClosedWrong : ChangeSpec := { name := "grammarClosed", fn := fun _ => fun
  | [d] => { results := [.lit (.bool false)], args := [d] }
  | _ => none }
def GrammarClosedWrongFalsely : Prop := grammarClosedRow.holds Tryd.pinned (OpenSpec.ofChange grammarClosedWrong)

/- THE SECOND FORM. 'bulk': how many values and letters a reading holds, each counted each time it is reached (what is shared counts as often as it is met; a slice's spare places count too). A statement '..UptoSaid' is the law's where the arguments, and the package variables that the reading takes, are together of bulk at most 1048576: NARROWER than '..Said'. Prove '..Said' where nothing that the law and all that it calls make is longer than what came in: it says more and counts as full. Else prove '..UptoSaid'. A law counts once. -/
mutual
def uptoBulk {H : Type} : DataW H → Nat
  | .lit (.string bytes) => bytes.length + 1
  | .lit _ => 1
  | .nil => 1
  | .ptr d => uptoBulk d + 1
  | .slice elems spare => uptoBulkAll elems + uptoBulkAll spare + 1
  | .agg parts => uptoBulkAll parts + 1
  | .iface _ d => uptoBulk d + 1
  | .map entries => uptoBulkEntries entries + 1
  | .held _ => 1
def uptoBulkAll {H : Type} : List (DataW H) → Nat
  | [] => 0
  | d :: r => uptoBulk d + uptoBulkAll r
def uptoBulkEntries {H : Type} : List (Lit × DataW H) → Nat
  | [] => 0
  | x :: r => uptoBulkEntry x + uptoBulkEntries r
def uptoBulkEntry {H : Type} : Lit × DataW H → Nat
  | (.string bytes, d) => bytes.length + uptoBulk d + 1
  | (_, d) => uptoBulk d + 1
 end
def uptoSmall : (H : Type) → List (DataW H) → Bool := fun _ ds => decide (uptoBulkAll ds ≤ 1048576)
def OpenSpec.upto (s : _root_.Go.ChangeSpec) : _root_.Go.OpenSpec := { _root_.Go.OpenSpec.ofChange s with cond := some uptoSmall }

/-- 'orrerylaw13.GrammarParses', WHERE WHAT IT READS IS OF BULK AT MOST 1048576: true; the input reads as it did. -/
def grammarParsesUptoRow : OpenClaim := { program := "ytgmbkelmgolkpaadoor", sum := "04a84150ca184aade1713ed16f4e914e03a1d942a2f4504157ffc49d502aad5c", func := "orrery/orrerylaw13.GrammarParses", spec := "grammarParses", inPlace := ["internal/bytealg.CountString", "internal/bytealg.IndexByteString", "internal/bytealg.IndexString", "internal/abi.NoEscape"], unfollowed := true, recurses := true, named := ["unicode/utf8.first", "unicode/utf8.acceptRanges", "internal/bytealg.MaxLen"], apart := false, laid := [("unicode/utf8.acceptRanges", laid_unicode_utf8_acceptRanges), ("unicode/utf8.first", laid_unicode_utf8_first)], narrowed := true }
def GrammarParsesUptoSaid : Prop := grammarParsesUptoRow.holds Tryd.pinned (OpenSpec.upto grammarParsesSpec)

/-- 'orrerylaw13.GrammarMakes', WHERE WHAT IT READS IS OF BULK AT MOST 1048576: true; the input reads as it did. -/
def grammarMakesUptoRow : OpenClaim := { program := "ytgmbkelmgolkpaadoor", sum := "04a84150ca184aade1713ed16f4e914e03a1d942a2f4504157ffc49d502aad5c", func := "orrery/orrerylaw13.GrammarMakes", spec := "grammarMakes", inPlace := ["internal/abi.NoEscape", "internal/bytealg.CountString", "internal/bytealg.IndexByteString", "internal/bytealg.IndexString"], unfollowed := true, recurses := true, named := ["unicode/utf8.first", "unicode/utf8.acceptRanges", "internal/bytealg.MaxLen"], apart := false, laid := [("unicode/utf8.acceptRanges", laid_unicode_utf8_acceptRanges), ("unicode/utf8.first", laid_unicode_utf8_first)], narrowed := true }
def GrammarMakesUptoSaid : Prop := grammarMakesUptoRow.holds Tryd.pinned (OpenSpec.upto grammarMakesSpec)

/-- 'orrerylaw13.GrammarSets', WHERE WHAT IT READS IS OF BULK AT MOST 1048576: true; the input reads as it did. -/
def grammarSetsUptoRow : OpenClaim := { program := "ytgmbkelmgolkpaadoor", sum := "04a84150ca184aade1713ed16f4e914e03a1d942a2f4504157ffc49d502aad5c", func := "orrery/orrerylaw13.GrammarSets", spec := "grammarSets", inPlace := ["internal/bytealg.CountString", "internal/bytealg.IndexByteString", "internal/bytealg.IndexString"], unfollowed := true, recurses := true, named := ["unicode/utf8.first", "unicode/utf8.acceptRanges", "internal/bytealg.MaxLen"], apart := false, laid := [("unicode/utf8.acceptRanges", laid_unicode_utf8_acceptRanges), ("unicode/utf8.first", laid_unicode_utf8_first)], narrowed := true }
def GrammarSetsUptoSaid : Prop := grammarSetsUptoRow.holds Tryd.pinned (OpenSpec.upto grammarSetsSpec)

/-- 'orrerylaw13.GrammarLeast', WHERE WHAT IT READS IS OF BULK AT MOST 1048576: true; the input reads as it did. -/
def grammarLeastUptoRow : OpenClaim := { program := "ytgmbkelmgolkpaadoor", sum := "04a84150ca184aade1713ed16f4e914e03a1d942a2f4504157ffc49d502aad5c", func := "orrery/orrerylaw13.GrammarLeast", spec := "grammarLeast", inPlace := ["internal/bytealg.CountString", "internal/bytealg.IndexByteString", "internal/bytealg.IndexString", "internal/abi.NoEscape", "internal/bytealg.MakeNoZero"], unfollowed := true, recurses := true, named := ["unicode/utf8.first", "unicode/utf8.acceptRanges", "internal/bytealg.MaxLen"], apart := false, laid := [("unicode/utf8.acceptRanges", laid_unicode_utf8_acceptRanges), ("unicode/utf8.first", laid_unicode_utf8_first)], narrowed := true }
def GrammarLeastUptoSaid : Prop := grammarLeastUptoRow.holds Tryd.pinned (OpenSpec.upto grammarLeastSpec)

/-- 'orrerylaw13.GrammarReplays', WHERE WHAT IT READS IS OF BULK AT MOST 1048576: true; the input reads as it did. -/
def grammarReplaysUptoRow : OpenClaim := { program := "ytgmbkelmgolkpaadoor", sum := "04a84150ca184aade1713ed16f4e914e03a1d942a2f4504157ffc49d502aad5c", func := "orrery/orrerylaw13.GrammarReplays", spec := "grammarReplays", inPlace := ["internal/bytealg.CountString", "internal/bytealg.IndexByteString", "internal/bytealg.IndexString"], unfollowed := true, recurses := true, named := ["unicode/utf8.first", "unicode/utf8.acceptRanges", "internal/bytealg.MaxLen"], apart := false, laid := [("unicode/utf8.acceptRanges", laid_unicode_utf8_acceptRanges), ("unicode/utf8.first", laid_unicode_utf8_first)], narrowed := true }
def GrammarReplaysUptoSaid : Prop := grammarReplaysUptoRow.holds Tryd.pinned (OpenSpec.upto grammarReplaysSpec)

/-- 'orrerylaw13.GrammarClosed', WHERE WHAT IT READS IS OF BULK AT MOST 1048576: true; the input reads as it did. -/
def grammarClosedUptoRow : OpenClaim := { program := "ytgmbkelmgolkpaadoor", sum := "04a84150ca184aade1713ed16f4e914e03a1d942a2f4504157ffc49d502aad5c", func := "orrery/orrerylaw13.GrammarClosed", spec := "grammarClosed", inPlace := ["internal/bytealg.CountString", "internal/bytealg.IndexByteString", "internal/bytealg.IndexString"], unfollowed := true, recurses := true, named := ["unicode/utf8.first", "unicode/utf8.acceptRanges", "internal/bytealg.MaxLen"], apart := false, laid := [("unicode/utf8.acceptRanges", laid_unicode_utf8_acceptRanges), ("unicode/utf8.first", laid_unicode_utf8_first)], narrowed := true }
def GrammarClosedUptoSaid : Prop := grammarClosedUptoRow.holds Tryd.pinned (OpenSpec.upto grammarClosedSpec)

end Rows
end Go.Proofs.YtgmbkelmgolkpaaDoor
