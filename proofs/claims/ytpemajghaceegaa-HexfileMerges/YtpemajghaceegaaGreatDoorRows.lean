/-
  NARROWER THAN 'FOR EVERY INPUT', by the rows' own cells (each row's printed sentence says how): HexfileMerges: laid · HexfileRecords: laid · HexfileWrites: laid · HexfileReads: laid · HexfileBack: laid · HexfileLoose: laid.
  DERIVED. THE GIVEN ROWS OF THIS SEAT. 6 by the template 'for every input the law returns true; each argument reads behind the call as it read before'; 0 by the template 'total and deterministic' (their statements: YtpemajghaceegaaGreatDoorTotals.lean).
  GIVEN WITH THE SEED: the statements are not yours to turn. If you find one false, say at which input.
  Laid BY PROGRAM, IN A SANDBOX (cutbox-rows.mjs): the forced cells as the released guide's own fill.sh prints them over the translation f25d1f69067f514f… (all of the seat's roots in one cut). By AI agents, Wed Nov 11 2026. No macro, syntax, notation, axiom, sorry.
-/
import Derived.Test.YtpemajghaceegaaGreatDoorChecked
import GoSem.PinnedTables
import GoSem.Claim
import GoSem.ClaimJoined
import GoSem.ClaimMapViews
import Derived.JoinedTies
import Derived.KernelRfl
namespace Go.Proofs.YtpemajghaceegaaGreatDoor
/- THE CELL 'sum', in the pinned program and in every row, IS THE sha256 OF THE DUMP (.gsa) THAT YtpemajghaceegaaGreatDoorProg.lean LOADS. Nothing in Lean hashes anything: it is a label: what it is worth is what the hold of that sum in a sandbox is worth. -/
noncomputable def Tryz.pinned : Pinned := { name := "ytpemajghaceegaagreatdoor", sum := "f25d1f69067f514f14de49d39deaf07f79465f1c2901978553ccd67abd15d1d5", checked := Tryz.checked }
namespace Rows
def none {H : Type} : Left H := { results := [], args := [] }

/- WHAT THE LISTED PACKAGE-LEVEL VARIABLES READ AS WHEN THE CALL BEGINS. Each datum BY PROGRAM (the guide's laid-datum.mjs) off the statement by which the dump's own 'gosem.cut.vars' lays the variable. In a bare row this is a premise. The card (YtpemajghaceegaaGreatDoorCards.lean) ties it to the program's text. -/
def laid_unicode_utf8_acceptRanges {H : Type} : DataW H := .agg [.agg [.lit (.int .u8 128), .lit (.int .u8 191)], .agg [.lit (.int .u8 160), .lit (.int .u8 191)], .agg [.lit (.int .u8 128), .lit (.int .u8 159)], .agg [.lit (.int .u8 144), .lit (.int .u8 191)], .agg [.lit (.int .u8 128), .lit (.int .u8 143)], .agg [.lit (.int .u8 0), .lit (.int .u8 0)], .agg [.lit (.int .u8 0), .lit (.int .u8 0)], .agg [.lit (.int .u8 0), .lit (.int .u8 0)], .agg [.lit (.int .u8 0), .lit (.int .u8 0)], .agg [.lit (.int .u8 0), .lit (.int .u8 0)], .agg [.lit (.int .u8 0), .lit (.int .u8 0)], .agg [.lit (.int .u8 0), .lit (.int .u8 0)], .agg [.lit (.int .u8 0), .lit (.int .u8 0)], .agg [.lit (.int .u8 0), .lit (.int .u8 0)], .agg [.lit (.int .u8 0), .lit (.int .u8 0)], .agg [.lit (.int .u8 0), .lit (.int .u8 0)]]
/-- One of Go's own tables, pinned by name: the form's constant. -/
def laid_unicode_utf8_first : DataW Unit := Go.Pinned.utf8First

/-- 'orrerylaw21.HexfileMerges': WHATEVER THE INPUT: true; the input reads as it did. -/
def hexfileMergesSpec : ChangeSpec := { name := "hexfileMerges", fn := fun _ => fun
  | [d1, d2] => { results := [.lit (.bool true)], args := [d1, d2] }
  | _ => none }
def hexfileMergesRow : OpenClaim := { program := "ytpemajghaceegaagreatdoor", sum := "f25d1f69067f514f14de49d39deaf07f79465f1c2901978553ccd67abd15d1d5", func := "orrery/orrerylaw21.HexfileMerges", spec := "hexfileMerges", inPlace := ["internal/abi.NoEscape", "internal/bytealg.CountString", "internal/bytealg.IndexByteString", "internal/bytealg.IndexString"], unfollowed := true, recurses := true, named := ["unicode/utf8.first", "unicode/utf8.acceptRanges", "internal/bytealg.MaxLen"], apart := false, laid := [("unicode/utf8.acceptRanges", laid_unicode_utf8_acceptRanges), ("unicode/utf8.first", laid_unicode_utf8_first)] }
def HexfileMergesSaid : Prop := hexfileMergesRow.holds Tryz.pinned (OpenSpec.ofChange hexfileMergesSpec)

/-- ITS FALSE NEIGHBOUR: 'it returns false'. Refute it at one input. -/
def hexfileMergesWrong : ChangeSpec := { name := "hexfileMerges", fn := fun _ => fun
  | [d1, d2] => { results := [.lit (.bool false)], args := [d1, d2] }
  | _ => none }
def HexfileMergesWrongFalsely : Prop := hexfileMergesRow.holds Tryz.pinned (OpenSpec.ofChange hexfileMergesWrong)

/-- 'orrerylaw21.HexfileRecords': WHATEVER THE INPUT: true; the input reads as it did. -/
def hexfileRecordsSpec : ChangeSpec := { name := "hexfileRecords", fn := fun _ => fun
  | [d1, d2, d3, d4, d5] => { results := [.lit (.bool true)], args := [d1, d2, d3, d4, d5] }
  | _ => none }
def hexfileRecordsRow : OpenClaim := { program := "ytpemajghaceegaagreatdoor", sum := "f25d1f69067f514f14de49d39deaf07f79465f1c2901978553ccd67abd15d1d5", func := "orrery/orrerylaw21.HexfileRecords", spec := "hexfileRecords", inPlace := ["internal/abi.NoEscape", "internal/bytealg.CountString", "internal/bytealg.IndexByteString", "internal/bytealg.IndexString"], unfollowed := true, recurses := true, named := ["unicode/utf8.first", "unicode/utf8.acceptRanges", "internal/bytealg.MaxLen"], apart := false, laid := [("unicode/utf8.acceptRanges", laid_unicode_utf8_acceptRanges), ("unicode/utf8.first", laid_unicode_utf8_first)] }
def HexfileRecordsSaid : Prop := hexfileRecordsRow.holds Tryz.pinned (OpenSpec.ofChange hexfileRecordsSpec)

/-- ITS FALSE NEIGHBOUR: 'it returns false'. Refute it at one input. -/
def hexfileRecordsWrong : ChangeSpec := { name := "hexfileRecords", fn := fun _ => fun
  | [d1, d2, d3, d4, d5] => { results := [.lit (.bool false)], args := [d1, d2, d3, d4, d5] }
  | _ => none }
def HexfileRecordsWrongFalsely : Prop := hexfileRecordsRow.holds Tryz.pinned (OpenSpec.ofChange hexfileRecordsWrong)

/-- 'orrerylaw21.HexfileWrites': WHATEVER THE INPUT: true; the input reads as it did. -/
def hexfileWritesSpec : ChangeSpec := { name := "hexfileWrites", fn := fun _ => fun
  | [d1, d2] => { results := [.lit (.bool true)], args := [d1, d2] }
  | _ => none }
def hexfileWritesRow : OpenClaim := { program := "ytpemajghaceegaagreatdoor", sum := "f25d1f69067f514f14de49d39deaf07f79465f1c2901978553ccd67abd15d1d5", func := "orrery/orrerylaw21.HexfileWrites", spec := "hexfileWrites", inPlace := ["internal/abi.NoEscape", "internal/bytealg.CountString", "internal/bytealg.IndexByteString", "internal/bytealg.IndexString"], unfollowed := true, recurses := true, named := ["unicode/utf8.first", "unicode/utf8.acceptRanges", "internal/bytealg.MaxLen"], apart := false, laid := [("unicode/utf8.acceptRanges", laid_unicode_utf8_acceptRanges), ("unicode/utf8.first", laid_unicode_utf8_first)] }
def HexfileWritesSaid : Prop := hexfileWritesRow.holds Tryz.pinned (OpenSpec.ofChange hexfileWritesSpec)

/-- ITS FALSE NEIGHBOUR: 'it returns false'. Refute it at one input. -/
def hexfileWritesWrong : ChangeSpec := { name := "hexfileWrites", fn := fun _ => fun
  | [d1, d2] => { results := [.lit (.bool false)], args := [d1, d2] }
  | _ => none }
def HexfileWritesWrongFalsely : Prop := hexfileWritesRow.holds Tryz.pinned (OpenSpec.ofChange hexfileWritesWrong)

/-- 'orrerylaw21.HexfileReads': WHATEVER THE INPUT: true; the input reads as it did. -/
def hexfileReadsSpec : ChangeSpec := { name := "hexfileReads", fn := fun _ => fun
  | [d] => { results := [.lit (.bool true)], args := [d] }
  | _ => none }
def hexfileReadsRow : OpenClaim := { program := "ytpemajghaceegaagreatdoor", sum := "f25d1f69067f514f14de49d39deaf07f79465f1c2901978553ccd67abd15d1d5", func := "orrery/orrerylaw21.HexfileReads", spec := "hexfileReads", inPlace := ["internal/bytealg.CountString", "internal/bytealg.IndexByteString", "internal/bytealg.IndexString", "internal/abi.NoEscape"], unfollowed := true, recurses := true, named := ["unicode/utf8.first", "unicode/utf8.acceptRanges", "internal/bytealg.MaxLen"], apart := false, laid := [("unicode/utf8.acceptRanges", laid_unicode_utf8_acceptRanges), ("unicode/utf8.first", laid_unicode_utf8_first)] }
def HexfileReadsSaid : Prop := hexfileReadsRow.holds Tryz.pinned (OpenSpec.ofChange hexfileReadsSpec)

/-- ITS FALSE NEIGHBOUR: 'it returns false'. Refute it at one input. -/
def hexfileReadsWrong : ChangeSpec := { name := "hexfileReads", fn := fun _ => fun
  | [d] => { results := [.lit (.bool false)], args := [d] }
  | _ => none }
def HexfileReadsWrongFalsely : Prop := hexfileReadsRow.holds Tryz.pinned (OpenSpec.ofChange hexfileReadsWrong)

/-- 'orrerylaw21.HexfileBack': WHATEVER THE INPUT: true; the input reads as it did. -/
def hexfileBackSpec : ChangeSpec := { name := "hexfileBack", fn := fun _ => fun
  | [d1, d2, d3, d4, d5] => { results := [.lit (.bool true)], args := [d1, d2, d3, d4, d5] }
  | _ => none }
def hexfileBackRow : OpenClaim := { program := "ytpemajghaceegaagreatdoor", sum := "f25d1f69067f514f14de49d39deaf07f79465f1c2901978553ccd67abd15d1d5", func := "orrery/orrerylaw21.HexfileBack", spec := "hexfileBack", inPlace := ["internal/abi.NoEscape", "internal/bytealg.CountString", "internal/bytealg.IndexByteString", "internal/bytealg.IndexString"], unfollowed := true, recurses := true, named := ["unicode/utf8.first", "unicode/utf8.acceptRanges", "internal/bytealg.MaxLen"], apart := false, laid := [("unicode/utf8.acceptRanges", laid_unicode_utf8_acceptRanges), ("unicode/utf8.first", laid_unicode_utf8_first)] }
def HexfileBackSaid : Prop := hexfileBackRow.holds Tryz.pinned (OpenSpec.ofChange hexfileBackSpec)

/-- ITS FALSE NEIGHBOUR: 'it returns false'. Refute it at one input. -/
def hexfileBackWrong : ChangeSpec := { name := "hexfileBack", fn := fun _ => fun
  | [d1, d2, d3, d4, d5] => { results := [.lit (.bool false)], args := [d1, d2, d3, d4, d5] }
  | _ => none }
def HexfileBackWrongFalsely : Prop := hexfileBackRow.holds Tryz.pinned (OpenSpec.ofChange hexfileBackWrong)

/-- 'orrerylaw21.HexfileLoose': WHATEVER THE INPUT: true; the input reads as it did. -/
def hexfileLooseSpec : ChangeSpec := { name := "hexfileLoose", fn := fun _ => fun
  | [d] => { results := [.lit (.bool true)], args := [d] }
  | _ => none }
def hexfileLooseRow : OpenClaim := { program := "ytpemajghaceegaagreatdoor", sum := "f25d1f69067f514f14de49d39deaf07f79465f1c2901978553ccd67abd15d1d5", func := "orrery/orrerylaw21.HexfileLoose", spec := "hexfileLoose", inPlace := ["internal/abi.NoEscape", "internal/bytealg.CountString", "internal/bytealg.IndexByteString", "internal/bytealg.IndexString"], unfollowed := true, recurses := true, named := ["unicode/utf8.first", "unicode/utf8.acceptRanges", "internal/bytealg.MaxLen"], apart := false, laid := [("unicode/utf8.acceptRanges", laid_unicode_utf8_acceptRanges), ("unicode/utf8.first", laid_unicode_utf8_first)] }
def HexfileLooseSaid : Prop := hexfileLooseRow.holds Tryz.pinned (OpenSpec.ofChange hexfileLooseSpec)

/-- ITS FALSE NEIGHBOUR: 'it returns false'. Refute it at one input. -/
def hexfileLooseWrong : ChangeSpec := { name := "hexfileLoose", fn := fun _ => fun
  | [d] => { results := [.lit (.bool false)], args := [d] }
  | _ => none }
def HexfileLooseWrongFalsely : Prop := hexfileLooseRow.holds Tryz.pinned (OpenSpec.ofChange hexfileLooseWrong)

/- THE SECOND FORM. 'bulk': how many values and letters a reading holds, each counted each time it is reached (what is shared counts as often as it is met; a slice's spare places count too). A statement '..UptoSaid' is the law's where the arguments, and the package variables that the reading takes, are together of bulk at most 1048576: NARROWER than '..Said'. Prove '..Said' where nothing that the law and all that it calls make is longer than what came in: it says more and counts as full. Else prove '..UptoSaid'. A law counts once. -/
mutual
def uptoBulk {H : Type} : DataW H → Nat
  | .lit (.string bytes) => bytes.length + 1
  | .lit _ => 1
  | .nil => 1
  | .ptr d => uptoBulk d + 1
  | .slice elems spare => uptoBulkAll elems + uptoBulkAll spare + 1
  | .agg parts => uptoBulkAll parts + 1
  | .iface _ d => uptoBulk d + 1
  | .map entries => uptoBulkEntries entries + 1
  | .held _ => 1
def uptoBulkAll {H : Type} : List (DataW H) → Nat
  | [] => 0
  | d :: r => uptoBulk d + uptoBulkAll r
def uptoBulkEntries {H : Type} : List (Lit × DataW H) → Nat
  | [] => 0
  | x :: r => uptoBulkEntry x + uptoBulkEntries r
def uptoBulkEntry {H : Type} : Lit × DataW H → Nat
  | (.string bytes, d) => bytes.length + uptoBulk d + 1
  | (_, d) => uptoBulk d + 1
 end
def uptoSmall : (H : Type) → List (DataW H) → Bool := fun _ ds => decide (uptoBulkAll ds ≤ 1048576)
def OpenSpec.upto (s : _root_.Go.ChangeSpec) : _root_.Go.OpenSpec := { _root_.Go.OpenSpec.ofChange s with cond := some uptoSmall }

/-- 'orrerylaw21.HexfileMerges', WHERE WHAT IT READS IS OF BULK AT MOST 1048576: true; the input reads as it did. -/
def hexfileMergesUptoRow : OpenClaim := { program := "ytpemajghaceegaagreatdoor", sum := "f25d1f69067f514f14de49d39deaf07f79465f1c2901978553ccd67abd15d1d5", func := "orrery/orrerylaw21.HexfileMerges", spec := "hexfileMerges", inPlace := ["internal/abi.NoEscape", "internal/bytealg.CountString", "internal/bytealg.IndexByteString", "internal/bytealg.IndexString"], unfollowed := true, recurses := true, named := ["unicode/utf8.first", "unicode/utf8.acceptRanges", "internal/bytealg.MaxLen"], apart := false, laid := [("unicode/utf8.acceptRanges", laid_unicode_utf8_acceptRanges), ("unicode/utf8.first", laid_unicode_utf8_first)], narrowed := true }
def HexfileMergesUptoSaid : Prop := hexfileMergesUptoRow.holds Tryz.pinned (OpenSpec.upto hexfileMergesSpec)

/-- 'orrerylaw21.HexfileRecords', WHERE WHAT IT READS IS OF BULK AT MOST 1048576: true; the input reads as it did. -/
def hexfileRecordsUptoRow : OpenClaim := { program := "ytpemajghaceegaagreatdoor", sum := "f25d1f69067f514f14de49d39deaf07f79465f1c2901978553ccd67abd15d1d5", func := "orrery/orrerylaw21.HexfileRecords", spec := "hexfileRecords", inPlace := ["internal/abi.NoEscape", "internal/bytealg.CountString", "internal/bytealg.IndexByteString", "internal/bytealg.IndexString"], unfollowed := true, recurses := true, named := ["unicode/utf8.first", "unicode/utf8.acceptRanges", "internal/bytealg.MaxLen"], apart := false, laid := [("unicode/utf8.acceptRanges", laid_unicode_utf8_acceptRanges), ("unicode/utf8.first", laid_unicode_utf8_first)], narrowed := true }
def HexfileRecordsUptoSaid : Prop := hexfileRecordsUptoRow.holds Tryz.pinned (OpenSpec.upto hexfileRecordsSpec)

/-- 'orrerylaw21.HexfileWrites', WHERE WHAT IT READS IS OF BULK AT MOST 1048576: true; the input reads as it did. -/
def hexfileWritesUptoRow : OpenClaim := { program := "ytpemajghaceegaagreatdoor", sum := "f25d1f69067f514f14de49d39deaf07f79465f1c2901978553ccd67abd15d1d5", func := "orrery/orrerylaw21.HexfileWrites", spec := "hexfileWrites", inPlace := ["internal/abi.NoEscape", "internal/bytealg.CountString", "internal/bytealg.IndexByteString", "internal/bytealg.IndexString"], unfollowed := true, recurses := true, named := ["unicode/utf8.first", "unicode/utf8.acceptRanges", "internal/bytealg.MaxLen"], apart := false, laid := [("unicode/utf8.acceptRanges", laid_unicode_utf8_acceptRanges), ("unicode/utf8.first", laid_unicode_utf8_first)], narrowed := true }
def HexfileWritesUptoSaid : Prop := hexfileWritesUptoRow.holds Tryz.pinned (OpenSpec.upto hexfileWritesSpec)

/-- 'orrerylaw21.HexfileReads', WHERE WHAT IT READS IS OF BULK AT MOST 1048576: true; the input reads as it did. -/
def hexfileReadsUptoRow : OpenClaim := { program := "ytpemajghaceegaagreatdoor", sum := "f25d1f69067f514f14de49d39deaf07f79465f1c2901978553ccd67abd15d1d5", func := "orrery/orrerylaw21.HexfileReads", spec := "hexfileReads", inPlace := ["internal/bytealg.CountString", "internal/bytealg.IndexByteString", "internal/bytealg.IndexString", "internal/abi.NoEscape"], unfollowed := true, recurses := true, named := ["unicode/utf8.first", "unicode/utf8.acceptRanges", "internal/bytealg.MaxLen"], apart := false, laid := [("unicode/utf8.acceptRanges", laid_unicode_utf8_acceptRanges), ("unicode/utf8.first", laid_unicode_utf8_first)], narrowed := true }
def HexfileReadsUptoSaid : Prop := hexfileReadsUptoRow.holds Tryz.pinned (OpenSpec.upto hexfileReadsSpec)

/-- 'orrerylaw21.HexfileBack', WHERE WHAT IT READS IS OF BULK AT MOST 1048576: true; the input reads as it did. -/
def hexfileBackUptoRow : OpenClaim := { program := "ytpemajghaceegaagreatdoor", sum := "f25d1f69067f514f14de49d39deaf07f79465f1c2901978553ccd67abd15d1d5", func := "orrery/orrerylaw21.HexfileBack", spec := "hexfileBack", inPlace := ["internal/abi.NoEscape", "internal/bytealg.CountString", "internal/bytealg.IndexByteString", "internal/bytealg.IndexString"], unfollowed := true, recurses := true, named := ["unicode/utf8.first", "unicode/utf8.acceptRanges", "internal/bytealg.MaxLen"], apart := false, laid := [("unicode/utf8.acceptRanges", laid_unicode_utf8_acceptRanges), ("unicode/utf8.first", laid_unicode_utf8_first)], narrowed := true }
def HexfileBackUptoSaid : Prop := hexfileBackUptoRow.holds Tryz.pinned (OpenSpec.upto hexfileBackSpec)

/-- 'orrerylaw21.HexfileLoose', WHERE WHAT IT READS IS OF BULK AT MOST 1048576: true; the input reads as it did. -/
def hexfileLooseUptoRow : OpenClaim := { program := "ytpemajghaceegaagreatdoor", sum := "f25d1f69067f514f14de49d39deaf07f79465f1c2901978553ccd67abd15d1d5", func := "orrery/orrerylaw21.HexfileLoose", spec := "hexfileLoose", inPlace := ["internal/abi.NoEscape", "internal/bytealg.CountString", "internal/bytealg.IndexByteString", "internal/bytealg.IndexString"], unfollowed := true, recurses := true, named := ["unicode/utf8.first", "unicode/utf8.acceptRanges", "internal/bytealg.MaxLen"], apart := false, laid := [("unicode/utf8.acceptRanges", laid_unicode_utf8_acceptRanges), ("unicode/utf8.first", laid_unicode_utf8_first)], narrowed := true }
def HexfileLooseUptoSaid : Prop := hexfileLooseUptoRow.holds Tryz.pinned (OpenSpec.upto hexfileLooseSpec)

end Rows
end Go.Proofs.YtpemajghaceegaaGreatDoor
