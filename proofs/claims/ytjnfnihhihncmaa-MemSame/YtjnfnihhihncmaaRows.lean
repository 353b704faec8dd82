/-
  No cell of these rows narrows 'for every input' (looked for: loops, veiled, ifaces, maps, wideKeys, modest, calm, conditions, laid).
  DERIVED. THE GIVEN ROWS OF THIS SEAT. 5 by the template 'for every input the law returns true; each argument reads behind the call as it read before'; 0 by the template 'total and deterministic' (their statements: YtjnfnihhihncmaaTotals.lean).
  GIVEN WITH THE SEED: the statements are not yours to turn. If you find one false, say at which input.
  Laid BY PROGRAM, IN A SANDBOX (cutbox-rows.mjs): the forced cells as the released guide's own fill.sh prints them over the translation 4627c641e64a57e8… (all of the seat's roots in one cut). By AI agents, Wed Nov 11 2026. No macro, syntax, notation, axiom, sorry.
-/
import Derived.Test.YtjnfnihhihncmaaChecked
import GoSem.Claim
import GoSem.ClaimJoined
import GoSem.ClaimMapViews
import Derived.JoinedTies
import Derived.KernelRfl
namespace Go.Proofs.Ytjnfnihhihncmaa
/- THE CELL 'sum', in the pinned program and in every row, IS THE sha256 OF THE DUMP (.gsa) THAT YtjnfnihhihncmaaProg.lean LOADS. Nothing in Lean hashes anything: it is a label: what it is worth is what the hold of that sum in a sandbox is worth. -/
noncomputable def Try.pinned : Pinned := { name := "ytjnfnihhihncmaa", sum := "4627c641e64a57e8cd960cba7e62bc66a5db2b52119c1afc2c0e6c3031bd6cb4", checked := Try.checked }
namespace Rows
def none {H : Type} : Left H := { results := [], args := [] }

/-- 'orrerylaw23.MemPlays': WHATEVER THE INPUT: true; the input reads as it did. -/
def memPlaysSpec : ChangeSpec := { name := "memPlays", fn := fun _ => fun
  | [d1, d2] => { results := [.lit (.bool true)], args := [d1, d2] }
  | _ => none }
def memPlaysRow : OpenClaim := { program := "ytjnfnihhihncmaa", sum := "4627c641e64a57e8cd960cba7e62bc66a5db2b52119c1afc2c0e6c3031bd6cb4", func := "orrery/orrerylaw23.MemPlays", spec := "memPlays", unfollowed := true, recurses := true, plainKeys := false, apart := false }
def MemPlaysSaid : Prop := memPlaysRow.holds Try.pinned (OpenSpec.ofChange memPlaysSpec)

/-- ITS FALSE NEIGHBOUR: 'it returns false'. Refute it at one input. -/
def memPlaysWrong : ChangeSpec := { name := "memPlays", fn := fun _ => fun
  | [d1, d2] => { results := [.lit (.bool false)], args := [d1, d2] }
  | _ => none }
def MemPlaysWrongFalsely : Prop := memPlaysRow.holds Try.pinned (OpenSpec.ofChange memPlaysWrong)

/-- 'orrerylaw23.MemNils': WHATEVER THE INPUT: true; the input reads as it did. -/
def memNilsSpec : ChangeSpec := { name := "memNils", fn := fun _ => fun
  | [d1, d2, d3] => { results := [.lit (.bool true)], args := [d1, d2, d3] }
  | _ => none }
def memNilsRow : OpenClaim := { program := "ytjnfnihhihncmaa", sum := "4627c641e64a57e8cd960cba7e62bc66a5db2b52119c1afc2c0e6c3031bd6cb4", func := "orrery/orrerylaw23.MemNils", spec := "memNils", unfollowed := true, recurses := true, plainKeys := false, apart := false }
def MemNilsSaid : Prop := memNilsRow.holds Try.pinned (OpenSpec.ofChange memNilsSpec)

/-- ITS FALSE NEIGHBOUR: 'it returns false'. Refute it at one input. -/
def memNilsWrong : ChangeSpec := { name := "memNils", fn := fun _ => fun
  | [d1, d2, d3] => { results := [.lit (.bool false)], args := [d1, d2, d3] }
  | _ => none }
def MemNilsWrongFalsely : Prop := memNilsRow.holds Try.pinned (OpenSpec.ofChange memNilsWrong)

/-- 'orrerylaw23.MemBears': WHATEVER THE INPUT: true; the input reads as it did. -/
def memBearsSpec : ChangeSpec := { name := "memBears", fn := fun _ => fun
  | [d1, d2, d3] => { results := [.lit (.bool true)], args := [d1, d2, d3] }
  | _ => none }
def memBearsRow : OpenClaim := { program := "ytjnfnihhihncmaa", sum := "4627c641e64a57e8cd960cba7e62bc66a5db2b52119c1afc2c0e6c3031bd6cb4", func := "orrery/orrerylaw23.MemBears", spec := "memBears", unfollowed := true, recurses := true, plainKeys := false, apart := false }
def MemBearsSaid : Prop := memBearsRow.holds Try.pinned (OpenSpec.ofChange memBearsSpec)

/-- ITS FALSE NEIGHBOUR: 'it returns false'. Refute it at one input. -/
def memBearsWrong : ChangeSpec := { name := "memBears", fn := fun _ => fun
  | [d1, d2, d3] => { results := [.lit (.bool false)], args := [d1, d2, d3] }
  | _ => none }
def MemBearsWrongFalsely : Prop := memBearsRow.holds Try.pinned (OpenSpec.ofChange memBearsWrong)

/-- 'orrerylaw23.MemScrubs': WHATEVER THE INPUT: true; the input reads as it did. -/
def memScrubsSpec : ChangeSpec := { name := "memScrubs", fn := fun _ => fun
  | [d] => { results := [.lit (.bool true)], args := [d] }
  | _ => none }
def memScrubsRow : OpenClaim := { program := "ytjnfnihhihncmaa", sum := "4627c641e64a57e8cd960cba7e62bc66a5db2b52119c1afc2c0e6c3031bd6cb4", func := "orrery/orrerylaw23.MemScrubs", spec := "memScrubs", unfollowed := true, recurses := true, plainKeys := false, apart := false }
def MemScrubsSaid : Prop := memScrubsRow.holds Try.pinned (OpenSpec.ofChange memScrubsSpec)

/-- ITS FALSE NEIGHBOUR: 'it returns false'. Refute it at one input. -/
def memScrubsWrong : ChangeSpec := { name := "memScrubs", fn := fun _ => fun
  | [d] => { results := [.lit (.bool false)], args := [d] }
  | _ => none }
def MemScrubsWrongFalsely : Prop := memScrubsRow.holds Try.pinned (OpenSpec.ofChange memScrubsWrong)

/-- 'orrerylaw23.MemSame': WHATEVER THE INPUT: true; the input reads as it did. -/
def memSameSpec : ChangeSpec := { name := "memSame", fn := fun _ => fun
  | [d1, d2, d3] => { results := [.lit (.bool true)], args := [d1, d2, d3] }
  | _ => none }
def memSameRow : OpenClaim := { program := "ytjnfnihhihncmaa", sum := "4627c641e64a57e8cd960cba7e62bc66a5db2b52119c1afc2c0e6c3031bd6cb4", func := "orrery/orrerylaw23.MemSame", spec := "memSame", unfollowed := true, recurses := true, plainKeys := false, apart := false }
def MemSameSaid : Prop := memSameRow.holds Try.pinned (OpenSpec.ofChange memSameSpec)

/-- ITS FALSE NEIGHBOUR: 'it returns false'. Refute it at one input. -/
def memSameWrong : ChangeSpec := { name := "memSame", fn := fun _ => fun
  | [d1, d2, d3] => { results := [.lit (.bool false)], args := [d1, d2, d3] }
  | _ => none }
def MemSameWrongFalsely : Prop := memSameRow.holds Try.pinned (OpenSpec.ofChange memSameWrong)

/- THE SECOND FORM. 'bulk': how many values and letters a reading holds, each counted each time it is reached (what is shared counts as often as it is met; a slice's spare places count too). A statement '..UptoSaid' is the law's where the arguments, and the package variables that the reading takes, are together of bulk at most 1048576: NARROWER than '..Said'. Prove '..Said' where nothing that the law and all that it calls make is longer than what came in: it says more and counts as full. Else prove '..UptoSaid'. A law counts once. -/
mutual
def uptoBulk {H : Type} : DataW H → Nat
  | .lit (.string bytes) => bytes.length + 1
  | .lit _ => 1
  | .nil => 1
  | .ptr d => uptoBulk d + 1
  | .slice elems spare => uptoBulkAll elems + uptoBulkAll spare + 1
  | .agg parts => uptoBulkAll parts + 1
  | .iface _ d => uptoBulk d + 1
  | .map entries => uptoBulkEntries entries + 1
  | .held _ => 1
def uptoBulkAll {H : Type} : List (DataW H) → Nat
  | [] => 0
  | d :: r => uptoBulk d + uptoBulkAll r
def uptoBulkEntries {H : Type} : List (Lit × DataW H) → Nat
  | [] => 0
  | x :: r => uptoBulkEntry x + uptoBulkEntries r
def uptoBulkEntry {H : Type} : Lit × DataW H → Nat
  | (.string bytes, d) => bytes.length + uptoBulk d + 1
  | (_, d) => uptoBulk d + 1
 end
def uptoSmall : (H : Type) → List (DataW H) → Bool := fun _ ds => decide (uptoBulkAll ds ≤ 1048576)
def OpenSpec.upto (s : _root_.Go.ChangeSpec) : _root_.Go.OpenSpec := { _root_.Go.OpenSpec.ofChange s with cond := some uptoSmall }

/-- 'orrerylaw23.MemPlays', WHERE WHAT IT READS IS OF BULK AT MOST 1048576: true; the input reads as it did. -/
def memPlaysUptoRow : OpenClaim := { program := "ytjnfnihhihncmaa", sum := "4627c641e64a57e8cd960cba7e62bc66a5db2b52119c1afc2c0e6c3031bd6cb4", func := "orrery/orrerylaw23.MemPlays", spec := "memPlays", unfollowed := true, recurses := true, plainKeys := false, apart := false, narrowed := true }
def MemPlaysUptoSaid : Prop := memPlaysUptoRow.holds Try.pinned (OpenSpec.upto memPlaysSpec)

/-- 'orrerylaw23.MemNils', WHERE WHAT IT READS IS OF BULK AT MOST 1048576: true; the input reads as it did. -/
def memNilsUptoRow : OpenClaim := { program := "ytjnfnihhihncmaa", sum := "4627c641e64a57e8cd960cba7e62bc66a5db2b52119c1afc2c0e6c3031bd6cb4", func := "orrery/orrerylaw23.MemNils", spec := "memNils", unfollowed := true, recurses := true, plainKeys := false, apart := false, narrowed := true }
def MemNilsUptoSaid : Prop := memNilsUptoRow.holds Try.pinned (OpenSpec.upto memNilsSpec)

/-- 'orrerylaw23.MemBears', WHERE WHAT IT READS IS OF BULK AT MOST 1048576: true; the input reads as it did. -/
def memBearsUptoRow : OpenClaim := { program := "ytjnfnihhihncmaa", sum := "4627c641e64a57e8cd960cba7e62bc66a5db2b52119c1afc2c0e6c3031bd6cb4", func := "orrery/orrerylaw23.MemBears", spec := "memBears", unfollowed := true, recurses := true, plainKeys := false, apart := false, narrowed := true }
def MemBearsUptoSaid : Prop := memBearsUptoRow.holds Try.pinned (OpenSpec.upto memBearsSpec)

/-- 'orrerylaw23.MemScrubs', WHERE WHAT IT READS IS OF BULK AT MOST 1048576: true; the input reads as it did. -/
def memScrubsUptoRow : OpenClaim := { program := "ytjnfnihhihncmaa", sum := "4627c641e64a57e8cd960cba7e62bc66a5db2b52119c1afc2c0e6c3031bd6cb4", func := "orrery/orrerylaw23.MemScrubs", spec := "memScrubs", unfollowed := true, recurses := true, plainKeys := false, apart := false, narrowed := true }
def MemScrubsUptoSaid : Prop := memScrubsUptoRow.holds Try.pinned (OpenSpec.upto memScrubsSpec)

/-- 'orrerylaw23.MemSame', WHERE WHAT IT READS IS OF BULK AT MOST 1048576: true; the input reads as it did. -/
def memSameUptoRow : OpenClaim := { program := "ytjnfnihhihncmaa", sum := "4627c641e64a57e8cd960cba7e62bc66a5db2b52119c1afc2c0e6c3031bd6cb4", func := "orrery/orrerylaw23.MemSame", spec := "memSame", unfollowed := true, recurses := true, plainKeys := false, apart := false, narrowed := true }
def MemSameUptoSaid : Prop := memSameUptoRow.holds Try.pinned (OpenSpec.upto memSameSpec)

end Rows
end Go.Proofs.Ytjnfnihhihncmaa
