/-
  No cell of these rows narrows 'for every input' (looked for: loops, veiled, ifaces, maps, wideKeys, modest, calm, conditions, laid).
  DERIVED. THE GIVEN ROWS OF THIS SEAT. 6 by the template 'for every input the law returns true; each argument reads behind the call as it read before'; 0 by the template 'total and deterministic' (their statements: YtgefampdfhbmbaaTotals.lean).
  GIVEN WITH THE SEED: the statements are not yours to turn. If you find one false, say at which input.
  Laid BY PROGRAM, IN A SANDBOX (cutbox-rows.mjs): the forced cells as the released guide's own fill.sh prints them over the translation 1d9a8f67f460e86e… (all of the seat's roots in one cut). By AI agents, Wed Nov 11 2026. No macro, syntax, notation, axiom, sorry.
-/
import Derived.Test.YtgefampdfhbmbaaChecked
import GoSem.Claim
import GoSem.ClaimJoined
import GoSem.ClaimMapViews
import Derived.JoinedTies
import Derived.KernelRfl
namespace Go.Proofs.Ytgefampdfhbmbaa
/- THE CELL 'sum', in the pinned program and in every row, IS THE sha256 OF THE DUMP (.gsa) THAT YtgefampdfhbmbaaProg.lean LOADS. Nothing in Lean hashes anything: it is a label: what it is worth is what the hold of that sum in a sandbox is worth. -/
noncomputable def Try.pinned : Pinned := { name := "ytgefampdfhbmbaa", sum := "1d9a8f67f460e86edc5d30e939c60477bdf5e0f6da89181a0e46d4434bb958cd", checked := Try.checked }
namespace Rows
def none {H : Type} : Left H := { results := [], args := [] }

/-- 'orrerylaw09.AesKeys': WHATEVER THE INPUT: true; the input reads as it did. -/
def aesKeysSpec : ChangeSpec := { name := "aesKeys", fn := fun _ => fun
  | [d1, d2] => { results := [.lit (.bool true)], args := [d1, d2] }
  | _ => none }
def aesKeysRow : OpenClaim := { program := "ytgefampdfhbmbaa", sum := "1d9a8f67f460e86edc5d30e939c60477bdf5e0f6da89181a0e46d4434bb958cd", func := "orrery/orrerylaw09.AesKeys", spec := "aesKeys", unfollowed := true, recurses := true, apart := false }
def AesKeysSaid : Prop := aesKeysRow.holds Try.pinned (OpenSpec.ofChange aesKeysSpec)

/-- ITS FALSE NEIGHBOUR: 'it returns false'. Refute it at one input. -/
def aesKeysWrong : ChangeSpec := { name := "aesKeys", fn := fun _ => fun
  | [d1, d2] => { results := [.lit (.bool false)], args := [d1, d2] }
  | _ => none }
def AesKeysWrongFalsely : Prop := aesKeysRow.holds Try.pinned (OpenSpec.ofChange aesKeysWrong)

/-- 'orrerylaw09.AesBlocks': WHATEVER THE INPUT: true; the input reads as it did. -/
def aesBlocksSpec : ChangeSpec := { name := "aesBlocks", fn := fun _ => fun
  | [d1, d2] => { results := [.lit (.bool true)], args := [d1, d2] }
  | _ => none }
def aesBlocksRow : OpenClaim := { program := "ytgefampdfhbmbaa", sum := "1d9a8f67f460e86edc5d30e939c60477bdf5e0f6da89181a0e46d4434bb958cd", func := "orrery/orrerylaw09.AesBlocks", spec := "aesBlocks", unfollowed := true, recurses := true, apart := false }
def AesBlocksSaid : Prop := aesBlocksRow.holds Try.pinned (OpenSpec.ofChange aesBlocksSpec)

/-- ITS FALSE NEIGHBOUR: 'it returns false'. Refute it at one input. -/
def aesBlocksWrong : ChangeSpec := { name := "aesBlocks", fn := fun _ => fun
  | [d1, d2] => { results := [.lit (.bool false)], args := [d1, d2] }
  | _ => none }
def AesBlocksWrongFalsely : Prop := aesBlocksRow.holds Try.pinned (OpenSpec.ofChange aesBlocksWrong)

/-- 'orrerylaw09.AesModes': WHATEVER THE INPUT: true; the input reads as it did. -/
def aesModesSpec : ChangeSpec := { name := "aesModes", fn := fun _ => fun
  | [d1, d2, d3] => { results := [.lit (.bool true)], args := [d1, d2, d3] }
  | _ => none }
def aesModesRow : OpenClaim := { program := "ytgefampdfhbmbaa", sum := "1d9a8f67f460e86edc5d30e939c60477bdf5e0f6da89181a0e46d4434bb958cd", func := "orrery/orrerylaw09.AesModes", spec := "aesModes", unfollowed := true, recurses := true, apart := false }
def AesModesSaid : Prop := aesModesRow.holds Try.pinned (OpenSpec.ofChange aesModesSpec)

/-- ITS FALSE NEIGHBOUR: 'it returns false'. Refute it at one input. -/
def aesModesWrong : ChangeSpec := { name := "aesModes", fn := fun _ => fun
  | [d1, d2, d3] => { results := [.lit (.bool false)], args := [d1, d2, d3] }
  | _ => none }
def AesModesWrongFalsely : Prop := aesModesRow.holds Try.pinned (OpenSpec.ofChange aesModesWrong)

/-- 'orrerylaw09.AesPads': WHATEVER THE INPUT: true; the input reads as it did. -/
def aesPadsSpec : ChangeSpec := { name := "aesPads", fn := fun _ => fun
  | [d1, d2, d3] => { results := [.lit (.bool true)], args := [d1, d2, d3] }
  | _ => none }
def aesPadsRow : OpenClaim := { program := "ytgefampdfhbmbaa", sum := "1d9a8f67f460e86edc5d30e939c60477bdf5e0f6da89181a0e46d4434bb958cd", func := "orrery/orrerylaw09.AesPads", spec := "aesPads", unfollowed := true, recurses := true, apart := false }
def AesPadsSaid : Prop := aesPadsRow.holds Try.pinned (OpenSpec.ofChange aesPadsSpec)

/-- ITS FALSE NEIGHBOUR: 'it returns false'. Refute it at one input. -/
def aesPadsWrong : ChangeSpec := { name := "aesPads", fn := fun _ => fun
  | [d1, d2, d3] => { results := [.lit (.bool false)], args := [d1, d2, d3] }
  | _ => none }
def AesPadsWrongFalsely : Prop := aesPadsRow.holds Try.pinned (OpenSpec.ofChange aesPadsWrong)

/-- 'orrerylaw09.AesBack': WHATEVER THE INPUT: true; the input reads as it did. -/
def aesBackSpec : ChangeSpec := { name := "aesBack", fn := fun _ => fun
  | [d1, d2, d3] => { results := [.lit (.bool true)], args := [d1, d2, d3] }
  | _ => none }
def aesBackRow : OpenClaim := { program := "ytgefampdfhbmbaa", sum := "1d9a8f67f460e86edc5d30e939c60477bdf5e0f6da89181a0e46d4434bb958cd", func := "orrery/orrerylaw09.AesBack", spec := "aesBack", unfollowed := true, recurses := true, apart := false }
def AesBackSaid : Prop := aesBackRow.holds Try.pinned (OpenSpec.ofChange aesBackSpec)

/-- ITS FALSE NEIGHBOUR: 'it returns false'. Refute it at one input. -/
def aesBackWrong : ChangeSpec := { name := "aesBack", fn := fun _ => fun
  | [d1, d2, d3] => { results := [.lit (.bool false)], args := [d1, d2, d3] }
  | _ => none }
def AesBackWrongFalsely : Prop := aesBackRow.holds Try.pinned (OpenSpec.ofChange aesBackWrong)

/-- 'orrerylaw09.AesPieces': WHATEVER THE INPUT: true; the input reads as it did. -/
def aesPiecesSpec : ChangeSpec := { name := "aesPieces", fn := fun _ => fun
  | [d1, d2, d3, d4, d5, d6] => { results := [.lit (.bool true)], args := [d1, d2, d3, d4, d5, d6] }
  | _ => none }
def aesPiecesRow : OpenClaim := { program := "ytgefampdfhbmbaa", sum := "1d9a8f67f460e86edc5d30e939c60477bdf5e0f6da89181a0e46d4434bb958cd", func := "orrery/orrerylaw09.AesPieces", spec := "aesPieces", unfollowed := true, recurses := true, apart := false }
def AesPiecesSaid : Prop := aesPiecesRow.holds Try.pinned (OpenSpec.ofChange aesPiecesSpec)

/-- ITS FALSE NEIGHBOUR: 'it returns false'. Refute it at one input. -/
def aesPiecesWrong : ChangeSpec := { name := "aesPieces", fn := fun _ => fun
  | [d1, d2, d3, d4, d5, d6] => { results := [.lit (.bool false)], args := [d1, d2, d3, d4, d5, d6] }
  | _ => none }
def AesPiecesWrongFalsely : Prop := aesPiecesRow.holds Try.pinned (OpenSpec.ofChange aesPiecesWrong)

/- THE SECOND FORM. 'bulk': how many values and letters a reading holds, each counted each time it is reached (what is shared counts as often as it is met; a slice's spare places count too). A statement '..UptoSaid' is the law's where the arguments, and the package variables that the reading takes, are together of bulk at most 1048576: NARROWER than '..Said'. Prove '..Said' where nothing that the law and all that it calls make is longer than what came in: it says more and counts as full. Else prove '..UptoSaid'. A law counts once. -/
mutual
def uptoBulk {H : Type} : DataW H → Nat
  | .lit (.string bytes) => bytes.length + 1
  | .lit _ => 1
  | .nil => 1
  | .ptr d => uptoBulk d + 1
  | .slice elems spare => uptoBulkAll elems + uptoBulkAll spare + 1
  | .agg parts => uptoBulkAll parts + 1
  | .iface _ d => uptoBulk d + 1
  | .map entries => uptoBulkEntries entries + 1
  | .held _ => 1
def uptoBulkAll {H : Type} : List (DataW H) → Nat
  | [] => 0
  | d :: r => uptoBulk d + uptoBulkAll r
def uptoBulkEntries {H : Type} : List (Lit × DataW H) → Nat
  | [] => 0
  | x :: r => uptoBulkEntry x + uptoBulkEntries r
def uptoBulkEntry {H : Type} : Lit × DataW H → Nat
  | (.string bytes, d) => bytes.length + uptoBulk d + 1
  | (_, d) => uptoBulk d + 1
 end
def uptoSmall : (H : Type) → List (DataW H) → Bool := fun _ ds => decide (uptoBulkAll ds ≤ 1048576)
def OpenSpec.upto (s : _root_.Go.ChangeSpec) : _root_.Go.OpenSpec := { _root_.Go.OpenSpec.ofChange s with cond := some uptoSmall }

/-- 'orrerylaw09.AesKeys', WHERE WHAT IT READS IS OF BULK AT MOST 1048576: true; the input reads as it did. -/
def aesKeysUptoRow : OpenClaim := { program := "ytgefampdfhbmbaa", sum := "1d9a8f67f460e86edc5d30e939c60477bdf5e0f6da89181a0e46d4434bb958cd", func := "orrery/orrerylaw09.AesKeys", spec := "aesKeys", unfollowed := true, recurses := true, apart := false, narrowed := true }
def AesKeysUptoSaid : Prop := aesKeysUptoRow.holds Try.pinned (OpenSpec.upto aesKeysSpec)

/-- 'orrerylaw09.AesBlocks', WHERE WHAT IT READS IS OF BULK AT MOST 1048576: true; the input reads as it did. -/
def aesBlocksUptoRow : OpenClaim := { program := "ytgefampdfhbmbaa", sum := "1d9a8f67f460e86edc5d30e939c60477bdf5e0f6da89181a0e46d4434bb958cd", func := "orrery/orrerylaw09.AesBlocks", spec := "aesBlocks", unfollowed := true, recurses := true, apart := false, narrowed := true }
def AesBlocksUptoSaid : Prop := aesBlocksUptoRow.holds Try.pinned (OpenSpec.upto aesBlocksSpec)

/-- 'orrerylaw09.AesModes', WHERE WHAT IT READS IS OF BULK AT MOST 1048576: true; the input reads as it did. -/
def aesModesUptoRow : OpenClaim := { program := "ytgefampdfhbmbaa", sum := "1d9a8f67f460e86edc5d30e939c60477bdf5e0f6da89181a0e46d4434bb958cd", func := "orrery/orrerylaw09.AesModes", spec := "aesModes", unfollowed := true, recurses := true, apart := false, narrowed := true }
def AesModesUptoSaid : Prop := aesModesUptoRow.holds Try.pinned (OpenSpec.upto aesModesSpec)

/-- 'orrerylaw09.AesPads', WHERE WHAT IT READS IS OF BULK AT MOST 1048576: true; the input reads as it did. -/
def aesPadsUptoRow : OpenClaim := { program := "ytgefampdfhbmbaa", sum := "1d9a8f67f460e86edc5d30e939c60477bdf5e0f6da89181a0e46d4434bb958cd", func := "orrery/orrerylaw09.AesPads", spec := "aesPads", unfollowed := true, recurses := true, apart := false, narrowed := true }
def AesPadsUptoSaid : Prop := aesPadsUptoRow.holds Try.pinned (OpenSpec.upto aesPadsSpec)

/-- 'orrerylaw09.AesBack', WHERE WHAT IT READS IS OF BULK AT MOST 1048576: true; the input reads as it did. -/
def aesBackUptoRow : OpenClaim := { program := "ytgefampdfhbmbaa", sum := "1d9a8f67f460e86edc5d30e939c60477bdf5e0f6da89181a0e46d4434bb958cd", func := "orrery/orrerylaw09.AesBack", spec := "aesBack", unfollowed := true, recurses := true, apart := false, narrowed := true }
def AesBackUptoSaid : Prop := aesBackUptoRow.holds Try.pinned (OpenSpec.upto aesBackSpec)

/-- 'orrerylaw09.AesPieces', WHERE WHAT IT READS IS OF BULK AT MOST 1048576: true; the input reads as it did. -/
def aesPiecesUptoRow : OpenClaim := { program := "ytgefampdfhbmbaa", sum := "1d9a8f67f460e86edc5d30e939c60477bdf5e0f6da89181a0e46d4434bb958cd", func := "orrery/orrerylaw09.AesPieces", spec := "aesPieces", unfollowed := true, recurses := true, apart := false, narrowed := true }
def AesPiecesUptoSaid : Prop := aesPiecesUptoRow.holds Try.pinned (OpenSpec.upto aesPiecesSpec)

end Rows
end Go.Proofs.Ytgefampdfhbmbaa
