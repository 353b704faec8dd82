/-
  No cell of these rows narrows 'for every input' (looked for: loops, veiled, ifaces, maps, wideKeys, modest, calm, conditions, laid).
  DERIVED. THE GIVEN ROWS OF THIS SEAT. 4 by the template 'for every input the law returns true; each argument reads behind the call as it read before'; 0 by the template 'total and deterministic' (their statements: YtjpcndhdlbkilaaTotals.lean).
  GIVEN WITH THE SEED: the statements are not yours to turn. If you find one false, say at which input.
  Laid BY PROGRAM, IN A SANDBOX (cutbox-rows.mjs): the forced cells as the released guide's own fill.sh prints them over the translation 2fd77aa279ea487a… (all of the seat's roots in one cut). By AI agents, Wed Nov 11 2026. No macro, syntax, notation, axiom, sorry.
-/
import Derived.Test.YtjpcndhdlbkilaaChecked
import GoSem.Claim
import GoSem.ClaimJoined
import GoSem.ClaimMapViews
import Derived.JoinedTies
import Derived.KernelRfl
namespace Go.Proofs.Ytjpcndhdlbkilaa
/- THE CELL 'sum', in the pinned program and in every row, IS THE sha256 OF THE DUMP (.gsa) THAT YtjpcndhdlbkilaaProg.lean LOADS. Nothing in Lean hashes anything: it is a label: what it is worth is what the hold of that sum in a sandbox is worth. -/
noncomputable def Try.pinned : Pinned := { name := "ytjpcndhdlbkilaa", sum := "2fd77aa279ea487a8097d81ee7b4689ad13e2a77d24ca25657beb14d72786e74", checked := Try.checked }
namespace Rows
def none {H : Type} : Left H := { results := [], args := [] }

/-- 'orrerylaw08.ShaExtends': WHATEVER THE INPUT: true; the input reads as it did. -/
def shaExtendsSpec : ChangeSpec := { name := "shaExtends", fn := fun _ => fun
  | [d1, d2, d3] => { results := [.lit (.bool true)], args := [d1, d2, d3] }
  | _ => none }
def shaExtendsRow : OpenClaim := { program := "ytjpcndhdlbkilaa", sum := "2fd77aa279ea487a8097d81ee7b4689ad13e2a77d24ca25657beb14d72786e74", func := "orrery/orrerylaw08.ShaExtends", spec := "shaExtends", inPlace := ["math/bits.Add64"], apart := false }
def ShaExtendsSaid : Prop := shaExtendsRow.holds Try.pinned (OpenSpec.ofChange shaExtendsSpec)

/-- ITS FALSE NEIGHBOUR: 'it returns false'. Refute it at one input. -/
def shaExtendsWrong : ChangeSpec := { name := "shaExtends", fn := fun _ => fun
  | [d1, d2, d3] => { results := [.lit (.bool false)], args := [d1, d2, d3] }
  | _ => none }
def ShaExtendsWrongFalsely : Prop := shaExtendsRow.holds Try.pinned (OpenSpec.ofChange shaExtendsWrong)

/-- 'orrerylaw08.ShaCut': WHATEVER THE INPUT: true; the input reads as it did. -/
def shaCutSpec : ChangeSpec := { name := "shaCut", fn := fun _ => fun
  | [d1, d2, d3] => { results := [.lit (.bool true)], args := [d1, d2, d3] }
  | _ => none }
def shaCutRow : OpenClaim := { program := "ytjpcndhdlbkilaa", sum := "2fd77aa279ea487a8097d81ee7b4689ad13e2a77d24ca25657beb14d72786e74", func := "orrery/orrerylaw08.ShaCut", spec := "shaCut", inPlace := ["math/bits.Add64"], apart := false }
def ShaCutSaid : Prop := shaCutRow.holds Try.pinned (OpenSpec.ofChange shaCutSpec)

/-- ITS FALSE NEIGHBOUR: 'it returns false'. Refute it at one input. -/
def shaCutWrong : ChangeSpec := { name := "shaCut", fn := fun _ => fun
  | [d1, d2, d3] => { results := [.lit (.bool false)], args := [d1, d2, d3] }
  | _ => none }
def ShaCutWrongFalsely : Prop := shaCutRow.holds Try.pinned (OpenSpec.ofChange shaCutWrong)

/-- 'orrerylaw08.ShaKeys': WHATEVER THE INPUT: true; the input reads as it did. -/
def shaKeysSpec : ChangeSpec := { name := "shaKeys", fn := fun _ => fun
  | [d1, d2, d3, d4] => { results := [.lit (.bool true)], args := [d1, d2, d3, d4] }
  | _ => none }
def shaKeysRow : OpenClaim := { program := "ytjpcndhdlbkilaa", sum := "2fd77aa279ea487a8097d81ee7b4689ad13e2a77d24ca25657beb14d72786e74", func := "orrery/orrerylaw08.ShaKeys", spec := "shaKeys", inPlace := ["math/bits.Add64"], apart := false }
def ShaKeysSaid : Prop := shaKeysRow.holds Try.pinned (OpenSpec.ofChange shaKeysSpec)

/-- ITS FALSE NEIGHBOUR: 'it returns false'. Refute it at one input. -/
def shaKeysWrong : ChangeSpec := { name := "shaKeys", fn := fun _ => fun
  | [d1, d2, d3, d4] => { results := [.lit (.bool false)], args := [d1, d2, d3, d4] }
  | _ => none }
def ShaKeysWrongFalsely : Prop := shaKeysRow.holds Try.pinned (OpenSpec.ofChange shaKeysWrong)

/-- 'orrerylaw08.ShaFewer': WHATEVER THE INPUT: true; the input reads as it did. -/
def shaFewerSpec : ChangeSpec := { name := "shaFewer", fn := fun _ => fun
  | [d1, d2, d3, d4, d5, d6] => { results := [.lit (.bool true)], args := [d1, d2, d3, d4, d5, d6] }
  | _ => none }
def shaFewerRow : OpenClaim := { program := "ytjpcndhdlbkilaa", sum := "2fd77aa279ea487a8097d81ee7b4689ad13e2a77d24ca25657beb14d72786e74", func := "orrery/orrerylaw08.ShaFewer", spec := "shaFewer", inPlace := ["math/bits.Add64"], unfollowed := true, recurses := true, apart := false }
def ShaFewerSaid : Prop := shaFewerRow.holds Try.pinned (OpenSpec.ofChange shaFewerSpec)

/-- ITS FALSE NEIGHBOUR: 'it returns false'. Refute it at one input. -/
def shaFewerWrong : ChangeSpec := { name := "shaFewer", fn := fun _ => fun
  | [d1, d2, d3, d4, d5, d6] => { results := [.lit (.bool false)], args := [d1, d2, d3, d4, d5, d6] }
  | _ => none }
def ShaFewerWrongFalsely : Prop := shaFewerRow.holds Try.pinned (OpenSpec.ofChange shaFewerWrong)

/- THE SECOND FORM. 'bulk': how many values and letters a reading holds, each counted each time it is reached (what is shared counts as often as it is met; a slice's spare places count too). A statement '..UptoSaid' is the law's where the arguments, and the package variables that the reading takes, are together of bulk at most 1048576: NARROWER than '..Said'. Prove '..Said' where nothing that the law and all that it calls make is longer than what came in: it says more and counts as full. Else prove '..UptoSaid'. A law counts once. -/
mutual
def uptoBulk {H : Type} : DataW H → Nat
  | .lit (.string bytes) => bytes.length + 1
  | .lit _ => 1
  | .nil => 1
  | .ptr d => uptoBulk d + 1
  | .slice elems spare => uptoBulkAll elems + uptoBulkAll spare + 1
  | .agg parts => uptoBulkAll parts + 1
  | .iface _ d => uptoBulk d + 1
  | .map entries => uptoBulkEntries entries + 1
  | .held _ => 1
def uptoBulkAll {H : Type} : List (DataW H) → Nat
  | [] => 0
  | d :: r => uptoBulk d + uptoBulkAll r
def uptoBulkEntries {H : Type} : List (Lit × DataW H) → Nat
  | [] => 0
  | x :: r => uptoBulkEntry x + uptoBulkEntries r
def uptoBulkEntry {H : Type} : Lit × DataW H → Nat
  | (.string bytes, d) => bytes.length + uptoBulk d + 1
  | (_, d) => uptoBulk d + 1
 end
def uptoSmall : (H : Type) → List (DataW H) → Bool := fun _ ds => decide (uptoBulkAll ds ≤ 1048576)
def OpenSpec.upto (s : _root_.Go.ChangeSpec) : _root_.Go.OpenSpec := { _root_.Go.OpenSpec.ofChange s with cond := some uptoSmall }

/-- 'orrerylaw08.ShaExtends', WHERE WHAT IT READS IS OF BULK AT MOST 1048576: true; the input reads as it did. -/
def shaExtendsUptoRow : OpenClaim := { program := "ytjpcndhdlbkilaa", sum := "2fd77aa279ea487a8097d81ee7b4689ad13e2a77d24ca25657beb14d72786e74", func := "orrery/orrerylaw08.ShaExtends", spec := "shaExtends", inPlace := ["math/bits.Add64"], apart := false, narrowed := true }
def ShaExtendsUptoSaid : Prop := shaExtendsUptoRow.holds Try.pinned (OpenSpec.upto shaExtendsSpec)

/-- 'orrerylaw08.ShaCut', WHERE WHAT IT READS IS OF BULK AT MOST 1048576: true; the input reads as it did. -/
def shaCutUptoRow : OpenClaim := { program := "ytjpcndhdlbkilaa", sum := "2fd77aa279ea487a8097d81ee7b4689ad13e2a77d24ca25657beb14d72786e74", func := "orrery/orrerylaw08.ShaCut", spec := "shaCut", inPlace := ["math/bits.Add64"], apart := false, narrowed := true }
def ShaCutUptoSaid : Prop := shaCutUptoRow.holds Try.pinned (OpenSpec.upto shaCutSpec)

/-- 'orrerylaw08.ShaKeys', WHERE WHAT IT READS IS OF BULK AT MOST 1048576: true; the input reads as it did. -/
def shaKeysUptoRow : OpenClaim := { program := "ytjpcndhdlbkilaa", sum := "2fd77aa279ea487a8097d81ee7b4689ad13e2a77d24ca25657beb14d72786e74", func := "orrery/orrerylaw08.ShaKeys", spec := "shaKeys", inPlace := ["math/bits.Add64"], apart := false, narrowed := true }
def ShaKeysUptoSaid : Prop := shaKeysUptoRow.holds Try.pinned (OpenSpec.upto shaKeysSpec)

/-- 'orrerylaw08.ShaFewer', WHERE WHAT IT READS IS OF BULK AT MOST 1048576: true; the input reads as it did. -/
def shaFewerUptoRow : OpenClaim := { program := "ytjpcndhdlbkilaa", sum := "2fd77aa279ea487a8097d81ee7b4689ad13e2a77d24ca25657beb14d72786e74", func := "orrery/orrerylaw08.ShaFewer", spec := "shaFewer", inPlace := ["math/bits.Add64"], unfollowed := true, recurses := true, apart := false, narrowed := true }
def ShaFewerUptoSaid : Prop := shaFewerUptoRow.holds Try.pinned (OpenSpec.upto shaFewerSpec)

end Rows
end Go.Proofs.Ytjpcndhdlbkilaa
