/-
  No cell of these rows narrows 'for every input' (looked for: loops, veiled, ifaces, maps, wideKeys, modest, calm, conditions, laid).
  DERIVED. THE GIVEN ROWS OF THIS SEAT. 5 by the template 'for every input the law returns true; each argument reads behind the call as it read before'; 0 by the template 'total and deterministic' (their statements: YtjmaejdkdpiigaaTotals.lean).
  GIVEN WITH THE SEED: the statements are not yours to turn. If you find one false, say at which input.
  Laid BY PROGRAM, IN A SANDBOX (cutbox-rows.mjs): the forced cells as the released guide's own fill.sh prints them over the translation 1ba1f7a7f1fd6551… (all of the seat's roots in one cut). By AI agents, Wed Nov 11 2026. No macro, syntax, notation, axiom, sorry.
-/
import Derived.Test.YtjmaejdkdpiigaaChecked
import GoSem.Claim
import GoSem.ClaimJoined
import GoSem.ClaimMapViews
import Derived.JoinedTies
import Derived.KernelRfl
namespace Go.Proofs.Ytjmaejdkdpiigaa
/- THE CELL 'sum', in the pinned program and in every row, IS THE sha256 OF THE DUMP (.gsa) THAT YtjmaejdkdpiigaaProg.lean LOADS. Nothing in Lean hashes anything: it is a label: what it is worth is what the hold of that sum in a sandbox is worth. -/
noncomputable def Try.pinned : Pinned := { name := "ytjmaejdkdpiigaa", sum := "1ba1f7a7f1fd65510a18c92f916a286cdd63395c48cfde0bac8bff01190d95cf", checked := Try.checked }
namespace Rows
def none {H : Type} : Left H := { results := [], args := [] }

/-- 'orrerylaw10.EccWords': WHATEVER THE INPUT: true; the input reads as it did. -/
def eccWordsSpec : ChangeSpec := { name := "eccWords", fn := fun _ => fun
  | [d1, d2, d3, d4, d5] => { results := [.lit (.bool true)], args := [d1, d2, d3, d4, d5] }
  | _ => none }
def eccWordsRow : OpenClaim := { program := "ytjmaejdkdpiigaa", sum := "1ba1f7a7f1fd65510a18c92f916a286cdd63395c48cfde0bac8bff01190d95cf", func := "orrery/orrerylaw10.EccWords", spec := "eccWords", apart := false }
def EccWordsSaid : Prop := eccWordsRow.holds Try.pinned (OpenSpec.ofChange eccWordsSpec)

/-- ITS FALSE NEIGHBOUR: 'it returns false'. Refute it at one input. -/
def eccWordsWrong : ChangeSpec := { name := "eccWords", fn := fun _ => fun
  | [d1, d2, d3, d4, d5] => { results := [.lit (.bool false)], args := [d1, d2, d3, d4, d5] }
  | _ => none }
def EccWordsWrongFalsely : Prop := eccWordsRow.holds Try.pinned (OpenSpec.ofChange eccWordsWrong)

/-- 'orrerylaw10.EccDigits': WHATEVER THE INPUT: true; the input reads as it did. -/
def eccDigitsSpec : ChangeSpec := { name := "eccDigits", fn := fun _ => fun
  | [d] => { results := [.lit (.bool true)], args := [d] }
  | _ => none }
def eccDigitsRow : OpenClaim := { program := "ytjmaejdkdpiigaa", sum := "1ba1f7a7f1fd65510a18c92f916a286cdd63395c48cfde0bac8bff01190d95cf", func := "orrery/orrerylaw10.EccDigits", spec := "eccDigits", apart := false }
def EccDigitsSaid : Prop := eccDigitsRow.holds Try.pinned (OpenSpec.ofChange eccDigitsSpec)

/-- ITS FALSE NEIGHBOUR: 'it returns false'. Refute it at one input. -/
def eccDigitsWrong : ChangeSpec := { name := "eccDigits", fn := fun _ => fun
  | [d] => { results := [.lit (.bool false)], args := [d] }
  | _ => none }
def EccDigitsWrongFalsely : Prop := eccDigitsRow.holds Try.pinned (OpenSpec.ofChange eccDigitsWrong)

/-- 'orrerylaw10.EccMends': WHATEVER THE INPUT: true; the input reads as it did. -/
def eccMendsSpec : ChangeSpec := { name := "eccMends", fn := fun _ => fun
  | [d1, d2, d3, d4] => { results := [.lit (.bool true)], args := [d1, d2, d3, d4] }
  | _ => none }
def eccMendsRow : OpenClaim := { program := "ytjmaejdkdpiigaa", sum := "1ba1f7a7f1fd65510a18c92f916a286cdd63395c48cfde0bac8bff01190d95cf", func := "orrery/orrerylaw10.EccMends", spec := "eccMends", apart := false }
def EccMendsSaid : Prop := eccMendsRow.holds Try.pinned (OpenSpec.ofChange eccMendsSpec)

/-- ITS FALSE NEIGHBOUR: 'it returns false'. Refute it at one input. -/
def eccMendsWrong : ChangeSpec := { name := "eccMends", fn := fun _ => fun
  | [d1, d2, d3, d4] => { results := [.lit (.bool false)], args := [d1, d2, d3, d4] }
  | _ => none }
def EccMendsWrongFalsely : Prop := eccMendsRow.holds Try.pinned (OpenSpec.ofChange eccMendsWrong)

/-- 'orrerylaw10.EccApart': WHATEVER THE INPUT: true; the input reads as it did. -/
def eccApartSpec : ChangeSpec := { name := "eccApart", fn := fun _ => fun
  | [d1, d2, d3] => { results := [.lit (.bool true)], args := [d1, d2, d3] }
  | _ => none }
def eccApartRow : OpenClaim := { program := "ytjmaejdkdpiigaa", sum := "1ba1f7a7f1fd65510a18c92f916a286cdd63395c48cfde0bac8bff01190d95cf", func := "orrery/orrerylaw10.EccApart", spec := "eccApart", apart := false }
def EccApartSaid : Prop := eccApartRow.holds Try.pinned (OpenSpec.ofChange eccApartSpec)

/-- ITS FALSE NEIGHBOUR: 'it returns false'. Refute it at one input. -/
def eccApartWrong : ChangeSpec := { name := "eccApart", fn := fun _ => fun
  | [d1, d2, d3] => { results := [.lit (.bool false)], args := [d1, d2, d3] }
  | _ => none }
def EccApartWrongFalsely : Prop := eccApartRow.holds Try.pinned (OpenSpec.ofChange eccApartWrong)

/-- 'orrerylaw10.EccGroup': WHATEVER THE INPUT: true; the input reads as it did. -/
def eccGroupSpec : ChangeSpec := { name := "eccGroup", fn := fun _ => fun
  | [d1, d2, d3] => { results := [.lit (.bool true)], args := [d1, d2, d3] }
  | _ => none }
def eccGroupRow : OpenClaim := { program := "ytjmaejdkdpiigaa", sum := "1ba1f7a7f1fd65510a18c92f916a286cdd63395c48cfde0bac8bff01190d95cf", func := "orrery/orrerylaw10.EccGroup", spec := "eccGroup", apart := false }
def EccGroupSaid : Prop := eccGroupRow.holds Try.pinned (OpenSpec.ofChange eccGroupSpec)

/-- ITS FALSE NEIGHBOUR: 'it returns false'. Refute it at one input. -/
def eccGroupWrong : ChangeSpec := { name := "eccGroup", fn := fun _ => fun
  | [d1, d2, d3] => { results := [.lit (.bool false)], args := [d1, d2, d3] }
  | _ => none }
def EccGroupWrongFalsely : Prop := eccGroupRow.holds Try.pinned (OpenSpec.ofChange eccGroupWrong)

/- THE SECOND FORM. 'bulk': how many values and letters a reading holds, each counted each time it is reached (what is shared counts as often as it is met; a slice's spare places count too). A statement '..UptoSaid' is the law's where the arguments, and the package variables that the reading takes, are together of bulk at most 1048576: NARROWER than '..Said'. Prove '..Said' where nothing that the law and all that it calls make is longer than what came in: it says more and counts as full. Else prove '..UptoSaid'. A law counts once. -/
mutual
def uptoBulk {H : Type} : DataW H → Nat
  | .lit (.string bytes) => bytes.length + 1
  | .lit _ => 1
  | .nil => 1
  | .ptr d => uptoBulk d + 1
  | .slice elems spare => uptoBulkAll elems + uptoBulkAll spare + 1
  | .agg parts => uptoBulkAll parts + 1
  | .iface _ d => uptoBulk d + 1
  | .map entries => uptoBulkEntries entries + 1
  | .held _ => 1
def uptoBulkAll {H : Type} : List (DataW H) → Nat
  | [] => 0
  | d :: r => uptoBulk d + uptoBulkAll r
def uptoBulkEntries {H : Type} : List (Lit × DataW H) → Nat
  | [] => 0
  | x :: r => uptoBulkEntry x + uptoBulkEntries r
def uptoBulkEntry {H : Type} : Lit × DataW H → Nat
  | (.string bytes, d) => bytes.length + uptoBulk d + 1
  | (_, d) => uptoBulk d + 1
 end
def uptoSmall : (H : Type) → List (DataW H) → Bool := fun _ ds => decide (uptoBulkAll ds ≤ 1048576)
def OpenSpec.upto (s : _root_.Go.ChangeSpec) : _root_.Go.OpenSpec := { _root_.Go.OpenSpec.ofChange s with cond := some uptoSmall }

/-- 'orrerylaw10.EccWords', WHERE WHAT IT READS IS OF BULK AT MOST 1048576: true; the input reads as it did. -/
def eccWordsUptoRow : OpenClaim := { program := "ytjmaejdkdpiigaa", sum := "1ba1f7a7f1fd65510a18c92f916a286cdd63395c48cfde0bac8bff01190d95cf", func := "orrery/orrerylaw10.EccWords", spec := "eccWords", apart := false, narrowed := true }
def EccWordsUptoSaid : Prop := eccWordsUptoRow.holds Try.pinned (OpenSpec.upto eccWordsSpec)

/-- 'orrerylaw10.EccDigits', WHERE WHAT IT READS IS OF BULK AT MOST 1048576: true; the input reads as it did. -/
def eccDigitsUptoRow : OpenClaim := { program := "ytjmaejdkdpiigaa", sum := "1ba1f7a7f1fd65510a18c92f916a286cdd63395c48cfde0bac8bff01190d95cf", func := "orrery/orrerylaw10.EccDigits", spec := "eccDigits", apart := false, narrowed := true }
def EccDigitsUptoSaid : Prop := eccDigitsUptoRow.holds Try.pinned (OpenSpec.upto eccDigitsSpec)

/-- 'orrerylaw10.EccMends', WHERE WHAT IT READS IS OF BULK AT MOST 1048576: true; the input reads as it did. -/
def eccMendsUptoRow : OpenClaim := { program := "ytjmaejdkdpiigaa", sum := "1ba1f7a7f1fd65510a18c92f916a286cdd63395c48cfde0bac8bff01190d95cf", func := "orrery/orrerylaw10.EccMends", spec := "eccMends", apart := false, narrowed := true }
def EccMendsUptoSaid : Prop := eccMendsUptoRow.holds Try.pinned (OpenSpec.upto eccMendsSpec)

/-- 'orrerylaw10.EccApart', WHERE WHAT IT READS IS OF BULK AT MOST 1048576: true; the input reads as it did. -/
def eccApartUptoRow : OpenClaim := { program := "ytjmaejdkdpiigaa", sum := "1ba1f7a7f1fd65510a18c92f916a286cdd63395c48cfde0bac8bff01190d95cf", func := "orrery/orrerylaw10.EccApart", spec := "eccApart", apart := false, narrowed := true }
def EccApartUptoSaid : Prop := eccApartUptoRow.holds Try.pinned (OpenSpec.upto eccApartSpec)

/-- 'orrerylaw10.EccGroup', WHERE WHAT IT READS IS OF BULK AT MOST 1048576: true; the input reads as it did. -/
def eccGroupUptoRow : OpenClaim := { program := "ytjmaejdkdpiigaa", sum := "1ba1f7a7f1fd65510a18c92f916a286cdd63395c48cfde0bac8bff01190d95cf", func := "orrery/orrerylaw10.EccGroup", spec := "eccGroup", apart := false, narrowed := true }
def EccGroupUptoSaid : Prop := eccGroupUptoRow.holds Try.pinned (OpenSpec.upto eccGroupSpec)

end Rows
end Go.Proofs.Ytjmaejdkdpiigaa
