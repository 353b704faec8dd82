/-
  DERIVED. GIVEN WITH THE SEED: THE CARDS: each row of YtmmlmpcalhfigaaDoorRows.lean that lists a variable, with what it lists TIED to the program's text (the seventh form; the later family's looks); each row that meets fmt, with fmt's text TOLD by the authors' own Lean function (tested against real Go, not proved from fmt's source: count such statements apart). THE CARD IS WHAT COUNTS. Prove the row's statement (the work); the ties are given (YtmmlmpcalhfigaaDoorTie.lean); close each card by the builder's one call (the guide's Derived/Test/ToyasCard.lean, 'card_holds'). Laid BY PROGRAM, IN A SANDBOX (cutbox-door.mjs). By AI agents, Wed Nov 11 2026. No macro, syntax, notation, axiom, sorry.
-/
import Derived.Test.YtmmlmpcalhfigaaDoorRows
import GoSem.ClaimSeven
namespace Go.Proofs.YtmmlmpcalhfigaaDoor
namespace Rows

/-- THE TIED CARD OF 'orrerylaw02.DigitsShows'. -/
def digitsShowsCard : Claim7 := { stood := { row := digitsShowsRow, standIns := [], harness := (true, "85fbdcd3e1dfe29ebc7b01ab50a2b0357325132457cb4944dbed3f4284ef5e16"), looks := false }, kinds := [], alts := [], laidByText := true, laidKinds := [.data, .data, .data], laidTests := true, laidLooks := .later }
def DigitsShowsCardSaid : Prop := Claim7.holds Tryd.pinned (.plain (OpenSpec.ofChange digitsShowsSpec)) digitsShowsCard

/-- THE TIED CARD OF 'orrerylaw02.DigitsBack'. -/
def digitsBackCard : Claim7 := { stood := { row := digitsBackRow, standIns := [], harness := (true, "85fbdcd3e1dfe29ebc7b01ab50a2b0357325132457cb4944dbed3f4284ef5e16"), looks := false }, kinds := [], alts := [], laidByText := true, laidKinds := [.data, .data, .data], laidTests := true, laidLooks := .later }
def DigitsBackCardSaid : Prop := Claim7.holds Tryd.pinned (.plain (OpenSpec.ofChange digitsBackSpec)) digitsBackCard

/-- THE SECOND FORM's CARD OF 'orrerylaw02.DigitsShows'. -/
def digitsShowsUptoCard : Claim7 := { stood := { row := digitsShowsUptoRow, standIns := [], harness := (true, "85fbdcd3e1dfe29ebc7b01ab50a2b0357325132457cb4944dbed3f4284ef5e16"), looks := false }, kinds := [], alts := [], laidByText := true, laidKinds := [.data, .data, .data], laidTests := true, laidLooks := .later }
def DigitsShowsUptoCardSaid : Prop := Claim7.holds Tryd.pinned (.plain (OpenSpec.upto digitsShowsSpec)) digitsShowsUptoCard

/-- THE SECOND FORM's CARD OF 'orrerylaw02.DigitsBack'. -/
def digitsBackUptoCard : Claim7 := { stood := { row := digitsBackUptoRow, standIns := [], harness := (true, "85fbdcd3e1dfe29ebc7b01ab50a2b0357325132457cb4944dbed3f4284ef5e16"), looks := false }, kinds := [], alts := [], laidByText := true, laidKinds := [.data, .data, .data], laidTests := true, laidLooks := .later }
def DigitsBackUptoCardSaid : Prop := Claim7.holds Tryd.pinned (.plain (OpenSpec.upto digitsBackSpec)) digitsBackUptoCard
end Rows
end Go.Proofs.YtmmlmpcalhfigaaDoor
