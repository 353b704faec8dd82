/-
  DERIVED. GIVEN WITH THE SEED: THE CARDS: each row of YtpemajghaceegabGreatDoorRows.lean that lists a variable, with what it lists TIED to the program's text (the seventh form; the later family's looks); each row that meets fmt, with fmt's text TOLD by the authors' own Lean function (tested against real Go, not proved from fmt's source: count such statements apart). THE CARD IS WHAT COUNTS. Prove the row's statement (the work); the ties are given (YtpemajghaceegabGreatDoorTie.lean); close each card by the builder's one call (the guide's Derived/Test/ToyasCard.lean, 'card_holds'). Laid BY PROGRAM, IN A SANDBOX (cutbox-door.mjs). By AI agents, Wed Nov 11 2026. No macro, syntax, notation, axiom, sorry.
-/
import Derived.Test.YtpemajghaceegabGreatDoorRows
import GoSem.ClaimSeven
namespace Go.Proofs.YtpemajghaceegabGreatDoor
namespace Rows

/-- THE TIED CARD OF 'orrerylaw21.HexfileTurned'. -/
def hexfileTurnedCard : Claim7 := { stood := { row := hexfileTurnedRow, standIns := [], harness := (true, "27c3428716082b6976c31386485c84bd565137f956e3e18c72e1565ba8337a1e"), looks := false }, kinds := [], alts := [], laidByText := true, laidKinds := [.data, .pinned], laidTests := true, laidLooks := .later }
def HexfileTurnedCardSaid : Prop := Claim7.holds Tryz.pinned (.plain (OpenSpec.ofChange hexfileTurnedSpec)) hexfileTurnedCard

/-- THE SECOND FORM's CARD OF 'orrerylaw21.HexfileTurned'. -/
def hexfileTurnedUptoCard : Claim7 := { stood := { row := hexfileTurnedUptoRow, standIns := [], harness := (true, "27c3428716082b6976c31386485c84bd565137f956e3e18c72e1565ba8337a1e"), looks := false }, kinds := [], alts := [], laidByText := true, laidKinds := [.data, .pinned], laidTests := true, laidLooks := .later }
def HexfileTurnedUptoCardSaid : Prop := Claim7.holds Tryz.pinned (.plain (OpenSpec.upto hexfileTurnedSpec)) hexfileTurnedUptoCard
end Rows
end Go.Proofs.YtpemajghaceegabGreatDoor
