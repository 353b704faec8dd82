/-
  DERIVED. GIVEN WITH THE SEED: THE CARDS: each row of YtgmbkelmgolkpabDoorRows.lean that lists a variable, with what it lists TIED to the program's text (the seventh form; the later family's looks); each row that meets fmt, with fmt's text TOLD by the authors' own Lean function (tested against real Go, not proved from fmt's source: count such statements apart). THE CARD IS WHAT COUNTS. Prove the row's statement (the work); the ties are given (YtgmbkelmgolkpabDoorTie.lean); close each card by the builder's one call (the guide's Derived/Test/ToyasCard.lean, 'card_holds'). Laid BY PROGRAM, IN A SANDBOX (cutbox-door.mjs). By AI agents, Wed Nov 11 2026. No macro, syntax, notation, axiom, sorry.
-/
import Derived.Test.YtgmbkelmgolkpabDoorRows
import GoSem.ClaimSeven
namespace Go.Proofs.YtgmbkelmgolkpabDoor
namespace Rows

/-- THE TIED CARD OF 'orrerylaw13.GrammarLasts'. -/
def grammarLastsCard : Claim7 := { stood := { row := grammarLastsRow, standIns := [], harness := (true, "0fbebccc7784ec174393bdad283b9631b65bcacde1c9b10c9497d2fb89d29872"), looks := false }, kinds := [], alts := [], laidByText := true, laidKinds := [.data, .pinned], laidTests := true, laidLooks := .later }
def GrammarLastsCardSaid : Prop := Claim7.holds Tryd.pinned (.plain (OpenSpec.ofChange grammarLastsSpec)) grammarLastsCard

/-- THE TIED CARD OF 'orrerylaw13.GrammarBack'. -/
def grammarBackCard : Claim7 := { stood := { row := grammarBackRow, standIns := [], harness := (true, "0fbebccc7784ec174393bdad283b9631b65bcacde1c9b10c9497d2fb89d29872"), looks := false }, kinds := [], alts := [], laidByText := true, laidKinds := [.data, .pinned], laidTests := true, laidLooks := .later }
def GrammarBackCardSaid : Prop := Claim7.holds Tryd.pinned (.plain (OpenSpec.ofChange grammarBackSpec)) grammarBackCard

/-- THE TIED CARD OF 'orrerylaw13.GrammarNils'. -/
def grammarNilsCard : Claim7 := { stood := { row := grammarNilsRow, standIns := [], harness := (true, "0fbebccc7784ec174393bdad283b9631b65bcacde1c9b10c9497d2fb89d29872"), looks := false }, kinds := [], alts := [], laidByText := true, laidKinds := [.data, .pinned], laidTests := true, laidLooks := .later }
def GrammarNilsCardSaid : Prop := Claim7.holds Tryd.pinned (.plain (OpenSpec.ofChange grammarNilsSpec)) grammarNilsCard

/-- THE SECOND FORM's CARD OF 'orrerylaw13.GrammarLasts'. -/
def grammarLastsUptoCard : Claim7 := { stood := { row := grammarLastsUptoRow, standIns := [], harness := (true, "0fbebccc7784ec174393bdad283b9631b65bcacde1c9b10c9497d2fb89d29872"), looks := false }, kinds := [], alts := [], laidByText := true, laidKinds := [.data, .pinned], laidTests := true, laidLooks := .later }
def GrammarLastsUptoCardSaid : Prop := Claim7.holds Tryd.pinned (.plain (OpenSpec.upto grammarLastsSpec)) grammarLastsUptoCard

/-- THE SECOND FORM's CARD OF 'orrerylaw13.GrammarBack'. -/
def grammarBackUptoCard : Claim7 := { stood := { row := grammarBackUptoRow, standIns := [], harness := (true, "0fbebccc7784ec174393bdad283b9631b65bcacde1c9b10c9497d2fb89d29872"), looks := false }, kinds := [], alts := [], laidByText := true, laidKinds := [.data, .pinned], laidTests := true, laidLooks := .later }
def GrammarBackUptoCardSaid : Prop := Claim7.holds Tryd.pinned (.plain (OpenSpec.upto grammarBackSpec)) grammarBackUptoCard

/-- THE SECOND FORM's CARD OF 'orrerylaw13.GrammarNils'. -/
def grammarNilsUptoCard : Claim7 := { stood := { row := grammarNilsUptoRow, standIns := [], harness := (true, "0fbebccc7784ec174393bdad283b9631b65bcacde1c9b10c9497d2fb89d29872"), looks := false }, kinds := [], alts := [], laidByText := true, laidKinds := [.data, .pinned], laidTests := true, laidLooks := .later }
def GrammarNilsUptoCardSaid : Prop := Claim7.holds Tryd.pinned (.plain (OpenSpec.upto grammarNilsSpec)) grammarNilsUptoCard
end Rows
end Go.Proofs.YtgmbkelmgolkpabDoor
