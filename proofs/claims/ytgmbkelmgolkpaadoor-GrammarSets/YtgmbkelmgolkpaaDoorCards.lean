/-
  DERIVED. GIVEN WITH THE SEED: THE CARDS: each row of YtgmbkelmgolkpaaDoorRows.lean that lists a variable, with what it lists TIED to the program's text (the seventh form; the later family's looks); each row that meets fmt, with fmt's text TOLD by the authors' own Lean function (tested against real Go, not proved from fmt's source: count such statements apart). THE CARD IS WHAT COUNTS. Prove the row's statement (the work); the ties are given (YtgmbkelmgolkpaaDoorTie.lean); close each card by the builder's one call (the guide's Derived/Test/ToyasCard.lean, 'card_holds'). Laid BY PROGRAM, IN A SANDBOX (cutbox-door.mjs). By AI agents, Wed Nov 11 2026. No macro, syntax, notation, axiom, sorry.
-/
import Derived.Test.YtgmbkelmgolkpaaDoorRows
import GoSem.ClaimSeven
namespace Go.Proofs.YtgmbkelmgolkpaaDoor
namespace Rows

/-- THE TIED CARD OF 'orrerylaw13.GrammarParses'. -/
def grammarParsesCard : Claim7 := { stood := { row := grammarParsesRow, standIns := [], harness := (true, "85390b10770536576f31c28bba47bb44016c9dfa4371f2a273d2192678b64ed6"), looks := false }, kinds := [], alts := [], laidByText := true, laidKinds := [.data, .pinned], laidTests := true, laidLooks := .later }
def GrammarParsesCardSaid : Prop := Claim7.holds Tryd.pinned (.plain (OpenSpec.ofChange grammarParsesSpec)) grammarParsesCard

/-- THE TIED CARD OF 'orrerylaw13.GrammarMakes'. -/
def grammarMakesCard : Claim7 := { stood := { row := grammarMakesRow, standIns := [], harness := (true, "85390b10770536576f31c28bba47bb44016c9dfa4371f2a273d2192678b64ed6"), looks := false }, kinds := [], alts := [], laidByText := true, laidKinds := [.data, .pinned], laidTests := true, laidLooks := .later }
def GrammarMakesCardSaid : Prop := Claim7.holds Tryd.pinned (.plain (OpenSpec.ofChange grammarMakesSpec)) grammarMakesCard

/-- THE TIED CARD OF 'orrerylaw13.GrammarSets'. -/
def grammarSetsCard : Claim7 := { stood := { row := grammarSetsRow, standIns := [], harness := (true, "85390b10770536576f31c28bba47bb44016c9dfa4371f2a273d2192678b64ed6"), looks := false }, kinds := [], alts := [], laidByText := true, laidKinds := [.data, .pinned], laidTests := true, laidLooks := .later }
def GrammarSetsCardSaid : Prop := Claim7.holds Tryd.pinned (.plain (OpenSpec.ofChange grammarSetsSpec)) grammarSetsCard

/-- THE TIED CARD OF 'orrerylaw13.GrammarLeast'. -/
def grammarLeastCard : Claim7 := { stood := { row := grammarLeastRow, standIns := [], harness := (true, "85390b10770536576f31c28bba47bb44016c9dfa4371f2a273d2192678b64ed6"), looks := false }, kinds := [], alts := [], laidByText := true, laidKinds := [.data, .pinned], laidTests := true, laidLooks := .later }
def GrammarLeastCardSaid : Prop := Claim7.holds Tryd.pinned (.plain (OpenSpec.ofChange grammarLeastSpec)) grammarLeastCard

/-- THE TIED CARD OF 'orrerylaw13.GrammarReplays'. -/
def grammarReplaysCard : Claim7 := { stood := { row := grammarReplaysRow, standIns := [], harness := (true, "85390b10770536576f31c28bba47bb44016c9dfa4371f2a273d2192678b64ed6"), looks := false }, kinds := [], alts := [], laidByText := true, laidKinds := [.data, .pinned], laidTests := true, laidLooks := .later }
def GrammarReplaysCardSaid : Prop := Claim7.holds Tryd.pinned (.plain (OpenSpec.ofChange grammarReplaysSpec)) grammarReplaysCard

/-- THE TIED CARD OF 'orrerylaw13.GrammarClosed'. -/
def grammarClosedCard : Claim7 := { stood := { row := grammarClosedRow, standIns := [], harness := (true, "85390b10770536576f31c28bba47bb44016c9dfa4371f2a273d2192678b64ed6"), looks := false }, kinds := [], alts := [], laidByText := true, laidKinds := [.data, .pinned], laidTests := true, laidLooks := .later }
def GrammarClosedCardSaid : Prop := Claim7.holds Tryd.pinned (.plain (OpenSpec.ofChange grammarClosedSpec)) grammarClosedCard

/-- THE SECOND FORM's CARD OF 'orrerylaw13.GrammarParses'. -/
def grammarParsesUptoCard : Claim7 := { stood := { row := grammarParsesUptoRow, standIns := [], harness := (true, "85390b10770536576f31c28bba47bb44016c9dfa4371f2a273d2192678b64ed6"), looks := false }, kinds := [], alts := [], laidByText := true, laidKinds := [.data, .pinned], laidTests := true, laidLooks := .later }
def GrammarParsesUptoCardSaid : Prop := Claim7.holds Tryd.pinned (.plain (OpenSpec.upto grammarParsesSpec)) grammarParsesUptoCard

/-- THE SECOND FORM's CARD OF 'orrerylaw13.GrammarMakes'. -/
def grammarMakesUptoCard : Claim7 := { stood := { row := grammarMakesUptoRow, standIns := [], harness := (true, "85390b10770536576f31c28bba47bb44016c9dfa4371f2a273d2192678b64ed6"), looks := false }, kinds := [], alts := [], laidByText := true, laidKinds := [.data, .pinned], laidTests := true, laidLooks := .later }
def GrammarMakesUptoCardSaid : Prop := Claim7.holds Tryd.pinned (.plain (OpenSpec.upto grammarMakesSpec)) grammarMakesUptoCard

/-- THE SECOND FORM's CARD OF 'orrerylaw13.GrammarSets'. -/
def grammarSetsUptoCard : Claim7 := { stood := { row := grammarSetsUptoRow, standIns := [], harness := (true, "85390b10770536576f31c28bba47bb44016c9dfa4371f2a273d2192678b64ed6"), looks := false }, kinds := [], alts := [], laidByText := true, laidKinds := [.data, .pinned], laidTests := true, laidLooks := .later }
def GrammarSetsUptoCardSaid : Prop := Claim7.holds Tryd.pinned (.plain (OpenSpec.upto grammarSetsSpec)) grammarSetsUptoCard

/-- THE SECOND FORM's CARD OF 'orrerylaw13.GrammarLeast'. -/
def grammarLeastUptoCard : Claim7 := { stood := { row := grammarLeastUptoRow, standIns := [], harness := (true, "85390b10770536576f31c28bba47bb44016c9dfa4371f2a273d2192678b64ed6"), looks := false }, kinds := [], alts := [], laidByText := true, laidKinds := [.data, .pinned], laidTests := true, laidLooks := .later }
def GrammarLeastUptoCardSaid : Prop := Claim7.holds Tryd.pinned (.plain (OpenSpec.upto grammarLeastSpec)) grammarLeastUptoCard

/-- THE SECOND FORM's CARD OF 'orrerylaw13.GrammarReplays'. -/
def grammarReplaysUptoCard : Claim7 := { stood := { row := grammarReplaysUptoRow, standIns := [], harness := (true, "85390b10770536576f31c28bba47bb44016c9dfa4371f2a273d2192678b64ed6"), looks := false }, kinds := [], alts := [], laidByText := true, laidKinds := [.data, .pinned], laidTests := true, laidLooks := .later }
def GrammarReplaysUptoCardSaid : Prop := Claim7.holds Tryd.pinned (.plain (OpenSpec.upto grammarReplaysSpec)) grammarReplaysUptoCard

/-- THE SECOND FORM's CARD OF 'orrerylaw13.GrammarClosed'. -/
def grammarClosedUptoCard : Claim7 := { stood := { row := grammarClosedUptoRow, standIns := [], harness := (true, "85390b10770536576f31c28bba47bb44016c9dfa4371f2a273d2192678b64ed6"), looks := false }, kinds := [], alts := [], laidByText := true, laidKinds := [.data, .pinned], laidTests := true, laidLooks := .later }
def GrammarClosedUptoCardSaid : Prop := Claim7.holds Tryd.pinned (.plain (OpenSpec.upto grammarClosedSpec)) grammarClosedUptoCard
end Rows
end Go.Proofs.YtgmbkelmgolkpaaDoor
