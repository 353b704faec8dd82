/-
  DERIVED. GIVEN WITH THE SEED: THE CARDS: each row of YtpemajghaceegaaGreatDoorRows.lean that lists a variable, with what it lists TIED to the program's text (the seventh form; the later family's looks); each row that meets fmt, with fmt's text TOLD by the authors' own Lean function (tested against real Go, not proved from fmt's source: count such statements apart). THE CARD IS WHAT COUNTS. Prove the row's statement (the work); the ties are given (YtpemajghaceegaaGreatDoorTie.lean); close each card by the builder's one call (the guide's Derived/Test/ToyasCard.lean, 'card_holds'). Laid BY PROGRAM, IN A SANDBOX (cutbox-door.mjs). By AI agents, Wed Nov 11 2026. No macro, syntax, notation, axiom, sorry.
-/
import Derived.Test.YtpemajghaceegaaGreatDoorRows
import GoSem.ClaimSeven
namespace Go.Proofs.YtpemajghaceegaaGreatDoor
namespace Rows

/-- THE TIED CARD OF 'orrerylaw21.HexfileMerges'. -/
def hexfileMergesCard : Claim7 := { stood := { row := hexfileMergesRow, standIns := [], harness := (true, "80062f28a41dc03c1c3a7bc45f8e842d193fdb55af1f04e59b48087c3b0bf848"), looks := false }, kinds := [], alts := [], laidByText := true, laidKinds := [.data, .pinned], laidTests := true, laidLooks := .later }
def HexfileMergesCardSaid : Prop := Claim7.holds Tryz.pinned (.plain (OpenSpec.ofChange hexfileMergesSpec)) hexfileMergesCard

/-- THE TIED CARD OF 'orrerylaw21.HexfileRecords'. -/
def hexfileRecordsCard : Claim7 := { stood := { row := hexfileRecordsRow, standIns := [], harness := (true, "80062f28a41dc03c1c3a7bc45f8e842d193fdb55af1f04e59b48087c3b0bf848"), looks := false }, kinds := [], alts := [], laidByText := true, laidKinds := [.data, .pinned], laidTests := true, laidLooks := .later }
def HexfileRecordsCardSaid : Prop := Claim7.holds Tryz.pinned (.plain (OpenSpec.ofChange hexfileRecordsSpec)) hexfileRecordsCard

/-- THE TIED CARD OF 'orrerylaw21.HexfileWrites'. -/
def hexfileWritesCard : Claim7 := { stood := { row := hexfileWritesRow, standIns := [], harness := (true, "80062f28a41dc03c1c3a7bc45f8e842d193fdb55af1f04e59b48087c3b0bf848"), looks := false }, kinds := [], alts := [], laidByText := true, laidKinds := [.data, .pinned], laidTests := true, laidLooks := .later }
def HexfileWritesCardSaid : Prop := Claim7.holds Tryz.pinned (.plain (OpenSpec.ofChange hexfileWritesSpec)) hexfileWritesCard

/-- THE TIED CARD OF 'orrerylaw21.HexfileReads'. -/
def hexfileReadsCard : Claim7 := { stood := { row := hexfileReadsRow, standIns := [], harness := (true, "80062f28a41dc03c1c3a7bc45f8e842d193fdb55af1f04e59b48087c3b0bf848"), looks := false }, kinds := [], alts := [], laidByText := true, laidKinds := [.data, .pinned], laidTests := true, laidLooks := .later }
def HexfileReadsCardSaid : Prop := Claim7.holds Tryz.pinned (.plain (OpenSpec.ofChange hexfileReadsSpec)) hexfileReadsCard

/-- THE TIED CARD OF 'orrerylaw21.HexfileBack'. -/
def hexfileBackCard : Claim7 := { stood := { row := hexfileBackRow, standIns := [], harness := (true, "80062f28a41dc03c1c3a7bc45f8e842d193fdb55af1f04e59b48087c3b0bf848"), looks := false }, kinds := [], alts := [], laidByText := true, laidKinds := [.data, .pinned], laidTests := true, laidLooks := .later }
def HexfileBackCardSaid : Prop := Claim7.holds Tryz.pinned (.plain (OpenSpec.ofChange hexfileBackSpec)) hexfileBackCard

/-- THE TIED CARD OF 'orrerylaw21.HexfileLoose'. -/
def hexfileLooseCard : Claim7 := { stood := { row := hexfileLooseRow, standIns := [], harness := (true, "80062f28a41dc03c1c3a7bc45f8e842d193fdb55af1f04e59b48087c3b0bf848"), looks := false }, kinds := [], alts := [], laidByText := true, laidKinds := [.data, .pinned], laidTests := true, laidLooks := .later }
def HexfileLooseCardSaid : Prop := Claim7.holds Tryz.pinned (.plain (OpenSpec.ofChange hexfileLooseSpec)) hexfileLooseCard

/-- THE SECOND FORM's CARD OF 'orrerylaw21.HexfileMerges'. -/
def hexfileMergesUptoCard : Claim7 := { stood := { row := hexfileMergesUptoRow, standIns := [], harness := (true, "80062f28a41dc03c1c3a7bc45f8e842d193fdb55af1f04e59b48087c3b0bf848"), looks := false }, kinds := [], alts := [], laidByText := true, laidKinds := [.data, .pinned], laidTests := true, laidLooks := .later }
def HexfileMergesUptoCardSaid : Prop := Claim7.holds Tryz.pinned (.plain (OpenSpec.upto hexfileMergesSpec)) hexfileMergesUptoCard

/-- THE SECOND FORM's CARD OF 'orrerylaw21.HexfileRecords'. -/
def hexfileRecordsUptoCard : Claim7 := { stood := { row := hexfileRecordsUptoRow, standIns := [], harness := (true, "80062f28a41dc03c1c3a7bc45f8e842d193fdb55af1f04e59b48087c3b0bf848"), looks := false }, kinds := [], alts := [], laidByText := true, laidKinds := [.data, .pinned], laidTests := true, laidLooks := .later }
def HexfileRecordsUptoCardSaid : Prop := Claim7.holds Tryz.pinned (.plain (OpenSpec.upto hexfileRecordsSpec)) hexfileRecordsUptoCard

/-- THE SECOND FORM's CARD OF 'orrerylaw21.HexfileWrites'. -/
def hexfileWritesUptoCard : Claim7 := { stood := { row := hexfileWritesUptoRow, standIns := [], harness := (true, "80062f28a41dc03c1c3a7bc45f8e842d193fdb55af1f04e59b48087c3b0bf848"), looks := false }, kinds := [], alts := [], laidByText := true, laidKinds := [.data, .pinned], laidTests := true, laidLooks := .later }
def HexfileWritesUptoCardSaid : Prop := Claim7.holds Tryz.pinned (.plain (OpenSpec.upto hexfileWritesSpec)) hexfileWritesUptoCard

/-- THE SECOND FORM's CARD OF 'orrerylaw21.HexfileReads'. -/
def hexfileReadsUptoCard : Claim7 := { stood := { row := hexfileReadsUptoRow, standIns := [], harness := (true, "80062f28a41dc03c1c3a7bc45f8e842d193fdb55af1f04e59b48087c3b0bf848"), looks := false }, kinds := [], alts := [], laidByText := true, laidKinds := [.data, .pinned], laidTests := true, laidLooks := .later }
def HexfileReadsUptoCardSaid : Prop := Claim7.holds Tryz.pinned (.plain (OpenSpec.upto hexfileReadsSpec)) hexfileReadsUptoCard

/-- THE SECOND FORM's CARD OF 'orrerylaw21.HexfileBack'. -/
def hexfileBackUptoCard : Claim7 := { stood := { row := hexfileBackUptoRow, standIns := [], harness := (true, "80062f28a41dc03c1c3a7bc45f8e842d193fdb55af1f04e59b48087c3b0bf848"), looks := false }, kinds := [], alts := [], laidByText := true, laidKinds := [.data, .pinned], laidTests := true, laidLooks := .later }
def HexfileBackUptoCardSaid : Prop := Claim7.holds Tryz.pinned (.plain (OpenSpec.upto hexfileBackSpec)) hexfileBackUptoCard

/-- THE SECOND FORM's CARD OF 'orrerylaw21.HexfileLoose'. -/
def hexfileLooseUptoCard : Claim7 := { stood := { row := hexfileLooseUptoRow, standIns := [], harness := (true, "80062f28a41dc03c1c3a7bc45f8e842d193fdb55af1f04e59b48087c3b0bf848"), looks := false }, kinds := [], alts := [], laidByText := true, laidKinds := [.data, .pinned], laidTests := true, laidLooks := .later }
def HexfileLooseUptoCardSaid : Prop := Claim7.holds Tryz.pinned (.plain (OpenSpec.upto hexfileLooseSpec)) hexfileLooseUptoCard
end Rows
end Go.Proofs.YtpemajghaceegaaGreatDoor
