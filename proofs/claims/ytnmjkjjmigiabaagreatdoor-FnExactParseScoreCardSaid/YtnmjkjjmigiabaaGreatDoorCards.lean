/-
  DERIVED. GIVEN WITH THE SEED: THE CARDS: each row of YtnmjkjjmigiabaaGreatDoorRows.lean that lists a variable, with what it lists TIED to the program's text (the seventh form; the later family's looks); each row that meets fmt, with fmt's text TOLD by the authors' own Lean function (tested against real Go, not proved from fmt's source: count such statements apart). THE CARD IS WHAT COUNTS. Prove the row's statement (the work); the ties are given (YtnmjkjjmigiabaaGreatDoorTie.lean); close each card by the builder's one call (the guide's Derived/Test/ToyasCard.lean, 'card_holds'). Laid BY PROGRAM, IN A SANDBOX (cutbox-door.mjs). By AI agents, Wed Nov 11 2026. No macro, syntax, notation, axiom, sorry.
-/
import Derived.Test.YtnmjkjjmigiabaaGreatDoorRows
import GoSem.ClaimSeven
namespace Go.Proofs.YtnmjkjjmigiabaaGreatDoor
namespace Rows

/-- THE TIED CARD OF 'laws.FnWritten'. -/
def fnWrittenCard : Claim7 := { stood := { row := fnWrittenRow, standIns := [], harness := (true, "f8a7200e2963bbb7d9f3e1cc8f5fc3b5c209d53310ab6dc02d3feff1c400e670"), looks := true }, kinds := [], alts := [], laidByText := true, laidKinds := [.data, .data, .data, .data, .sentinel, .sentinel, .pinned], laidTests := true, laidLooks := .later }
def FnWrittenCardSaid : Prop := Claim7.holds Tryz.pinned (.plain (OpenSpec.ofChange fnWrittenSpec)) fnWrittenCard

/-- THE TIED CARD OF 'laws.FnExactParseBody'. -/
def fnExactParseBodyCard : Claim7 := { stood := { row := fnExactParseBodyRow, standIns := [], harness := (true, "f8a7200e2963bbb7d9f3e1cc8f5fc3b5c209d53310ab6dc02d3feff1c400e670"), looks := true }, kinds := [], alts := [], laidByText := true, laidKinds := [.data, .data, .data, .data, .sentinel, .sentinel, .pinned], laidTests := true, laidLooks := .later }
def FnExactParseBodyCardSaid : Prop := Claim7.holds Tryz.pinned (.plain (OpenSpec.ofChange fnExactParseBodySpec)) fnExactParseBodyCard

/-- THE TIED CARD OF 'laws.FnExactParseWide'. -/
def fnExactParseWideCard : Claim7 := { stood := { row := fnExactParseWideRow, standIns := [], harness := (true, "f8a7200e2963bbb7d9f3e1cc8f5fc3b5c209d53310ab6dc02d3feff1c400e670"), looks := true }, kinds := [], alts := [], laidByText := true, laidKinds := [.data, .data, .data, .data, .sentinel, .sentinel, .pinned], laidTests := true, laidLooks := .later }
def FnExactParseWideCardSaid : Prop := Claim7.holds Tryz.pinned (.plain (OpenSpec.ofChange fnExactParseWideSpec)) fnExactParseWideCard

/-- THE TIED CARD OF 'laws.FnExactParseRoom'. -/
def fnExactParseRoomCard : Claim7 := { stood := { row := fnExactParseRoomRow, standIns := [], harness := (true, "f8a7200e2963bbb7d9f3e1cc8f5fc3b5c209d53310ab6dc02d3feff1c400e670"), looks := true }, kinds := [], alts := [], laidByText := true, laidKinds := [.data, .data, .data, .data, .sentinel, .sentinel, .pinned], laidTests := true, laidLooks := .later }
def FnExactParseRoomCardSaid : Prop := Claim7.holds Tryz.pinned (.plain (OpenSpec.ofChange fnExactParseRoomSpec)) fnExactParseRoomCard

/-- THE TIED CARD OF 'laws.FnExactParseScore'. -/
def fnExactParseScoreCard : Claim7 := { stood := { row := fnExactParseScoreRow, standIns := [], harness := (true, "f8a7200e2963bbb7d9f3e1cc8f5fc3b5c209d53310ab6dc02d3feff1c400e670"), looks := true }, kinds := [], alts := [], laidByText := true, laidKinds := [.data, .data, .data, .data, .sentinel, .sentinel, .pinned], laidTests := true, laidLooks := .later }
def FnExactParseScoreCardSaid : Prop := Claim7.holds Tryz.pinned (.plain (OpenSpec.ofChange fnExactParseScoreSpec)) fnExactParseScoreCard

/-- THE SECOND FORM's CARD OF 'laws.FnWritten'. -/
def fnWrittenUptoCard : Claim7 := { stood := { row := fnWrittenUptoRow, standIns := [], harness := (true, "f8a7200e2963bbb7d9f3e1cc8f5fc3b5c209d53310ab6dc02d3feff1c400e670"), looks := true }, kinds := [], alts := [], laidByText := true, laidKinds := [.data, .data, .data, .data, .sentinel, .sentinel, .pinned], laidTests := true, laidLooks := .later }
def FnWrittenUptoCardSaid : Prop := Claim7.holds Tryz.pinned (.plain (OpenSpec.upto fnWrittenSpec)) fnWrittenUptoCard

/-- THE SECOND FORM's CARD OF 'laws.FnExactParseBody'. -/
def fnExactParseBodyUptoCard : Claim7 := { stood := { row := fnExactParseBodyUptoRow, standIns := [], harness := (true, "f8a7200e2963bbb7d9f3e1cc8f5fc3b5c209d53310ab6dc02d3feff1c400e670"), looks := true }, kinds := [], alts := [], laidByText := true, laidKinds := [.data, .data, .data, .data, .sentinel, .sentinel, .pinned], laidTests := true, laidLooks := .later }
def FnExactParseBodyUptoCardSaid : Prop := Claim7.holds Tryz.pinned (.plain (OpenSpec.upto fnExactParseBodySpec)) fnExactParseBodyUptoCard

/-- THE SECOND FORM's CARD OF 'laws.FnExactParseWide'. -/
def fnExactParseWideUptoCard : Claim7 := { stood := { row := fnExactParseWideUptoRow, standIns := [], harness := (true, "f8a7200e2963bbb7d9f3e1cc8f5fc3b5c209d53310ab6dc02d3feff1c400e670"), looks := true }, kinds := [], alts := [], laidByText := true, laidKinds := [.data, .data, .data, .data, .sentinel, .sentinel, .pinned], laidTests := true, laidLooks := .later }
def FnExactParseWideUptoCardSaid : Prop := Claim7.holds Tryz.pinned (.plain (OpenSpec.upto fnExactParseWideSpec)) fnExactParseWideUptoCard

/-- THE SECOND FORM's CARD OF 'laws.FnExactParseRoom'. -/
def fnExactParseRoomUptoCard : Claim7 := { stood := { row := fnExactParseRoomUptoRow, standIns := [], harness := (true, "f8a7200e2963bbb7d9f3e1cc8f5fc3b5c209d53310ab6dc02d3feff1c400e670"), looks := true }, kinds := [], alts := [], laidByText := true, laidKinds := [.data, .data, .data, .data, .sentinel, .sentinel, .pinned], laidTests := true, laidLooks := .later }
def FnExactParseRoomUptoCardSaid : Prop := Claim7.holds Tryz.pinned (.plain (OpenSpec.upto fnExactParseRoomSpec)) fnExactParseRoomUptoCard

/-- THE SECOND FORM's CARD OF 'laws.FnExactParseScore'. -/
def fnExactParseScoreUptoCard : Claim7 := { stood := { row := fnExactParseScoreUptoRow, standIns := [], harness := (true, "f8a7200e2963bbb7d9f3e1cc8f5fc3b5c209d53310ab6dc02d3feff1c400e670"), looks := true }, kinds := [], alts := [], laidByText := true, laidKinds := [.data, .data, .data, .data, .sentinel, .sentinel, .pinned], laidTests := true, laidLooks := .later }
def FnExactParseScoreUptoCardSaid : Prop := Claim7.holds Tryz.pinned (.plain (OpenSpec.upto fnExactParseScoreSpec)) fnExactParseScoreUptoCard
end Rows
end Go.Proofs.YtnmjkjjmigiabaaGreatDoor
