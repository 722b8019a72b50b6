/-
  DERIVED. GIVEN WITH THE SEED: THE CARDS: each row of YtnjdmijcoadidaaGreatDoorRows.lean that lists a variable, with what it lists TIED to the program's text (the seventh form; the later family's looks); each row that meets fmt, with fmt's text TOLD by the authors' own Lean function (tested against real Go, not proved from fmt's source: count such statements apart). THE CARD IS WHAT COUNTS. Prove the row's statement (the work); the ties are given (YtnjdmijcoadidaaGreatDoorTie.lean); close each card by the builder's one call (the guide's Derived/Test/ToyasCard.lean, 'card_holds'). Laid BY PROGRAM, IN A SANDBOX (cutbox-door.mjs). By AI agents, Wed Nov 11 2026. No macro, syntax, notation, axiom, sorry.
-/
import Derived.Test.YtnjdmijcoadidaaGreatDoorRows
import GoSem.ClaimSeven
namespace Go.Proofs.YtnjdmijcoadidaaGreatDoor
namespace Rows

/-- THE TIED CARD OF 'sluicewaylaw.RoomTells'. -/
def roomTellsCard : Claim7 := { stood := { row := roomTellsRow, standIns := [], harness := (true, "9c18a80ccf370c304b1cd3bc49ffb032b78a9a7c35a4f899fab49f4b9eab2795"), looks := true }, kinds := [], alts := [], laidByText := true, laidKinds := [.handle], laidTests := true, laidLooks := .later }
def RoomTellsCardSaid : Prop := Claim7.holds Tryz.pinned (.plain (OpenSpec.ofChange roomTellsSpec)) roomTellsCard

/-- THE TIED CARD OF 'sluicewaylaw.RoomGives'. -/
def roomGivesCard : Claim7 := { stood := { row := roomGivesRow, standIns := [], harness := (true, "9c18a80ccf370c304b1cd3bc49ffb032b78a9a7c35a4f899fab49f4b9eab2795"), looks := true }, kinds := [], alts := [], laidByText := true, laidKinds := [.handle], laidTests := true, laidLooks := .later }
def RoomGivesCardSaid : Prop := Claim7.holds Tryz.pinned (.plain (OpenSpec.ofChange roomGivesSpec)) roomGivesCard

/-- THE TIED CARD OF 'sluicewaykeep.RoomPieces'. -/
def roomPiecesCard : Claim7 := { stood := { row := roomPiecesRow, standIns := [], harness := (true, "9c18a80ccf370c304b1cd3bc49ffb032b78a9a7c35a4f899fab49f4b9eab2795"), looks := true }, kinds := [], alts := [], laidByText := true, laidKinds := [.handle], laidTests := true, laidLooks := .later }
def RoomPiecesCardSaid : Prop := Claim7.holds Tryz.pinned (.plain (OpenSpec.ofChange roomPiecesSpec)) roomPiecesCard

/-- THE TIED CARD OF 'sluicewaykeep.RoomEnds'. -/
def roomEndsCard : Claim7 := { stood := { row := roomEndsRow, standIns := [], harness := (true, "9c18a80ccf370c304b1cd3bc49ffb032b78a9a7c35a4f899fab49f4b9eab2795"), looks := true }, kinds := [], alts := [], laidByText := true, laidKinds := [.handle], laidTests := true, laidLooks := .later }
def RoomEndsCardSaid : Prop := Claim7.holds Tryz.pinned (.plain (OpenSpec.ofChange roomEndsSpec)) roomEndsCard

/-- THE TIED CARD OF 'sluicewaykeep.RoomClock'. -/
def roomClockCard : Claim7 := { stood := { row := roomClockRow, standIns := [], harness := (true, "9c18a80ccf370c304b1cd3bc49ffb032b78a9a7c35a4f899fab49f4b9eab2795"), looks := true }, kinds := [], alts := [], laidByText := true, laidKinds := [.handle], laidTests := true, laidLooks := .later }
def RoomClockCardSaid : Prop := Claim7.holds Tryz.pinned (.plain (OpenSpec.ofChange roomClockSpec)) roomClockCard

/-- THE TIED CARD OF 'sluicewaykeep.RoomBalance'. -/
def roomBalanceCard : Claim7 := { stood := { row := roomBalanceRow, standIns := [], harness := (true, "9c18a80ccf370c304b1cd3bc49ffb032b78a9a7c35a4f899fab49f4b9eab2795"), looks := true }, kinds := [], alts := [], laidByText := true, laidKinds := [.handle], laidTests := true, laidLooks := .later }
def RoomBalanceCardSaid : Prop := Claim7.holds Tryz.pinned (.plain (OpenSpec.ofChange roomBalanceSpec)) roomBalanceCard

/-- THE TIED CARD OF 'sluicewaykeep.RoomForks'. -/
def roomForksCard : Claim7 := { stood := { row := roomForksRow, standIns := [], harness := (true, "9c18a80ccf370c304b1cd3bc49ffb032b78a9a7c35a4f899fab49f4b9eab2795"), looks := true }, kinds := [], alts := [], laidByText := true, laidKinds := [.handle], laidTests := true, laidLooks := .later }
def RoomForksCardSaid : Prop := Claim7.holds Tryz.pinned (.plain (OpenSpec.ofChange roomForksSpec)) roomForksCard

/-- THE TIED CARD OF 'sluicewaykeep.RoomApart'. -/
def roomApartCard : Claim7 := { stood := { row := roomApartRow, standIns := [], harness := (true, "9c18a80ccf370c304b1cd3bc49ffb032b78a9a7c35a4f899fab49f4b9eab2795"), looks := true }, kinds := [], alts := [], laidByText := true, laidKinds := [.handle], laidTests := true, laidLooks := .later }
def RoomApartCardSaid : Prop := Claim7.holds Tryz.pinned (.plain (OpenSpec.ofChange roomApartSpec)) roomApartCard

/-- THE SECOND FORM's CARD OF 'sluicewaylaw.RoomTells'. -/
def roomTellsUptoCard : Claim7 := { stood := { row := roomTellsUptoRow, standIns := [], harness := (true, "9c18a80ccf370c304b1cd3bc49ffb032b78a9a7c35a4f899fab49f4b9eab2795"), looks := true }, kinds := [], alts := [], laidByText := true, laidKinds := [.handle], laidTests := true, laidLooks := .later }
def RoomTellsUptoCardSaid : Prop := Claim7.holds Tryz.pinned (.plain (OpenSpec.upto roomTellsSpec)) roomTellsUptoCard

/-- THE SECOND FORM's CARD OF 'sluicewaylaw.RoomGives'. -/
def roomGivesUptoCard : Claim7 := { stood := { row := roomGivesUptoRow, standIns := [], harness := (true, "9c18a80ccf370c304b1cd3bc49ffb032b78a9a7c35a4f899fab49f4b9eab2795"), looks := true }, kinds := [], alts := [], laidByText := true, laidKinds := [.handle], laidTests := true, laidLooks := .later }
def RoomGivesUptoCardSaid : Prop := Claim7.holds Tryz.pinned (.plain (OpenSpec.upto roomGivesSpec)) roomGivesUptoCard

/-- THE SECOND FORM's CARD OF 'sluicewaykeep.RoomPieces'. -/
def roomPiecesUptoCard : Claim7 := { stood := { row := roomPiecesUptoRow, standIns := [], harness := (true, "9c18a80ccf370c304b1cd3bc49ffb032b78a9a7c35a4f899fab49f4b9eab2795"), looks := true }, kinds := [], alts := [], laidByText := true, laidKinds := [.handle], laidTests := true, laidLooks := .later }
def RoomPiecesUptoCardSaid : Prop := Claim7.holds Tryz.pinned (.plain (OpenSpec.upto roomPiecesSpec)) roomPiecesUptoCard

/-- THE SECOND FORM's CARD OF 'sluicewaykeep.RoomEnds'. -/
def roomEndsUptoCard : Claim7 := { stood := { row := roomEndsUptoRow, standIns := [], harness := (true, "9c18a80ccf370c304b1cd3bc49ffb032b78a9a7c35a4f899fab49f4b9eab2795"), looks := true }, kinds := [], alts := [], laidByText := true, laidKinds := [.handle], laidTests := true, laidLooks := .later }
def RoomEndsUptoCardSaid : Prop := Claim7.holds Tryz.pinned (.plain (OpenSpec.upto roomEndsSpec)) roomEndsUptoCard

/-- THE SECOND FORM's CARD OF 'sluicewaykeep.RoomClock'. -/
def roomClockUptoCard : Claim7 := { stood := { row := roomClockUptoRow, standIns := [], harness := (true, "9c18a80ccf370c304b1cd3bc49ffb032b78a9a7c35a4f899fab49f4b9eab2795"), looks := true }, kinds := [], alts := [], laidByText := true, laidKinds := [.handle], laidTests := true, laidLooks := .later }
def RoomClockUptoCardSaid : Prop := Claim7.holds Tryz.pinned (.plain (OpenSpec.upto roomClockSpec)) roomClockUptoCard

/-- THE SECOND FORM's CARD OF 'sluicewaykeep.RoomBalance'. -/
def roomBalanceUptoCard : Claim7 := { stood := { row := roomBalanceUptoRow, standIns := [], harness := (true, "9c18a80ccf370c304b1cd3bc49ffb032b78a9a7c35a4f899fab49f4b9eab2795"), looks := true }, kinds := [], alts := [], laidByText := true, laidKinds := [.handle], laidTests := true, laidLooks := .later }
def RoomBalanceUptoCardSaid : Prop := Claim7.holds Tryz.pinned (.plain (OpenSpec.upto roomBalanceSpec)) roomBalanceUptoCard

/-- THE SECOND FORM's CARD OF 'sluicewaykeep.RoomForks'. -/
def roomForksUptoCard : Claim7 := { stood := { row := roomForksUptoRow, standIns := [], harness := (true, "9c18a80ccf370c304b1cd3bc49ffb032b78a9a7c35a4f899fab49f4b9eab2795"), looks := true }, kinds := [], alts := [], laidByText := true, laidKinds := [.handle], laidTests := true, laidLooks := .later }
def RoomForksUptoCardSaid : Prop := Claim7.holds Tryz.pinned (.plain (OpenSpec.upto roomForksSpec)) roomForksUptoCard

/-- THE SECOND FORM's CARD OF 'sluicewaykeep.RoomApart'. -/
def roomApartUptoCard : Claim7 := { stood := { row := roomApartUptoRow, standIns := [], harness := (true, "9c18a80ccf370c304b1cd3bc49ffb032b78a9a7c35a4f899fab49f4b9eab2795"), looks := true }, kinds := [], alts := [], laidByText := true, laidKinds := [.handle], laidTests := true, laidLooks := .later }
def RoomApartUptoCardSaid : Prop := Claim7.holds Tryz.pinned (.plain (OpenSpec.upto roomApartSpec)) roomApartUptoCard
end Rows
end Go.Proofs.YtnjdmijcoadidaaGreatDoor
