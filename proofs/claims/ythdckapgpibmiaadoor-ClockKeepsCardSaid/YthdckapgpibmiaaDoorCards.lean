/-
  DERIVED. GIVEN WITH THE SEED: THE CARDS: each row of YthdckapgpibmiaaDoorRows.lean that lists a variable, with what it lists TIED to the program's text (the seventh form; the later family's looks); each row that meets fmt, with fmt's text TOLD by the authors' own Lean function (tested against real Go, not proved from fmt's source: count such statements apart). THE CARD IS WHAT COUNTS. Prove the row's statement (the work); the ties are given (YthdckapgpibmiaaDoorTie.lean); close each card by the builder's one call (the guide's Derived/Test/ToyasCard.lean, 'card_holds'). Laid BY PROGRAM, IN A SANDBOX (cutbox-door.mjs). By AI agents, Wed Nov 11 2026. No macro, syntax, notation, axiom, sorry.
-/
import Derived.Test.YthdckapgpibmiaaDoorRows
import GoSem.ClaimSeven
namespace Go.Proofs.YthdckapgpibmiaaDoor
namespace Rows

/-- THE TIED CARD OF 'sluicewaylaw.RingKeeps'. -/
def ringKeepsCard : Claim7 := { stood := { row := ringKeepsRow, standIns := [], harness := (true, "90b3b029f1ec6fd0503c9f5c3c4c341979eed0125367804ea9c38ec9d348572c"), looks := true }, kinds := [], alts := [], laidByText := true, laidKinds := [.handle], laidTests := true, laidLooks := .later }
def RingKeepsCardSaid : Prop := Claim7.holds Tryd.pinned (.plain (OpenSpec.ofChange ringKeepsSpec)) ringKeepsCard

/-- THE TIED CARD OF 'sluicewaykeep.RingDrops'. -/
def ringDropsCard : Claim7 := { stood := { row := ringDropsRow, standIns := [], harness := (true, "90b3b029f1ec6fd0503c9f5c3c4c341979eed0125367804ea9c38ec9d348572c"), looks := true }, kinds := [], alts := [], laidByText := true, laidKinds := [.handle], laidTests := true, laidLooks := .later }
def RingDropsCardSaid : Prop := Claim7.holds Tryd.pinned (.plain (OpenSpec.ofChange ringDropsSpec)) ringDropsCard

/-- THE TIED CARD OF 'sluicewaylaw.ClockKeeps'. -/
def clockKeepsCard : Claim7 := { stood := { row := clockKeepsRow, standIns := [], harness := (true, "90b3b029f1ec6fd0503c9f5c3c4c341979eed0125367804ea9c38ec9d348572c"), looks := true }, kinds := [], alts := [], laidByText := true, laidKinds := [.handle], laidTests := true, laidLooks := .later }
def ClockKeepsCardSaid : Prop := Claim7.holds Tryd.pinned (.plain (OpenSpec.ofChange clockKeepsSpec)) clockKeepsCard

/-- THE SECOND FORM's CARD OF 'sluicewaylaw.RingKeeps'. -/
def ringKeepsUptoCard : Claim7 := { stood := { row := ringKeepsUptoRow, standIns := [], harness := (true, "90b3b029f1ec6fd0503c9f5c3c4c341979eed0125367804ea9c38ec9d348572c"), looks := true }, kinds := [], alts := [], laidByText := true, laidKinds := [.handle], laidTests := true, laidLooks := .later }
def RingKeepsUptoCardSaid : Prop := Claim7.holds Tryd.pinned (.plain (OpenSpec.upto ringKeepsSpec)) ringKeepsUptoCard

/-- THE SECOND FORM's CARD OF 'sluicewaykeep.RingDrops'. -/
def ringDropsUptoCard : Claim7 := { stood := { row := ringDropsUptoRow, standIns := [], harness := (true, "90b3b029f1ec6fd0503c9f5c3c4c341979eed0125367804ea9c38ec9d348572c"), looks := true }, kinds := [], alts := [], laidByText := true, laidKinds := [.handle], laidTests := true, laidLooks := .later }
def RingDropsUptoCardSaid : Prop := Claim7.holds Tryd.pinned (.plain (OpenSpec.upto ringDropsSpec)) ringDropsUptoCard

/-- THE SECOND FORM's CARD OF 'sluicewaylaw.ClockKeeps'. -/
def clockKeepsUptoCard : Claim7 := { stood := { row := clockKeepsUptoRow, standIns := [], harness := (true, "90b3b029f1ec6fd0503c9f5c3c4c341979eed0125367804ea9c38ec9d348572c"), looks := true }, kinds := [], alts := [], laidByText := true, laidKinds := [.handle], laidTests := true, laidLooks := .later }
def ClockKeepsUptoCardSaid : Prop := Claim7.holds Tryd.pinned (.plain (OpenSpec.upto clockKeepsSpec)) clockKeepsUptoCard
end Rows
end Go.Proofs.YthdckapgpibmiaaDoor
