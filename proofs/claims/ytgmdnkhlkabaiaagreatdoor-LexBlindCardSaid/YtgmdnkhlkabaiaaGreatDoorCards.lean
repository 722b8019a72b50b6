/-
  DERIVED. GIVEN WITH THE SEED: THE CARDS: each row of YtgmdnkhlkabaiaaGreatDoorRows.lean that lists a variable, with what it lists TIED to the program's text (the seventh form; the later family's looks); each row that meets fmt, with fmt's text TOLD by the authors' own Lean function (tested against real Go, not proved from fmt's source: count such statements apart). THE CARD IS WHAT COUNTS. Prove the row's statement (the work); the ties are given (YtgmdnkhlkabaiaaGreatDoorTie.lean); close each card by the builder's one call (the guide's Derived/Test/ToyasCard.lean, 'card_holds'). Laid BY PROGRAM, IN A SANDBOX (cutbox-door.mjs). By AI agents, Wed Nov 11 2026. No macro, syntax, notation, axiom, sorry.
-/
import Derived.Test.YtgmdnkhlkabaiaaGreatDoorRows
import GoSem.ClaimSeven
namespace Go.Proofs.YtgmdnkhlkabaiaaGreatDoor
namespace Rows

/-- THE TIED CARD OF 'sluicewaylaw.LexTells'. -/
def lexTellsCard : Claim7 := { stood := { row := lexTellsRow, standIns := [], harness := (true, "01855c58937f6ea342ee6768e307b79200626b833aa28105505badc7a8b6af56"), looks := true }, kinds := [], alts := [], laidByText := true, laidKinds := [.data, .data, .data, .data, .handle, .sentinel, .sentinel, .data, .pinned], laidTests := true, laidLooks := .later }
def LexTellsCardSaid : Prop := Claim7.holds Tryz.pinned (.plain (OpenSpec.ofChange lexTellsSpec)) lexTellsCard

/-- THE TIED CARD OF 'sluicewaykeep.LexBlind'. -/
def lexBlindCard : Claim7 := { stood := { row := lexBlindRow, standIns := [], harness := (true, "01855c58937f6ea342ee6768e307b79200626b833aa28105505badc7a8b6af56"), looks := true }, kinds := [], alts := [], laidByText := true, laidKinds := [.data, .data, .data, .data, .handle, .sentinel, .sentinel, .data, .pinned], laidTests := true, laidLooks := .later }
def LexBlindCardSaid : Prop := Claim7.holds Tryz.pinned (.plain (OpenSpec.ofChange lexBlindSpec)) lexBlindCard

/-- THE SECOND FORM's CARD OF 'sluicewaylaw.LexTells'. -/
def lexTellsUptoCard : Claim7 := { stood := { row := lexTellsUptoRow, standIns := [], harness := (true, "01855c58937f6ea342ee6768e307b79200626b833aa28105505badc7a8b6af56"), looks := true }, kinds := [], alts := [], laidByText := true, laidKinds := [.data, .data, .data, .data, .handle, .sentinel, .sentinel, .data, .pinned], laidTests := true, laidLooks := .later }
def LexTellsUptoCardSaid : Prop := Claim7.holds Tryz.pinned (.plain (OpenSpec.upto lexTellsSpec)) lexTellsUptoCard

/-- THE SECOND FORM's CARD OF 'sluicewaykeep.LexBlind'. -/
def lexBlindUptoCard : Claim7 := { stood := { row := lexBlindUptoRow, standIns := [], harness := (true, "01855c58937f6ea342ee6768e307b79200626b833aa28105505badc7a8b6af56"), looks := true }, kinds := [], alts := [], laidByText := true, laidKinds := [.data, .data, .data, .data, .handle, .sentinel, .sentinel, .data, .pinned], laidTests := true, laidLooks := .later }
def LexBlindUptoCardSaid : Prop := Claim7.holds Tryz.pinned (.plain (OpenSpec.upto lexBlindSpec)) lexBlindUptoCard
end Rows
end Go.Proofs.YtgmdnkhlkabaiaaGreatDoor
