/-
  DERIVED. GIVEN WITH THE SEED: THE CARDS: each row of YtlfcfaceeloedaaDoorRows.lean that lists a variable, with what it lists TIED to the program's text (the seventh form; the later family's looks); each row that meets fmt, with fmt's text TOLD by the authors' own Lean function (tested against real Go, not proved from fmt's source: count such statements apart). THE CARD IS WHAT COUNTS. Prove the row's statement (the work); the ties are given (YtlfcfaceeloedaaDoorTie.lean); close each card by the builder's one call (the guide's Derived/Test/ToyasCard.lean, 'card_holds'). Laid BY PROGRAM, IN A SANDBOX (cutbox-door.mjs). By AI agents, Wed Nov 11 2026. No macro, syntax, notation, axiom, sorry.
-/
import Derived.Test.YtlfcfaceeloedaaDoorRows
import GoSem.ClaimSeven
namespace Go.Proofs.YtlfcfaceeloedaaDoor
namespace Rows

/-- THE TIED CARD OF 'sluicewaylaw.CodeWrites'. -/
def codeWritesCard : Claim7 := { stood := { row := codeWritesRow, standIns := [], harness := (true, "754e878925a907b5edbbe00244cb4b548d1ac51896f70c3a8d5d9477352a0527"), looks := true }, kinds := [], alts := [], laidByText := true, laidKinds := [.data, .handle, .data, .pinned], laidTests := true, laidLooks := .later }
def CodeWritesCardSaid : Prop := Claim7.holds Tryd.pinned (.plain (OpenSpec.ofChange codeWritesSpec)) codeWritesCard

/-- THE TIED CARD OF 'sluicewaykeep.VerifyDead'. -/
def verifyDeadCard : Claim7 := { stood := { row := verifyDeadRow, standIns := [], harness := (true, "754e878925a907b5edbbe00244cb4b548d1ac51896f70c3a8d5d9477352a0527"), looks := true }, kinds := [], alts := [], laidByText := true, laidKinds := [.handle], laidTests := true, laidLooks := .later }
def VerifyDeadCardSaid : Prop := Claim7.holds Tryd.pinned (.plain (OpenSpec.ofChange verifyDeadSpec)) verifyDeadCard

/-- THE TIED CARD OF 'sluicewaykeep.VerifyMore'. -/
def verifyMoreCard : Claim7 := { stood := { row := verifyMoreRow, standIns := [], harness := (true, "754e878925a907b5edbbe00244cb4b548d1ac51896f70c3a8d5d9477352a0527"), looks := true }, kinds := [], alts := [], laidByText := true, laidKinds := [.handle], laidTests := true, laidLooks := .later }
def VerifyMoreCardSaid : Prop := Claim7.holds Tryd.pinned (.plain (OpenSpec.ofChange verifyMoreSpec)) verifyMoreCard

/-- THE TIED CARD OF 'sluicewaykeep.VerifyBounds'. -/
def verifyBoundsCard : Claim7 := { stood := { row := verifyBoundsRow, standIns := [], harness := (true, "754e878925a907b5edbbe00244cb4b548d1ac51896f70c3a8d5d9477352a0527"), looks := true }, kinds := [], alts := [], laidByText := true, laidKinds := [.handle], laidTests := true, laidLooks := .later }
def VerifyBoundsCardSaid : Prop := Claim7.holds Tryd.pinned (.plain (OpenSpec.ofChange verifyBoundsSpec)) verifyBoundsCard

/-- THE SECOND FORM's CARD OF 'sluicewaylaw.CodeWrites'. -/
def codeWritesUptoCard : Claim7 := { stood := { row := codeWritesUptoRow, standIns := [], harness := (true, "754e878925a907b5edbbe00244cb4b548d1ac51896f70c3a8d5d9477352a0527"), looks := true }, kinds := [], alts := [], laidByText := true, laidKinds := [.data, .handle, .data, .pinned], laidTests := true, laidLooks := .later }
def CodeWritesUptoCardSaid : Prop := Claim7.holds Tryd.pinned (.plain (OpenSpec.upto codeWritesSpec)) codeWritesUptoCard

/-- THE SECOND FORM's CARD OF 'sluicewaykeep.VerifyDead'. -/
def verifyDeadUptoCard : Claim7 := { stood := { row := verifyDeadUptoRow, standIns := [], harness := (true, "754e878925a907b5edbbe00244cb4b548d1ac51896f70c3a8d5d9477352a0527"), looks := true }, kinds := [], alts := [], laidByText := true, laidKinds := [.handle], laidTests := true, laidLooks := .later }
def VerifyDeadUptoCardSaid : Prop := Claim7.holds Tryd.pinned (.plain (OpenSpec.upto verifyDeadSpec)) verifyDeadUptoCard

/-- THE SECOND FORM's CARD OF 'sluicewaykeep.VerifyMore'. -/
def verifyMoreUptoCard : Claim7 := { stood := { row := verifyMoreUptoRow, standIns := [], harness := (true, "754e878925a907b5edbbe00244cb4b548d1ac51896f70c3a8d5d9477352a0527"), looks := true }, kinds := [], alts := [], laidByText := true, laidKinds := [.handle], laidTests := true, laidLooks := .later }
def VerifyMoreUptoCardSaid : Prop := Claim7.holds Tryd.pinned (.plain (OpenSpec.upto verifyMoreSpec)) verifyMoreUptoCard

/-- THE SECOND FORM's CARD OF 'sluicewaykeep.VerifyBounds'. -/
def verifyBoundsUptoCard : Claim7 := { stood := { row := verifyBoundsUptoRow, standIns := [], harness := (true, "754e878925a907b5edbbe00244cb4b548d1ac51896f70c3a8d5d9477352a0527"), looks := true }, kinds := [], alts := [], laidByText := true, laidKinds := [.handle], laidTests := true, laidLooks := .later }
def VerifyBoundsUptoCardSaid : Prop := Claim7.holds Tryd.pinned (.plain (OpenSpec.upto verifyBoundsSpec)) verifyBoundsUptoCard
end Rows
end Go.Proofs.YtlfcfaceeloedaaDoor
