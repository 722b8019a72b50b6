/-
  DERIVED. GIVEN WITH THE SEED: THE CARDS: each row of YtonpbbflloljgaaDoorRows.lean that lists a variable, with what it lists TIED to the program's text (the seventh form; the later family's looks); each row that meets fmt, with fmt's text TOLD by the authors' own Lean function (tested against real Go, not proved from fmt's source: count such statements apart). THE CARD IS WHAT COUNTS. Prove the row's statement (the work); the ties are given (YtonpbbflloljgaaDoorTie.lean); close each card by the builder's one call (the guide's Derived/Test/ToyasCard.lean, 'card_holds'). Laid BY PROGRAM, IN A SANDBOX (cutbox-door.mjs). By AI agents, Wed Nov 11 2026. No macro, syntax, notation, axiom, sorry.
-/
import Derived.Test.YtonpbbflloljgaaDoorRows
import GoSem.ClaimSeven
namespace Go.Proofs.YtonpbbflloljgaaDoor
namespace Rows

/-- THE TIED CARD OF 'sluicewaylaw.ArithSigns'. -/
def arithSignsCard : Claim7 := { stood := { row := arithSignsRow, standIns := [], harness := (true, "91cf19f2d5bbbbf365e6ab2c41b382feff87a0f943bb0e0d370d5cbac0ee52e4"), looks := false }, kinds := [], alts := [], laidByText := true, laidKinds := [.data], laidTests := true, laidLooks := .later }
def ArithSignsCardSaid : Prop := Claim7.holds Tryd.pinned (.plain (OpenSpec.ofChange arithSignsSpec)) arithSignsCard

/-- THE TIED CARD OF 'sluicewaykeep.ArithRing'. -/
def arithRingCard : Claim7 := { stood := { row := arithRingRow, standIns := [], harness := (true, "91cf19f2d5bbbbf365e6ab2c41b382feff87a0f943bb0e0d370d5cbac0ee52e4"), looks := false }, kinds := [], alts := [], laidByText := true, laidKinds := [.data], laidTests := true, laidLooks := .later }
def ArithRingCardSaid : Prop := Claim7.holds Tryd.pinned (.plain (OpenSpec.ofChange arithRingSpec)) arithRingCard

/-- THE TIED CARD OF 'sluicewaykeep.ArithDivides'. -/
def arithDividesCard : Claim7 := { stood := { row := arithDividesRow, standIns := [], harness := (true, "91cf19f2d5bbbbf365e6ab2c41b382feff87a0f943bb0e0d370d5cbac0ee52e4"), looks := false }, kinds := [], alts := [], laidByText := true, laidKinds := [.data], laidTests := true, laidLooks := .later }
def ArithDividesCardSaid : Prop := Claim7.holds Tryd.pinned (.plain (OpenSpec.ofChange arithDividesSpec)) arithDividesCard

/-- THE TIED CARD OF 'sluicewaykeep.ArithBits'. -/
def arithBitsCard : Claim7 := { stood := { row := arithBitsRow, standIns := [], harness := (true, "91cf19f2d5bbbbf365e6ab2c41b382feff87a0f943bb0e0d370d5cbac0ee52e4"), looks := false }, kinds := [], alts := [], laidByText := true, laidKinds := [.data], laidTests := true, laidLooks := .later }
def ArithBitsCardSaid : Prop := Claim7.holds Tryd.pinned (.plain (OpenSpec.ofChange arithBitsSpec)) arithBitsCard

/-- THE TIED CARD OF 'sluicewaykeep.ArithShifts'. -/
def arithShiftsCard : Claim7 := { stood := { row := arithShiftsRow, standIns := [], harness := (true, "91cf19f2d5bbbbf365e6ab2c41b382feff87a0f943bb0e0d370d5cbac0ee52e4"), looks := false }, kinds := [], alts := [], laidByText := true, laidKinds := [.data], laidTests := true, laidLooks := .later }
def ArithShiftsCardSaid : Prop := Claim7.holds Tryd.pinned (.plain (OpenSpec.ofChange arithShiftsSpec)) arithShiftsCard

/-- THE TIED CARD OF 'sluicewaykeep.ArithOrder'. -/
def arithOrderCard : Claim7 := { stood := { row := arithOrderRow, standIns := [], harness := (true, "91cf19f2d5bbbbf365e6ab2c41b382feff87a0f943bb0e0d370d5cbac0ee52e4"), looks := false }, kinds := [], alts := [], laidByText := true, laidKinds := [.data], laidTests := true, laidLooks := .later }
def ArithOrderCardSaid : Prop := Claim7.holds Tryd.pinned (.plain (OpenSpec.ofChange arithOrderSpec)) arithOrderCard

/-- THE TIED CARD OF 'sluicewaykeep.ArithSigned'. -/
def arithSignedCard : Claim7 := { stood := { row := arithSignedRow, standIns := [], harness := (true, "91cf19f2d5bbbbf365e6ab2c41b382feff87a0f943bb0e0d370d5cbac0ee52e4"), looks := false }, kinds := [], alts := [], laidByText := true, laidKinds := [.data], laidTests := true, laidLooks := .later }
def ArithSignedCardSaid : Prop := Claim7.holds Tryd.pinned (.plain (OpenSpec.ofChange arithSignedSpec)) arithSignedCard

/-- THE SECOND FORM's CARD OF 'sluicewaylaw.ArithSigns'. -/
def arithSignsUptoCard : Claim7 := { stood := { row := arithSignsUptoRow, standIns := [], harness := (true, "91cf19f2d5bbbbf365e6ab2c41b382feff87a0f943bb0e0d370d5cbac0ee52e4"), looks := false }, kinds := [], alts := [], laidByText := true, laidKinds := [.data], laidTests := true, laidLooks := .later }
def ArithSignsUptoCardSaid : Prop := Claim7.holds Tryd.pinned (.plain (OpenSpec.upto arithSignsSpec)) arithSignsUptoCard

/-- THE SECOND FORM's CARD OF 'sluicewaykeep.ArithRing'. -/
def arithRingUptoCard : Claim7 := { stood := { row := arithRingUptoRow, standIns := [], harness := (true, "91cf19f2d5bbbbf365e6ab2c41b382feff87a0f943bb0e0d370d5cbac0ee52e4"), looks := false }, kinds := [], alts := [], laidByText := true, laidKinds := [.data], laidTests := true, laidLooks := .later }
def ArithRingUptoCardSaid : Prop := Claim7.holds Tryd.pinned (.plain (OpenSpec.upto arithRingSpec)) arithRingUptoCard

/-- THE SECOND FORM's CARD OF 'sluicewaykeep.ArithDivides'. -/
def arithDividesUptoCard : Claim7 := { stood := { row := arithDividesUptoRow, standIns := [], harness := (true, "91cf19f2d5bbbbf365e6ab2c41b382feff87a0f943bb0e0d370d5cbac0ee52e4"), looks := false }, kinds := [], alts := [], laidByText := true, laidKinds := [.data], laidTests := true, laidLooks := .later }
def ArithDividesUptoCardSaid : Prop := Claim7.holds Tryd.pinned (.plain (OpenSpec.upto arithDividesSpec)) arithDividesUptoCard

/-- THE SECOND FORM's CARD OF 'sluicewaykeep.ArithBits'. -/
def arithBitsUptoCard : Claim7 := { stood := { row := arithBitsUptoRow, standIns := [], harness := (true, "91cf19f2d5bbbbf365e6ab2c41b382feff87a0f943bb0e0d370d5cbac0ee52e4"), looks := false }, kinds := [], alts := [], laidByText := true, laidKinds := [.data], laidTests := true, laidLooks := .later }
def ArithBitsUptoCardSaid : Prop := Claim7.holds Tryd.pinned (.plain (OpenSpec.upto arithBitsSpec)) arithBitsUptoCard

/-- THE SECOND FORM's CARD OF 'sluicewaykeep.ArithShifts'. -/
def arithShiftsUptoCard : Claim7 := { stood := { row := arithShiftsUptoRow, standIns := [], harness := (true, "91cf19f2d5bbbbf365e6ab2c41b382feff87a0f943bb0e0d370d5cbac0ee52e4"), looks := false }, kinds := [], alts := [], laidByText := true, laidKinds := [.data], laidTests := true, laidLooks := .later }
def ArithShiftsUptoCardSaid : Prop := Claim7.holds Tryd.pinned (.plain (OpenSpec.upto arithShiftsSpec)) arithShiftsUptoCard

/-- THE SECOND FORM's CARD OF 'sluicewaykeep.ArithOrder'. -/
def arithOrderUptoCard : Claim7 := { stood := { row := arithOrderUptoRow, standIns := [], harness := (true, "91cf19f2d5bbbbf365e6ab2c41b382feff87a0f943bb0e0d370d5cbac0ee52e4"), looks := false }, kinds := [], alts := [], laidByText := true, laidKinds := [.data], laidTests := true, laidLooks := .later }
def ArithOrderUptoCardSaid : Prop := Claim7.holds Tryd.pinned (.plain (OpenSpec.upto arithOrderSpec)) arithOrderUptoCard

/-- THE SECOND FORM's CARD OF 'sluicewaykeep.ArithSigned'. -/
def arithSignedUptoCard : Claim7 := { stood := { row := arithSignedUptoRow, standIns := [], harness := (true, "91cf19f2d5bbbbf365e6ab2c41b382feff87a0f943bb0e0d370d5cbac0ee52e4"), looks := false }, kinds := [], alts := [], laidByText := true, laidKinds := [.data], laidTests := true, laidLooks := .later }
def ArithSignedUptoCardSaid : Prop := Claim7.holds Tryd.pinned (.plain (OpenSpec.upto arithSignedSpec)) arithSignedUptoCard
end Rows
end Go.Proofs.YtonpbbflloljgaaDoor
