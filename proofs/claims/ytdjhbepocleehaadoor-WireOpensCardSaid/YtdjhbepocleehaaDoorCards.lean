/-
  DERIVED. GIVEN WITH THE SEED: THE CARDS: each row of YtdjhbepocleehaaDoorRows.lean that lists a variable, with what it lists TIED to the program's text (the seventh form; the later family's looks); each row that meets fmt, with fmt's text TOLD by the authors' own Lean function (tested against real Go, not proved from fmt's source: count such statements apart). THE CARD IS WHAT COUNTS. Prove the row's statement (the work); the ties are given (YtdjhbepocleehaaDoorTie.lean); close each card by the builder's one call (the guide's Derived/Test/ToyasCard.lean, 'card_holds'). Laid BY PROGRAM, IN A SANDBOX (cutbox-door.mjs). By AI agents, Wed Nov 11 2026. No macro, syntax, notation, axiom, sorry.
-/
import Derived.Test.YtdjhbepocleehaaDoorRows
import GoSem.ClaimSeven
namespace Go.Proofs.YtdjhbepocleehaaDoor
namespace Rows

/-- THE TIED CARD OF 'sluicewaylaw.VaryNums'. -/
def varyNumsCard : Claim7 := { stood := { row := varyNumsRow, standIns := [], harness := (true, "f835802e4ee2daba50f82396e7e4f328a16080339d6af826b72e1e1a0dca91c7"), looks := true }, kinds := [], alts := [], laidByText := true, laidKinds := [.handle], laidTests := true, laidLooks := .later }
def VaryNumsCardSaid : Prop := Claim7.holds Tryd.pinned (.plain (OpenSpec.ofChange varyNumsSpec)) varyNumsCard

/-- THE TIED CARD OF 'sluicewaylaw.VaryInts'. -/
def varyIntsCard : Claim7 := { stood := { row := varyIntsRow, standIns := [], harness := (true, "f835802e4ee2daba50f82396e7e4f328a16080339d6af826b72e1e1a0dca91c7"), looks := true }, kinds := [], alts := [], laidByText := true, laidKinds := [.handle], laidTests := true, laidLooks := .later }
def VaryIntsCardSaid : Prop := Claim7.holds Tryd.pinned (.plain (OpenSpec.ofChange varyIntsSpec)) varyIntsCard

/-- THE TIED CARD OF 'sluicewaylaw.VaryTexts'. -/
def varyTextsCard : Claim7 := { stood := { row := varyTextsRow, standIns := [], harness := (true, "f835802e4ee2daba50f82396e7e4f328a16080339d6af826b72e1e1a0dca91c7"), looks := true }, kinds := [], alts := [], laidByText := true, laidKinds := [.handle], laidTests := true, laidLooks := .later }
def VaryTextsCardSaid : Prop := Claim7.holds Tryd.pinned (.plain (OpenSpec.ofChange varyTextsSpec)) varyTextsCard

/-- THE TIED CARD OF 'sluicewaylaw.WireSeals'. -/
def wireSealsCard : Claim7 := { stood := { row := wireSealsRow, standIns := [], harness := (true, "f835802e4ee2daba50f82396e7e4f328a16080339d6af826b72e1e1a0dca91c7"), looks := true }, kinds := [], alts := [], laidByText := true, laidKinds := [.handle, .data], laidTests := true, laidLooks := .later }
def WireSealsCardSaid : Prop := Claim7.holds Tryd.pinned (.plain (OpenSpec.ofChange wireSealsSpec)) wireSealsCard

/-- THE TIED CARD OF 'sluicewaylaw.WireOpens'. -/
def wireOpensCard : Claim7 := { stood := { row := wireOpensRow, standIns := [], harness := (true, "f835802e4ee2daba50f82396e7e4f328a16080339d6af826b72e1e1a0dca91c7"), looks := true }, kinds := [], alts := [], laidByText := true, laidKinds := [.handle, .data], laidTests := true, laidLooks := .later }
def WireOpensCardSaid : Prop := Claim7.holds Tryd.pinned (.plain (OpenSpec.ofChange wireOpensSpec)) wireOpensCard

/-- THE TIED CARD OF 'sluicewaykeep.WireBack'. -/
def wireBackCard : Claim7 := { stood := { row := wireBackRow, standIns := [], harness := (true, "f835802e4ee2daba50f82396e7e4f328a16080339d6af826b72e1e1a0dca91c7"), looks := true }, kinds := [], alts := [], laidByText := true, laidKinds := [.data], laidTests := true, laidLooks := .later }
def WireBackCardSaid : Prop := Claim7.holds Tryd.pinned (.plain (OpenSpec.ofChange wireBackSpec)) wireBackCard

/-- THE TIED CARD OF 'sluicewaykeep.WireOne'. -/
def wireOneCard : Claim7 := { stood := { row := wireOneRow, standIns := [], harness := (true, "f835802e4ee2daba50f82396e7e4f328a16080339d6af826b72e1e1a0dca91c7"), looks := true }, kinds := [], alts := [], laidByText := true, laidKinds := [.data], laidTests := true, laidLooks := .later }
def WireOneCardSaid : Prop := Claim7.holds Tryd.pinned (.plain (OpenSpec.ofChange wireOneSpec)) wireOneCard

/-- THE SECOND FORM's CARD OF 'sluicewaylaw.VaryNums'. -/
def varyNumsUptoCard : Claim7 := { stood := { row := varyNumsUptoRow, standIns := [], harness := (true, "f835802e4ee2daba50f82396e7e4f328a16080339d6af826b72e1e1a0dca91c7"), looks := true }, kinds := [], alts := [], laidByText := true, laidKinds := [.handle], laidTests := true, laidLooks := .later }
def VaryNumsUptoCardSaid : Prop := Claim7.holds Tryd.pinned (.plain (OpenSpec.upto varyNumsSpec)) varyNumsUptoCard

/-- THE SECOND FORM's CARD OF 'sluicewaylaw.VaryInts'. -/
def varyIntsUptoCard : Claim7 := { stood := { row := varyIntsUptoRow, standIns := [], harness := (true, "f835802e4ee2daba50f82396e7e4f328a16080339d6af826b72e1e1a0dca91c7"), looks := true }, kinds := [], alts := [], laidByText := true, laidKinds := [.handle], laidTests := true, laidLooks := .later }
def VaryIntsUptoCardSaid : Prop := Claim7.holds Tryd.pinned (.plain (OpenSpec.upto varyIntsSpec)) varyIntsUptoCard

/-- THE SECOND FORM's CARD OF 'sluicewaylaw.VaryTexts'. -/
def varyTextsUptoCard : Claim7 := { stood := { row := varyTextsUptoRow, standIns := [], harness := (true, "f835802e4ee2daba50f82396e7e4f328a16080339d6af826b72e1e1a0dca91c7"), looks := true }, kinds := [], alts := [], laidByText := true, laidKinds := [.handle], laidTests := true, laidLooks := .later }
def VaryTextsUptoCardSaid : Prop := Claim7.holds Tryd.pinned (.plain (OpenSpec.upto varyTextsSpec)) varyTextsUptoCard

/-- THE SECOND FORM's CARD OF 'sluicewaylaw.WireSeals'. -/
def wireSealsUptoCard : Claim7 := { stood := { row := wireSealsUptoRow, standIns := [], harness := (true, "f835802e4ee2daba50f82396e7e4f328a16080339d6af826b72e1e1a0dca91c7"), looks := true }, kinds := [], alts := [], laidByText := true, laidKinds := [.handle, .data], laidTests := true, laidLooks := .later }
def WireSealsUptoCardSaid : Prop := Claim7.holds Tryd.pinned (.plain (OpenSpec.upto wireSealsSpec)) wireSealsUptoCard

/-- THE SECOND FORM's CARD OF 'sluicewaylaw.WireOpens'. -/
def wireOpensUptoCard : Claim7 := { stood := { row := wireOpensUptoRow, standIns := [], harness := (true, "f835802e4ee2daba50f82396e7e4f328a16080339d6af826b72e1e1a0dca91c7"), looks := true }, kinds := [], alts := [], laidByText := true, laidKinds := [.handle, .data], laidTests := true, laidLooks := .later }
def WireOpensUptoCardSaid : Prop := Claim7.holds Tryd.pinned (.plain (OpenSpec.upto wireOpensSpec)) wireOpensUptoCard

/-- THE SECOND FORM's CARD OF 'sluicewaykeep.WireBack'. -/
def wireBackUptoCard : Claim7 := { stood := { row := wireBackUptoRow, standIns := [], harness := (true, "f835802e4ee2daba50f82396e7e4f328a16080339d6af826b72e1e1a0dca91c7"), looks := true }, kinds := [], alts := [], laidByText := true, laidKinds := [.data], laidTests := true, laidLooks := .later }
def WireBackUptoCardSaid : Prop := Claim7.holds Tryd.pinned (.plain (OpenSpec.upto wireBackSpec)) wireBackUptoCard

/-- THE SECOND FORM's CARD OF 'sluicewaykeep.WireOne'. -/
def wireOneUptoCard : Claim7 := { stood := { row := wireOneUptoRow, standIns := [], harness := (true, "f835802e4ee2daba50f82396e7e4f328a16080339d6af826b72e1e1a0dca91c7"), looks := true }, kinds := [], alts := [], laidByText := true, laidKinds := [.data], laidTests := true, laidLooks := .later }
def WireOneUptoCardSaid : Prop := Claim7.holds Tryd.pinned (.plain (OpenSpec.upto wireOneSpec)) wireOneUptoCard
end Rows
end Go.Proofs.YtdjhbepocleehaaDoor
