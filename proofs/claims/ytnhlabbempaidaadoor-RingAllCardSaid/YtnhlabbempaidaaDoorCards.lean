/-
  DERIVED. GIVEN WITH THE SEED: THE CARDS: each row of YtnhlabbempaidaaDoorRows.lean that lists a variable, with what it lists TIED to the program's text (the seventh form; the later family's looks); each row that meets fmt, with fmt's text TOLD by the authors' own Lean function (tested against real Go, not proved from fmt's source: count such statements apart). THE CARD IS WHAT COUNTS. Prove the row's statement (the work); the ties are given (YtnhlabbempaidaaDoorTie.lean); close each card by the builder's one call (the guide's Derived/Test/ToyasCard.lean, 'card_holds'). Laid BY PROGRAM, IN A SANDBOX (cutbox-door.mjs). By AI agents, Wed Nov 11 2026. No macro, syntax, notation, axiom, sorry.
-/
import Derived.Test.YtnhlabbempaidaaDoorRows
import GoSem.ClaimSeven
namespace Go.Proofs.YtnhlabbempaidaaDoor
namespace Rows

/-- THE TIED CARD OF 'sluicewaylaw.RingKeeps'. -/
def ringKeepsCard : Claim7 := { stood := { row := ringKeepsRow, standIns := [], harness := (true, "fae22a6c4eb598e4ee494e3420b5e3cc45967f0c675636b3d4ba90f41505ab29"), looks := true }, kinds := [], alts := [], laidByText := true, laidKinds := [.handle], laidTests := true, laidLooks := .later }
def RingKeepsCardSaid : Prop := Claim7.holds Tryd.pinned (.plain (OpenSpec.ofChange ringKeepsSpec)) ringKeepsCard

/-- THE TIED CARD OF 'sluicewaykeep.RingFifo'. -/
def ringFifoCard : Claim7 := { stood := { row := ringFifoRow, standIns := [], harness := (true, "fae22a6c4eb598e4ee494e3420b5e3cc45967f0c675636b3d4ba90f41505ab29"), looks := true }, kinds := [], alts := [], laidByText := true, laidKinds := [.handle], laidTests := true, laidLooks := .later }
def RingFifoCardSaid : Prop := Claim7.holds Tryd.pinned (.plain (OpenSpec.ofChange ringFifoSpec)) ringFifoCard

/-- THE TIED CARD OF 'sluicewaykeep.RingAll'. -/
def ringAllCard : Claim7 := { stood := { row := ringAllRow, standIns := [], harness := (true, "fae22a6c4eb598e4ee494e3420b5e3cc45967f0c675636b3d4ba90f41505ab29"), looks := true }, kinds := [], alts := [], laidByText := true, laidKinds := [.handle], laidTests := true, laidLooks := .later }
def RingAllCardSaid : Prop := Claim7.holds Tryd.pinned (.plain (OpenSpec.ofChange ringAllSpec)) ringAllCard

/-- THE TIED CARD OF 'sluicewaykeep.RingAlike'. -/
def ringAlikeCard : Claim7 := { stood := { row := ringAlikeRow, standIns := [], harness := (true, "fae22a6c4eb598e4ee494e3420b5e3cc45967f0c675636b3d4ba90f41505ab29"), looks := true }, kinds := [], alts := [], laidByText := true, laidKinds := [.data, .data, .data, .handle], laidTests := true, laidLooks := .later }
def RingAlikeCardSaid : Prop := Claim7.holds Tryd.pinned (.plain (OpenSpec.ofChange ringAlikeSpec)) ringAlikeCard

/-- THE TIED CARD OF 'sluicewaykeep.RingRounds'. -/
def ringRoundsCard : Claim7 := { stood := { row := ringRoundsRow, standIns := [], harness := (true, "fae22a6c4eb598e4ee494e3420b5e3cc45967f0c675636b3d4ba90f41505ab29"), looks := true }, kinds := [], alts := [], laidByText := true, laidKinds := [.handle], laidTests := true, laidLooks := .later }
def RingRoundsCardSaid : Prop := Claim7.holds Tryd.pinned (.plain (OpenSpec.ofChange ringRoundsSpec)) ringRoundsCard

/-- THE TIED CARD OF 'sluicewaykeep.RingDrops'. -/
def ringDropsCard : Claim7 := { stood := { row := ringDropsRow, standIns := [], harness := (true, "fae22a6c4eb598e4ee494e3420b5e3cc45967f0c675636b3d4ba90f41505ab29"), looks := true }, kinds := [], alts := [], laidByText := true, laidKinds := [.handle], laidTests := true, laidLooks := .later }
def RingDropsCardSaid : Prop := Claim7.holds Tryd.pinned (.plain (OpenSpec.ofChange ringDropsSpec)) ringDropsCard

/-- THE TIED CARD OF 'sluicewaylaw.ClockKeeps'. -/
def clockKeepsCard : Claim7 := { stood := { row := clockKeepsRow, standIns := [], harness := (true, "fae22a6c4eb598e4ee494e3420b5e3cc45967f0c675636b3d4ba90f41505ab29"), looks := true }, kinds := [], alts := [], laidByText := true, laidKinds := [.handle], laidTests := true, laidLooks := .later }
def ClockKeepsCardSaid : Prop := Claim7.holds Tryd.pinned (.plain (OpenSpec.ofChange clockKeepsSpec)) clockKeepsCard

/-- THE SECOND FORM's CARD OF 'sluicewaylaw.RingKeeps'. -/
def ringKeepsUptoCard : Claim7 := { stood := { row := ringKeepsUptoRow, standIns := [], harness := (true, "fae22a6c4eb598e4ee494e3420b5e3cc45967f0c675636b3d4ba90f41505ab29"), looks := true }, kinds := [], alts := [], laidByText := true, laidKinds := [.handle], laidTests := true, laidLooks := .later }
def RingKeepsUptoCardSaid : Prop := Claim7.holds Tryd.pinned (.plain (OpenSpec.upto ringKeepsSpec)) ringKeepsUptoCard

/-- THE SECOND FORM's CARD OF 'sluicewaykeep.RingFifo'. -/
def ringFifoUptoCard : Claim7 := { stood := { row := ringFifoUptoRow, standIns := [], harness := (true, "fae22a6c4eb598e4ee494e3420b5e3cc45967f0c675636b3d4ba90f41505ab29"), looks := true }, kinds := [], alts := [], laidByText := true, laidKinds := [.handle], laidTests := true, laidLooks := .later }
def RingFifoUptoCardSaid : Prop := Claim7.holds Tryd.pinned (.plain (OpenSpec.upto ringFifoSpec)) ringFifoUptoCard

/-- THE SECOND FORM's CARD OF 'sluicewaykeep.RingAll'. -/
def ringAllUptoCard : Claim7 := { stood := { row := ringAllUptoRow, standIns := [], harness := (true, "fae22a6c4eb598e4ee494e3420b5e3cc45967f0c675636b3d4ba90f41505ab29"), looks := true }, kinds := [], alts := [], laidByText := true, laidKinds := [.handle], laidTests := true, laidLooks := .later }
def RingAllUptoCardSaid : Prop := Claim7.holds Tryd.pinned (.plain (OpenSpec.upto ringAllSpec)) ringAllUptoCard

/-- THE SECOND FORM's CARD OF 'sluicewaykeep.RingAlike'. -/
def ringAlikeUptoCard : Claim7 := { stood := { row := ringAlikeUptoRow, standIns := [], harness := (true, "fae22a6c4eb598e4ee494e3420b5e3cc45967f0c675636b3d4ba90f41505ab29"), looks := true }, kinds := [], alts := [], laidByText := true, laidKinds := [.data, .data, .data, .handle], laidTests := true, laidLooks := .later }
def RingAlikeUptoCardSaid : Prop := Claim7.holds Tryd.pinned (.plain (OpenSpec.upto ringAlikeSpec)) ringAlikeUptoCard

/-- THE SECOND FORM's CARD OF 'sluicewaykeep.RingRounds'. -/
def ringRoundsUptoCard : Claim7 := { stood := { row := ringRoundsUptoRow, standIns := [], harness := (true, "fae22a6c4eb598e4ee494e3420b5e3cc45967f0c675636b3d4ba90f41505ab29"), looks := true }, kinds := [], alts := [], laidByText := true, laidKinds := [.handle], laidTests := true, laidLooks := .later }
def RingRoundsUptoCardSaid : Prop := Claim7.holds Tryd.pinned (.plain (OpenSpec.upto ringRoundsSpec)) ringRoundsUptoCard

/-- THE SECOND FORM's CARD OF 'sluicewaykeep.RingDrops'. -/
def ringDropsUptoCard : Claim7 := { stood := { row := ringDropsUptoRow, standIns := [], harness := (true, "fae22a6c4eb598e4ee494e3420b5e3cc45967f0c675636b3d4ba90f41505ab29"), looks := true }, kinds := [], alts := [], laidByText := true, laidKinds := [.handle], laidTests := true, laidLooks := .later }
def RingDropsUptoCardSaid : Prop := Claim7.holds Tryd.pinned (.plain (OpenSpec.upto ringDropsSpec)) ringDropsUptoCard

/-- THE SECOND FORM's CARD OF 'sluicewaylaw.ClockKeeps'. -/
def clockKeepsUptoCard : Claim7 := { stood := { row := clockKeepsUptoRow, standIns := [], harness := (true, "fae22a6c4eb598e4ee494e3420b5e3cc45967f0c675636b3d4ba90f41505ab29"), looks := true }, kinds := [], alts := [], laidByText := true, laidKinds := [.handle], laidTests := true, laidLooks := .later }
def ClockKeepsUptoCardSaid : Prop := Claim7.holds Tryd.pinned (.plain (OpenSpec.upto clockKeepsSpec)) clockKeepsUptoCard
end Rows
end Go.Proofs.YtnhlabbempaidaaDoor
