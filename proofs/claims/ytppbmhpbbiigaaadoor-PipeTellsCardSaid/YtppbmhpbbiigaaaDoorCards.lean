/-
  DERIVED. GIVEN WITH THE SEED: THE CARDS: each row of YtppbmhpbbiigaaaDoorRows.lean that lists a variable, with what it lists TIED to the program's text (the seventh form; the later family's looks); each row that meets fmt, with fmt's text TOLD by the authors' own Lean function (tested against real Go, not proved from fmt's source: count such statements apart). THE CARD IS WHAT COUNTS. Prove the row's statement (the work); the ties are given (YtppbmhpbbiigaaaDoorTie.lean); close each card by the builder's one call (the guide's Derived/Test/ToyasCard.lean, 'card_holds'). Laid BY PROGRAM, IN A SANDBOX (cutbox-door.mjs). By AI agents, Wed Nov 11 2026. No macro, syntax, notation, axiom, sorry.
-/
import Derived.Test.YtppbmhpbbiigaaaDoorRows
import GoSem.ClaimSeven
namespace Go.Proofs.YtppbmhpbbiigaaaDoor
namespace Rows

/-- THE TIED CARD OF 'sluicewaylaw.PipeTells'. -/
def pipeTellsCard : Claim7 := { stood := { row := pipeTellsRow, standIns := [], harness := (true, "f32e400cb6ca61945cd4839de6f46b37cdcbfdc695eec4ec138ee331ae0fef66"), looks := true }, kinds := [], alts := [], laidByText := true, laidKinds := [.handle], laidTests := true, laidLooks := .later }
def PipeTellsCardSaid : Prop := Claim7.holds Tryd.pinned (.plain (OpenSpec.ofChange pipeTellsSpec)) pipeTellsCard

/-- THE TIED CARD OF 'sluicewaykeep.PipeShut'. -/
def pipeShutCard : Claim7 := { stood := { row := pipeShutRow, standIns := [], harness := (true, "f32e400cb6ca61945cd4839de6f46b37cdcbfdc695eec4ec138ee331ae0fef66"), looks := true }, kinds := [], alts := [], laidByText := true, laidKinds := [.handle], laidTests := true, laidLooks := .later }
def PipeShutCardSaid : Prop := Claim7.holds Tryd.pinned (.plain (OpenSpec.ofChange pipeShutSpec)) pipeShutCard

/-- THE SECOND FORM's CARD OF 'sluicewaylaw.PipeTells'. -/
def pipeTellsUptoCard : Claim7 := { stood := { row := pipeTellsUptoRow, standIns := [], harness := (true, "f32e400cb6ca61945cd4839de6f46b37cdcbfdc695eec4ec138ee331ae0fef66"), looks := true }, kinds := [], alts := [], laidByText := true, laidKinds := [.handle], laidTests := true, laidLooks := .later }
def PipeTellsUptoCardSaid : Prop := Claim7.holds Tryd.pinned (.plain (OpenSpec.upto pipeTellsSpec)) pipeTellsUptoCard

/-- THE SECOND FORM's CARD OF 'sluicewaykeep.PipeShut'. -/
def pipeShutUptoCard : Claim7 := { stood := { row := pipeShutUptoRow, standIns := [], harness := (true, "f32e400cb6ca61945cd4839de6f46b37cdcbfdc695eec4ec138ee331ae0fef66"), looks := true }, kinds := [], alts := [], laidByText := true, laidKinds := [.handle], laidTests := true, laidLooks := .later }
def PipeShutUptoCardSaid : Prop := Claim7.holds Tryd.pinned (.plain (OpenSpec.upto pipeShutSpec)) pipeShutUptoCard
end Rows
end Go.Proofs.YtppbmhpbbiigaaaDoor
