/-
  NARROWER THAN 'FOR EVERY INPUT', by the rows' own cells (each row's printed sentence says how): RoomTells: laid · RoomGives: laid · RoomPieces: laid · RoomEnds: laid · RoomClock: laid · RoomBalance: laid · RoomForks: laid · RoomApart: laid.
  DERIVED. THE GIVEN ROWS OF THIS SEAT. 8 by the template 'for every input the law returns true; each argument reads behind the call as it read before'; 0 by the template 'total and deterministic' (their statements: YtnjdmijcoadidaaGreatDoorTotals.lean).
  GIVEN WITH THE SEED: the statements are not yours to turn. If you find one false, say at which input.
  Laid BY PROGRAM, IN A SANDBOX (cutbox-rows.mjs): the forced cells as the released guide's own fill.sh prints them over the translation 50e9a9082ebd8b8f… (all of the seat's roots in one cut). By AI agents, Wed Nov 11 2026. No macro, syntax, notation, axiom, sorry.
-/
import Derived.Test.YtnjdmijcoadidaaGreatDoorChecked
import GoSem.Claim
import GoSem.ClaimJoined
import GoSem.ClaimMapViews
import Derived.JoinedTies
import Derived.KernelRfl
namespace Go.Proofs.YtnjdmijcoadidaaGreatDoor
/- THE CELL 'sum', in the pinned program and in every row, IS THE sha256 OF THE DUMP (.gsa) THAT YtnjdmijcoadidaaGreatDoorProg.lean LOADS. Nothing in Lean hashes anything: it is a label: what it is worth is what the hold of that sum in a sandbox is worth. -/
noncomputable def Tryz.pinned : Pinned := { name := "ytnjdmijcoadidaagreatdoor", sum := "50e9a9082ebd8b8fb2f0f1fa7848a329c5e416a6a1478e7e652c1ad83b2f75bf", checked := Tryz.checked }
namespace Rows
def none {H : Type} : Left H := { results := [], args := [] }

/- WHAT THE LISTED PACKAGE-LEVEL VARIABLES READ AS WHEN THE CALL BEGINS. Each datum BY PROGRAM (the guide's laid-datum.mjs) off the statement by which the dump's own 'gosem.cut.vars' lays the variable. In a bare row this is a premise. The card (YtnjdmijcoadidaaGreatDoorCards.lean) ties it to the program's text. -/
def laid_errors_errorType {H : Type} : DataW H := .iface "internal/reflectlite.rtype" (.agg [.ptr (.lit (.string [101, 114, 114, 111, 114]))])

/-- 'sluicewaylaw.RoomTells': WHATEVER THE INPUT: true; the input reads as it did. -/
def roomTellsSpec : ChangeSpec := { name := "roomTells", fn := fun _ => fun
  | [d1, d2, d3] => { results := [.lit (.bool true)], args := [d1, d2, d3] }
  | _ => none }
def roomTellsRow : OpenClaim := { program := "ytnjdmijcoadidaagreatdoor", sum := "50e9a9082ebd8b8fb2f0f1fa7848a329c5e416a6a1478e7e652c1ad83b2f75bf", func := "sluiceway/sluicewaylaw.RoomTells", spec := "roomTells", inPlace := ["internal/reflectlite.ValueOf", "(internal/reflectlite.Value).Type", "(internal/reflectlite.Value).IsNil", "internal/reflectlite.TypeOf", "(internal/reflectlite.Value).Elem", "(internal/reflectlite.Value).Set"], unfollowed := true, recurses := true, named := ["errors.errorType"], apart := false, laid := [("errors.errorType", laid_errors_errorType)] }
def RoomTellsSaid : Prop := roomTellsRow.holds Tryz.pinned (OpenSpec.ofChange roomTellsSpec)

/-- ITS FALSE NEIGHBOUR: 'it returns false'. Refute it at one input. -/
def roomTellsWrong : ChangeSpec := { name := "roomTells", fn := fun _ => fun
  | [d1, d2, d3] => { results := [.lit (.bool false)], args := [d1, d2, d3] }
  | _ => none }
def RoomTellsWrongFalsely : Prop := roomTellsRow.holds Tryz.pinned (OpenSpec.ofChange roomTellsWrong)

/-- 'sluicewaylaw.RoomGives': WHATEVER THE INPUT: true; the input reads as it did. -/
def roomGivesSpec : ChangeSpec := { name := "roomGives", fn := fun _ => fun
  | [d1, d2, d3] => { results := [.lit (.bool true)], args := [d1, d2, d3] }
  | _ => none }
def roomGivesRow : OpenClaim := { program := "ytnjdmijcoadidaagreatdoor", sum := "50e9a9082ebd8b8fb2f0f1fa7848a329c5e416a6a1478e7e652c1ad83b2f75bf", func := "sluiceway/sluicewaylaw.RoomGives", spec := "roomGives", inPlace := ["internal/reflectlite.ValueOf", "(internal/reflectlite.Value).Type", "(internal/reflectlite.Value).IsNil", "internal/reflectlite.TypeOf", "(internal/reflectlite.Value).Elem", "(internal/reflectlite.Value).Set"], unfollowed := true, recurses := true, named := ["errors.errorType"], apart := false, laid := [("errors.errorType", laid_errors_errorType)] }
def RoomGivesSaid : Prop := roomGivesRow.holds Tryz.pinned (OpenSpec.ofChange roomGivesSpec)

/-- ITS FALSE NEIGHBOUR: 'it returns false'. Refute it at one input. -/
def roomGivesWrong : ChangeSpec := { name := "roomGives", fn := fun _ => fun
  | [d1, d2, d3] => { results := [.lit (.bool false)], args := [d1, d2, d3] }
  | _ => none }
def RoomGivesWrongFalsely : Prop := roomGivesRow.holds Tryz.pinned (OpenSpec.ofChange roomGivesWrong)

/-- 'sluicewaykeep.RoomPieces': WHATEVER THE INPUT: true; the input reads as it did. -/
def roomPiecesSpec : ChangeSpec := { name := "roomPieces", fn := fun _ => fun
  | [d1, d2, d3, d4] => { results := [.lit (.bool true)], args := [d1, d2, d3, d4] }
  | _ => none }
def roomPiecesRow : OpenClaim := { program := "ytnjdmijcoadidaagreatdoor", sum := "50e9a9082ebd8b8fb2f0f1fa7848a329c5e416a6a1478e7e652c1ad83b2f75bf", func := "sluiceway/sluicewaykeep.RoomPieces", spec := "roomPieces", inPlace := ["internal/reflectlite.ValueOf", "(internal/reflectlite.Value).Type", "(internal/reflectlite.Value).IsNil", "internal/reflectlite.TypeOf", "(internal/reflectlite.Value).Elem", "(internal/reflectlite.Value).Set"], unfollowed := true, recurses := true, named := ["errors.errorType"], apart := false, laid := [("errors.errorType", laid_errors_errorType)] }
def RoomPiecesSaid : Prop := roomPiecesRow.holds Tryz.pinned (OpenSpec.ofChange roomPiecesSpec)

/-- ITS FALSE NEIGHBOUR: 'it returns false'. Refute it at one input. -/
def roomPiecesWrong : ChangeSpec := { name := "roomPieces", fn := fun _ => fun
  | [d1, d2, d3, d4] => { results := [.lit (.bool false)], args := [d1, d2, d3, d4] }
  | _ => none }
def RoomPiecesWrongFalsely : Prop := roomPiecesRow.holds Tryz.pinned (OpenSpec.ofChange roomPiecesWrong)

/-- 'sluicewaykeep.RoomEnds': WHATEVER THE INPUT: true; the input reads as it did. -/
def roomEndsSpec : ChangeSpec := { name := "roomEnds", fn := fun _ => fun
  | [d1, d2, d3] => { results := [.lit (.bool true)], args := [d1, d2, d3] }
  | _ => none }
def roomEndsRow : OpenClaim := { program := "ytnjdmijcoadidaagreatdoor", sum := "50e9a9082ebd8b8fb2f0f1fa7848a329c5e416a6a1478e7e652c1ad83b2f75bf", func := "sluiceway/sluicewaykeep.RoomEnds", spec := "roomEnds", inPlace := ["internal/reflectlite.ValueOf", "(internal/reflectlite.Value).Type", "(internal/reflectlite.Value).IsNil", "internal/reflectlite.TypeOf", "(internal/reflectlite.Value).Elem", "(internal/reflectlite.Value).Set"], unfollowed := true, recurses := true, named := ["errors.errorType"], apart := false, laid := [("errors.errorType", laid_errors_errorType)] }
def RoomEndsSaid : Prop := roomEndsRow.holds Tryz.pinned (OpenSpec.ofChange roomEndsSpec)

/-- ITS FALSE NEIGHBOUR: 'it returns false'. Refute it at one input. -/
def roomEndsWrong : ChangeSpec := { name := "roomEnds", fn := fun _ => fun
  | [d1, d2, d3] => { results := [.lit (.bool false)], args := [d1, d2, d3] }
  | _ => none }
def RoomEndsWrongFalsely : Prop := roomEndsRow.holds Tryz.pinned (OpenSpec.ofChange roomEndsWrong)

/-- 'sluicewaykeep.RoomClock': WHATEVER THE INPUT: true; the input reads as it did. -/
def roomClockSpec : ChangeSpec := { name := "roomClock", fn := fun _ => fun
  | [d1, d2, d3] => { results := [.lit (.bool true)], args := [d1, d2, d3] }
  | _ => none }
def roomClockRow : OpenClaim := { program := "ytnjdmijcoadidaagreatdoor", sum := "50e9a9082ebd8b8fb2f0f1fa7848a329c5e416a6a1478e7e652c1ad83b2f75bf", func := "sluiceway/sluicewaykeep.RoomClock", spec := "roomClock", inPlace := ["internal/reflectlite.ValueOf", "(internal/reflectlite.Value).Type", "(internal/reflectlite.Value).IsNil", "internal/reflectlite.TypeOf", "(internal/reflectlite.Value).Elem", "(internal/reflectlite.Value).Set"], unfollowed := true, recurses := true, named := ["errors.errorType"], apart := false, laid := [("errors.errorType", laid_errors_errorType)] }
def RoomClockSaid : Prop := roomClockRow.holds Tryz.pinned (OpenSpec.ofChange roomClockSpec)

/-- ITS FALSE NEIGHBOUR: 'it returns false'. Refute it at one input. -/
def roomClockWrong : ChangeSpec := { name := "roomClock", fn := fun _ => fun
  | [d1, d2, d3] => { results := [.lit (.bool false)], args := [d1, d2, d3] }
  | _ => none }
def RoomClockWrongFalsely : Prop := roomClockRow.holds Tryz.pinned (OpenSpec.ofChange roomClockWrong)

/-- 'sluicewaykeep.RoomBalance': WHATEVER THE INPUT: true; the input reads as it did. -/
def roomBalanceSpec : ChangeSpec := { name := "roomBalance", fn := fun _ => fun
  | [d1, d2, d3] => { results := [.lit (.bool true)], args := [d1, d2, d3] }
  | _ => none }
def roomBalanceRow : OpenClaim := { program := "ytnjdmijcoadidaagreatdoor", sum := "50e9a9082ebd8b8fb2f0f1fa7848a329c5e416a6a1478e7e652c1ad83b2f75bf", func := "sluiceway/sluicewaykeep.RoomBalance", spec := "roomBalance", inPlace := ["internal/reflectlite.ValueOf", "(internal/reflectlite.Value).Type", "(internal/reflectlite.Value).IsNil", "internal/reflectlite.TypeOf", "(internal/reflectlite.Value).Elem", "(internal/reflectlite.Value).Set"], unfollowed := true, recurses := true, named := ["errors.errorType"], apart := false, laid := [("errors.errorType", laid_errors_errorType)] }
def RoomBalanceSaid : Prop := roomBalanceRow.holds Tryz.pinned (OpenSpec.ofChange roomBalanceSpec)

/-- ITS FALSE NEIGHBOUR: 'it returns false'. Refute it at one input. -/
def roomBalanceWrong : ChangeSpec := { name := "roomBalance", fn := fun _ => fun
  | [d1, d2, d3] => { results := [.lit (.bool false)], args := [d1, d2, d3] }
  | _ => none }
def RoomBalanceWrongFalsely : Prop := roomBalanceRow.holds Tryz.pinned (OpenSpec.ofChange roomBalanceWrong)

/-- 'sluicewaykeep.RoomForks': WHATEVER THE INPUT: true; the input reads as it did. -/
def roomForksSpec : ChangeSpec := { name := "roomForks", fn := fun _ => fun
  | [d1, d2, d3] => { results := [.lit (.bool true)], args := [d1, d2, d3] }
  | _ => none }
def roomForksRow : OpenClaim := { program := "ytnjdmijcoadidaagreatdoor", sum := "50e9a9082ebd8b8fb2f0f1fa7848a329c5e416a6a1478e7e652c1ad83b2f75bf", func := "sluiceway/sluicewaykeep.RoomForks", spec := "roomForks", inPlace := ["internal/reflectlite.ValueOf", "(internal/reflectlite.Value).Type", "(internal/reflectlite.Value).IsNil", "internal/reflectlite.TypeOf", "(internal/reflectlite.Value).Elem", "(internal/reflectlite.Value).Set"], unfollowed := true, recurses := true, named := ["errors.errorType"], apart := false, laid := [("errors.errorType", laid_errors_errorType)] }
def RoomForksSaid : Prop := roomForksRow.holds Tryz.pinned (OpenSpec.ofChange roomForksSpec)

/-- ITS FALSE NEIGHBOUR: 'it returns false'. Refute it at one input. -/
def roomForksWrong : ChangeSpec := { name := "roomForks", fn := fun _ => fun
  | [d1, d2, d3] => { results := [.lit (.bool false)], args := [d1, d2, d3] }
  | _ => none }
def RoomForksWrongFalsely : Prop := roomForksRow.holds Tryz.pinned (OpenSpec.ofChange roomForksWrong)

/-- 'sluicewaykeep.RoomApart': WHATEVER THE INPUT: true; the input reads as it did. -/
def roomApartSpec : ChangeSpec := { name := "roomApart", fn := fun _ => fun
  | [d1, d2, d3, d4, d5, d6] => { results := [.lit (.bool true)], args := [d1, d2, d3, d4, d5, d6] }
  | _ => none }
def roomApartRow : OpenClaim := { program := "ytnjdmijcoadidaagreatdoor", sum := "50e9a9082ebd8b8fb2f0f1fa7848a329c5e416a6a1478e7e652c1ad83b2f75bf", func := "sluiceway/sluicewaykeep.RoomApart", spec := "roomApart", inPlace := ["internal/reflectlite.ValueOf", "(internal/reflectlite.Value).Type", "(internal/reflectlite.Value).IsNil", "internal/reflectlite.TypeOf", "(internal/reflectlite.Value).Elem", "(internal/reflectlite.Value).Set"], unfollowed := true, recurses := true, named := ["errors.errorType"], apart := false, laid := [("errors.errorType", laid_errors_errorType)] }
def RoomApartSaid : Prop := roomApartRow.holds Tryz.pinned (OpenSpec.ofChange roomApartSpec)

/-- ITS FALSE NEIGHBOUR: 'it returns false'. Refute it at one input. -/
def roomApartWrong : ChangeSpec := { name := "roomApart", fn := fun _ => fun
  | [d1, d2, d3, d4, d5, d6] => { results := [.lit (.bool false)], args := [d1, d2, d3, d4, d5, d6] }
  | _ => none }
def RoomApartWrongFalsely : Prop := roomApartRow.holds Tryz.pinned (OpenSpec.ofChange roomApartWrong)

/- THE SECOND FORM. 'bulk': how many values and letters a reading holds, each counted each time it is reached (what is shared counts as often as it is met; a slice's spare places count too). A statement '..UptoSaid' is the law's where the arguments, and the package variables that the reading takes, are together of bulk at most 1048576: NARROWER than '..Said'. Prove '..Said' where nothing that the law and all that it calls make is longer than what came in: it says more and counts as full. Else prove '..UptoSaid'. A law counts once. -/
mutual
def uptoBulk {H : Type} : DataW H → Nat
  | .lit (.string bytes) => bytes.length + 1
  | .lit _ => 1
  | .nil => 1
  | .ptr d => uptoBulk d + 1
  | .slice elems spare => uptoBulkAll elems + uptoBulkAll spare + 1
  | .agg parts => uptoBulkAll parts + 1
  | .iface _ d => uptoBulk d + 1
  | .map entries => uptoBulkEntries entries + 1
  | .held _ => 1
def uptoBulkAll {H : Type} : List (DataW H) → Nat
  | [] => 0
  | d :: r => uptoBulk d + uptoBulkAll r
def uptoBulkEntries {H : Type} : List (Lit × DataW H) → Nat
  | [] => 0
  | x :: r => uptoBulkEntry x + uptoBulkEntries r
def uptoBulkEntry {H : Type} : Lit × DataW H → Nat
  | (.string bytes, d) => bytes.length + uptoBulk d + 1
  | (_, d) => uptoBulk d + 1
 end
def uptoSmall : (H : Type) → List (DataW H) → Bool := fun _ ds => decide (uptoBulkAll ds ≤ 1048576)
def OpenSpec.upto (s : _root_.Go.ChangeSpec) : _root_.Go.OpenSpec := { _root_.Go.OpenSpec.ofChange s with cond := some uptoSmall }

/-- 'sluicewaylaw.RoomTells', WHERE WHAT IT READS IS OF BULK AT MOST 1048576: true; the input reads as it did. -/
def roomTellsUptoRow : OpenClaim := { program := "ytnjdmijcoadidaagreatdoor", sum := "50e9a9082ebd8b8fb2f0f1fa7848a329c5e416a6a1478e7e652c1ad83b2f75bf", func := "sluiceway/sluicewaylaw.RoomTells", spec := "roomTells", inPlace := ["internal/reflectlite.ValueOf", "(internal/reflectlite.Value).Type", "(internal/reflectlite.Value).IsNil", "internal/reflectlite.TypeOf", "(internal/reflectlite.Value).Elem", "(internal/reflectlite.Value).Set"], unfollowed := true, recurses := true, named := ["errors.errorType"], apart := false, laid := [("errors.errorType", laid_errors_errorType)], narrowed := true }
def RoomTellsUptoSaid : Prop := roomTellsUptoRow.holds Tryz.pinned (OpenSpec.upto roomTellsSpec)

/-- 'sluicewaylaw.RoomGives', WHERE WHAT IT READS IS OF BULK AT MOST 1048576: true; the input reads as it did. -/
def roomGivesUptoRow : OpenClaim := { program := "ytnjdmijcoadidaagreatdoor", sum := "50e9a9082ebd8b8fb2f0f1fa7848a329c5e416a6a1478e7e652c1ad83b2f75bf", func := "sluiceway/sluicewaylaw.RoomGives", spec := "roomGives", inPlace := ["internal/reflectlite.ValueOf", "(internal/reflectlite.Value).Type", "(internal/reflectlite.Value).IsNil", "internal/reflectlite.TypeOf", "(internal/reflectlite.Value).Elem", "(internal/reflectlite.Value).Set"], unfollowed := true, recurses := true, named := ["errors.errorType"], apart := false, laid := [("errors.errorType", laid_errors_errorType)], narrowed := true }
def RoomGivesUptoSaid : Prop := roomGivesUptoRow.holds Tryz.pinned (OpenSpec.upto roomGivesSpec)

/-- 'sluicewaykeep.RoomPieces', WHERE WHAT IT READS IS OF BULK AT MOST 1048576: true; the input reads as it did. -/
def roomPiecesUptoRow : OpenClaim := { program := "ytnjdmijcoadidaagreatdoor", sum := "50e9a9082ebd8b8fb2f0f1fa7848a329c5e416a6a1478e7e652c1ad83b2f75bf", func := "sluiceway/sluicewaykeep.RoomPieces", spec := "roomPieces", inPlace := ["internal/reflectlite.ValueOf", "(internal/reflectlite.Value).Type", "(internal/reflectlite.Value).IsNil", "internal/reflectlite.TypeOf", "(internal/reflectlite.Value).Elem", "(internal/reflectlite.Value).Set"], unfollowed := true, recurses := true, named := ["errors.errorType"], apart := false, laid := [("errors.errorType", laid_errors_errorType)], narrowed := true }
def RoomPiecesUptoSaid : Prop := roomPiecesUptoRow.holds Tryz.pinned (OpenSpec.upto roomPiecesSpec)

/-- 'sluicewaykeep.RoomEnds', WHERE WHAT IT READS IS OF BULK AT MOST 1048576: true; the input reads as it did. -/
def roomEndsUptoRow : OpenClaim := { program := "ytnjdmijcoadidaagreatdoor", sum := "50e9a9082ebd8b8fb2f0f1fa7848a329c5e416a6a1478e7e652c1ad83b2f75bf", func := "sluiceway/sluicewaykeep.RoomEnds", spec := "roomEnds", inPlace := ["internal/reflectlite.ValueOf", "(internal/reflectlite.Value).Type", "(internal/reflectlite.Value).IsNil", "internal/reflectlite.TypeOf", "(internal/reflectlite.Value).Elem", "(internal/reflectlite.Value).Set"], unfollowed := true, recurses := true, named := ["errors.errorType"], apart := false, laid := [("errors.errorType", laid_errors_errorType)], narrowed := true }
def RoomEndsUptoSaid : Prop := roomEndsUptoRow.holds Tryz.pinned (OpenSpec.upto roomEndsSpec)

/-- 'sluicewaykeep.RoomClock', WHERE WHAT IT READS IS OF BULK AT MOST 1048576: true; the input reads as it did. -/
def roomClockUptoRow : OpenClaim := { program := "ytnjdmijcoadidaagreatdoor", sum := "50e9a9082ebd8b8fb2f0f1fa7848a329c5e416a6a1478e7e652c1ad83b2f75bf", func := "sluiceway/sluicewaykeep.RoomClock", spec := "roomClock", inPlace := ["internal/reflectlite.ValueOf", "(internal/reflectlite.Value).Type", "(internal/reflectlite.Value).IsNil", "internal/reflectlite.TypeOf", "(internal/reflectlite.Value).Elem", "(internal/reflectlite.Value).Set"], unfollowed := true, recurses := true, named := ["errors.errorType"], apart := false, laid := [("errors.errorType", laid_errors_errorType)], narrowed := true }
def RoomClockUptoSaid : Prop := roomClockUptoRow.holds Tryz.pinned (OpenSpec.upto roomClockSpec)

/-- 'sluicewaykeep.RoomBalance', WHERE WHAT IT READS IS OF BULK AT MOST 1048576: true; the input reads as it did. -/
def roomBalanceUptoRow : OpenClaim := { program := "ytnjdmijcoadidaagreatdoor", sum := "50e9a9082ebd8b8fb2f0f1fa7848a329c5e416a6a1478e7e652c1ad83b2f75bf", func := "sluiceway/sluicewaykeep.RoomBalance", spec := "roomBalance", inPlace := ["internal/reflectlite.ValueOf", "(internal/reflectlite.Value).Type", "(internal/reflectlite.Value).IsNil", "internal/reflectlite.TypeOf", "(internal/reflectlite.Value).Elem", "(internal/reflectlite.Value).Set"], unfollowed := true, recurses := true, named := ["errors.errorType"], apart := false, laid := [("errors.errorType", laid_errors_errorType)], narrowed := true }
def RoomBalanceUptoSaid : Prop := roomBalanceUptoRow.holds Tryz.pinned (OpenSpec.upto roomBalanceSpec)

/-- 'sluicewaykeep.RoomForks', WHERE WHAT IT READS IS OF BULK AT MOST 1048576: true; the input reads as it did. -/
def roomForksUptoRow : OpenClaim := { program := "ytnjdmijcoadidaagreatdoor", sum := "50e9a9082ebd8b8fb2f0f1fa7848a329c5e416a6a1478e7e652c1ad83b2f75bf", func := "sluiceway/sluicewaykeep.RoomForks", spec := "roomForks", inPlace := ["internal/reflectlite.ValueOf", "(internal/reflectlite.Value).Type", "(internal/reflectlite.Value).IsNil", "internal/reflectlite.TypeOf", "(internal/reflectlite.Value).Elem", "(internal/reflectlite.Value).Set"], unfollowed := true, recurses := true, named := ["errors.errorType"], apart := false, laid := [("errors.errorType", laid_errors_errorType)], narrowed := true }
def RoomForksUptoSaid : Prop := roomForksUptoRow.holds Tryz.pinned (OpenSpec.upto roomForksSpec)

/-- 'sluicewaykeep.RoomApart', WHERE WHAT IT READS IS OF BULK AT MOST 1048576: true; the input reads as it did. -/
def roomApartUptoRow : OpenClaim := { program := "ytnjdmijcoadidaagreatdoor", sum := "50e9a9082ebd8b8fb2f0f1fa7848a329c5e416a6a1478e7e652c1ad83b2f75bf", func := "sluiceway/sluicewaykeep.RoomApart", spec := "roomApart", inPlace := ["internal/reflectlite.ValueOf", "(internal/reflectlite.Value).Type", "(internal/reflectlite.Value).IsNil", "internal/reflectlite.TypeOf", "(internal/reflectlite.Value).Elem", "(internal/reflectlite.Value).Set"], unfollowed := true, recurses := true, named := ["errors.errorType"], apart := false, laid := [("errors.errorType", laid_errors_errorType)], narrowed := true }
def RoomApartUptoSaid : Prop := roomApartUptoRow.holds Tryz.pinned (OpenSpec.upto roomApartSpec)

end Rows
end Go.Proofs.YtnjdmijcoadidaaGreatDoor
