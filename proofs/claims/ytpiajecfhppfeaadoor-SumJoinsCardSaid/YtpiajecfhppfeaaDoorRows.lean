/-
  NARROWER THAN 'FOR EVERY INPUT', by the rows' own cells (each row's printed sentence says how): SumTells: laid · SumJoins: laid · SumLinear: laid · SumBurst: laid · SumPieces: laid · SumThree: laid · SumBack: laid.
  DERIVED. THE GIVEN ROWS OF THIS SEAT. 7 by the template 'for every input the law returns true; each argument reads behind the call as it read before'; 0 by the template 'total and deterministic' (their statements: YtpiajecfhppfeaaDoorTotals.lean).
  GIVEN WITH THE SEED: the statements are not yours to turn. If you find one false, say at which input.
  Laid BY PROGRAM, IN A SANDBOX (cutbox-rows.mjs): the forced cells as the released guide's own fill.sh prints them over the translation d1ae1b33dde74c53… (all of the seat's roots in one cut). By AI agents, Wed Nov 11 2026. No macro, syntax, notation, axiom, sorry.
-/
import Derived.Test.YtpiajecfhppfeaaDoorChecked
import GoSem.Claim
import GoSem.ClaimJoined
import GoSem.ClaimMapViews
import Derived.JoinedTies
import Derived.KernelRfl
namespace Go.Proofs.YtpiajecfhppfeaaDoor
/- THE CELL 'sum', in the pinned program and in every row, IS THE sha256 OF THE DUMP (.gsa) THAT YtpiajecfhppfeaaDoorProg.lean LOADS. Nothing in Lean hashes anything: it is a label: what it is worth is what the hold of that sum in a sandbox is worth. -/
noncomputable def Tryd.pinned : Pinned := { name := "ytpiajecfhppfeaadoor", sum := "d1ae1b33dde74c53a00d5223e233ab7a5c72f82aaf24978df873ff9ae5756cd7", checked := Tryd.checked }
namespace Rows
def none {H : Type} : Left H := { results := [], args := [] }

/- WHAT THE LISTED PACKAGE-LEVEL VARIABLES READ AS WHEN THE CALL BEGINS. Each datum BY PROGRAM (the guide's laid-datum.mjs) off the statement by which the dump's own 'gosem.cut.vars' lays the variable. In a bare row this is a premise. The card (YtpiajecfhppfeaaDoorCards.lean) ties it to the program's text. -/
def laid_sluiceway_sum_leaves {H : Type} : DataW H := .agg [.lit (.int .u32 0), .lit (.int .u32 498536548), .lit (.int .u32 997073096), .lit (.int .u32 651767980), .lit (.int .u32 1994146192), .lit (.int .u32 1802195444), .lit (.int .u32 1303535960), .lit (.int .u32 1342533948), .lit (.int .u32 3988292384), .lit (.int .u32 4027552580), .lit (.int .u32 3604390888), .lit (.int .u32 3412177804), .lit (.int .u32 2607071920), .lit (.int .u32 2262029012), .lit (.int .u32 2685067896), .lit (.int .u32 3183342108)]
def laid_errors_errorType {H : Type} : DataW H := .iface "internal/reflectlite.rtype" (.agg [.ptr (.lit (.string [101, 114, 114, 111, 114]))])

/-- 'sluicewaylaw.SumTells': WHATEVER THE INPUT: true; the input reads as it did. -/
def sumTellsSpec : ChangeSpec := { name := "sumTells", fn := fun _ => fun
  | [d1, d2] => { results := [.lit (.bool true)], args := [d1, d2] }
  | _ => none }
def sumTellsRow : OpenClaim := { program := "ytpiajecfhppfeaadoor", sum := "d1ae1b33dde74c53a00d5223e233ab7a5c72f82aaf24978df873ff9ae5756cd7", func := "sluiceway/sluicewaylaw.SumTells", spec := "sumTells", named := ["sluiceway/sum.leaves"], apart := false, laid := [("sluiceway/sum.leaves", laid_sluiceway_sum_leaves)] }
def SumTellsSaid : Prop := sumTellsRow.holds Tryd.pinned (OpenSpec.ofChange sumTellsSpec)

/-- ITS FALSE NEIGHBOUR: 'it returns false'. Refute it at one input. -/
def sumTellsWrong : ChangeSpec := { name := "sumTells", fn := fun _ => fun
  | [d1, d2] => { results := [.lit (.bool false)], args := [d1, d2] }
  | _ => none }
def SumTellsWrongFalsely : Prop := sumTellsRow.holds Tryd.pinned (OpenSpec.ofChange sumTellsWrong)

/-- 'sluicewaylaw.SumJoins': WHATEVER THE INPUT: true; the input reads as it did. -/
def sumJoinsSpec : ChangeSpec := { name := "sumJoins", fn := fun _ => fun
  | [d1, d2, d3] => { results := [.lit (.bool true)], args := [d1, d2, d3] }
  | _ => none }
def sumJoinsRow : OpenClaim := { program := "ytpiajecfhppfeaadoor", sum := "d1ae1b33dde74c53a00d5223e233ab7a5c72f82aaf24978df873ff9ae5756cd7", func := "sluiceway/sluicewaylaw.SumJoins", spec := "sumJoins", inPlace := ["internal/reflectlite.ValueOf", "(internal/reflectlite.Value).Type", "(internal/reflectlite.Value).IsNil", "internal/reflectlite.TypeOf", "(internal/reflectlite.Value).Elem", "(internal/reflectlite.Value).Set"], unfollowed := true, recurses := true, named := ["sluiceway/sum.leaves", "errors.errorType"], apart := false, laid := [("errors.errorType", laid_errors_errorType), ("sluiceway/sum.leaves", laid_sluiceway_sum_leaves)] }
def SumJoinsSaid : Prop := sumJoinsRow.holds Tryd.pinned (OpenSpec.ofChange sumJoinsSpec)

/-- ITS FALSE NEIGHBOUR: 'it returns false'. Refute it at one input. -/
def sumJoinsWrong : ChangeSpec := { name := "sumJoins", fn := fun _ => fun
  | [d1, d2, d3] => { results := [.lit (.bool false)], args := [d1, d2, d3] }
  | _ => none }
def SumJoinsWrongFalsely : Prop := sumJoinsRow.holds Tryd.pinned (OpenSpec.ofChange sumJoinsWrong)

/-- 'sluicewaykeep.SumLinear': WHATEVER THE INPUT: true; the input reads as it did. -/
def sumLinearSpec : ChangeSpec := { name := "sumLinear", fn := fun _ => fun
  | [d1, d2, d3] => { results := [.lit (.bool true)], args := [d1, d2, d3] }
  | _ => none }
def sumLinearRow : OpenClaim := { program := "ytpiajecfhppfeaadoor", sum := "d1ae1b33dde74c53a00d5223e233ab7a5c72f82aaf24978df873ff9ae5756cd7", func := "sluiceway/sluicewaykeep.SumLinear", spec := "sumLinear", named := ["sluiceway/sum.leaves"], apart := false, laid := [("sluiceway/sum.leaves", laid_sluiceway_sum_leaves)] }
def SumLinearSaid : Prop := sumLinearRow.holds Tryd.pinned (OpenSpec.ofChange sumLinearSpec)

/-- ITS FALSE NEIGHBOUR: 'it returns false'. Refute it at one input. -/
def sumLinearWrong : ChangeSpec := { name := "sumLinear", fn := fun _ => fun
  | [d1, d2, d3] => { results := [.lit (.bool false)], args := [d1, d2, d3] }
  | _ => none }
def SumLinearWrongFalsely : Prop := sumLinearRow.holds Tryd.pinned (OpenSpec.ofChange sumLinearWrong)

/-- 'sluicewaykeep.SumBurst': WHATEVER THE INPUT: true; the input reads as it did. -/
def sumBurstSpec : ChangeSpec := { name := "sumBurst", fn := fun _ => fun
  | [d1, d2, d3] => { results := [.lit (.bool true)], args := [d1, d2, d3] }
  | _ => none }
def sumBurstRow : OpenClaim := { program := "ytpiajecfhppfeaadoor", sum := "d1ae1b33dde74c53a00d5223e233ab7a5c72f82aaf24978df873ff9ae5756cd7", func := "sluiceway/sluicewaykeep.SumBurst", spec := "sumBurst", named := ["sluiceway/sum.leaves"], apart := false, laid := [("sluiceway/sum.leaves", laid_sluiceway_sum_leaves)] }
def SumBurstSaid : Prop := sumBurstRow.holds Tryd.pinned (OpenSpec.ofChange sumBurstSpec)

/-- ITS FALSE NEIGHBOUR: 'it returns false'. Refute it at one input. -/
def sumBurstWrong : ChangeSpec := { name := "sumBurst", fn := fun _ => fun
  | [d1, d2, d3] => { results := [.lit (.bool false)], args := [d1, d2, d3] }
  | _ => none }
def SumBurstWrongFalsely : Prop := sumBurstRow.holds Tryd.pinned (OpenSpec.ofChange sumBurstWrong)

/-- 'sluicewaykeep.SumPieces': WHATEVER THE INPUT: true; the input reads as it did. -/
def sumPiecesSpec : ChangeSpec := { name := "sumPieces", fn := fun _ => fun
  | [d1, d2] => { results := [.lit (.bool true)], args := [d1, d2] }
  | _ => none }
def sumPiecesRow : OpenClaim := { program := "ytpiajecfhppfeaadoor", sum := "d1ae1b33dde74c53a00d5223e233ab7a5c72f82aaf24978df873ff9ae5756cd7", func := "sluiceway/sluicewaykeep.SumPieces", spec := "sumPieces", named := ["sluiceway/sum.leaves"], apart := false, laid := [("sluiceway/sum.leaves", laid_sluiceway_sum_leaves)] }
def SumPiecesSaid : Prop := sumPiecesRow.holds Tryd.pinned (OpenSpec.ofChange sumPiecesSpec)

/-- ITS FALSE NEIGHBOUR: 'it returns false'. Refute it at one input. -/
def sumPiecesWrong : ChangeSpec := { name := "sumPieces", fn := fun _ => fun
  | [d1, d2] => { results := [.lit (.bool false)], args := [d1, d2] }
  | _ => none }
def SumPiecesWrongFalsely : Prop := sumPiecesRow.holds Tryd.pinned (OpenSpec.ofChange sumPiecesWrong)

/-- 'sluicewaykeep.SumThree': WHATEVER THE INPUT: true; the input reads as it did. -/
def sumThreeSpec : ChangeSpec := { name := "sumThree", fn := fun _ => fun
  | [d1, d2, d3, d4, d5] => { results := [.lit (.bool true)], args := [d1, d2, d3, d4, d5] }
  | _ => none }
def sumThreeRow : OpenClaim := { program := "ytpiajecfhppfeaadoor", sum := "d1ae1b33dde74c53a00d5223e233ab7a5c72f82aaf24978df873ff9ae5756cd7", func := "sluiceway/sluicewaykeep.SumThree", spec := "sumThree", named := ["sluiceway/sum.leaves"], apart := false, laid := [("sluiceway/sum.leaves", laid_sluiceway_sum_leaves)] }
def SumThreeSaid : Prop := sumThreeRow.holds Tryd.pinned (OpenSpec.ofChange sumThreeSpec)

/-- ITS FALSE NEIGHBOUR: 'it returns false'. Refute it at one input. -/
def sumThreeWrong : ChangeSpec := { name := "sumThree", fn := fun _ => fun
  | [d1, d2, d3, d4, d5] => { results := [.lit (.bool false)], args := [d1, d2, d3, d4, d5] }
  | _ => none }
def SumThreeWrongFalsely : Prop := sumThreeRow.holds Tryd.pinned (OpenSpec.ofChange sumThreeWrong)

/-- 'sluicewaykeep.SumBack': WHATEVER THE INPUT: true; the input reads as it did. -/
def sumBackSpec : ChangeSpec := { name := "sumBack", fn := fun _ => fun
  | [d1, d2, d3] => { results := [.lit (.bool true)], args := [d1, d2, d3] }
  | _ => none }
def sumBackRow : OpenClaim := { program := "ytpiajecfhppfeaadoor", sum := "d1ae1b33dde74c53a00d5223e233ab7a5c72f82aaf24978df873ff9ae5756cd7", func := "sluiceway/sluicewaykeep.SumBack", spec := "sumBack", named := ["sluiceway/sum.leaves"], apart := false, laid := [("sluiceway/sum.leaves", laid_sluiceway_sum_leaves)] }
def SumBackSaid : Prop := sumBackRow.holds Tryd.pinned (OpenSpec.ofChange sumBackSpec)

/-- ITS FALSE NEIGHBOUR: 'it returns false'. Refute it at one input. -/
def sumBackWrong : ChangeSpec := { name := "sumBack", fn := fun _ => fun
  | [d1, d2, d3] => { results := [.lit (.bool false)], args := [d1, d2, d3] }
  | _ => none }
def SumBackWrongFalsely : Prop := sumBackRow.holds Tryd.pinned (OpenSpec.ofChange sumBackWrong)

/- THE SECOND FORM. 'bulk': how many values and letters a reading holds, each counted each time it is reached (what is shared counts as often as it is met; a slice's spare places count too). A statement '..UptoSaid' is the law's where the arguments, and the package variables that the reading takes, are together of bulk at most 1048576: NARROWER than '..Said'. Prove '..Said' where nothing that the law and all that it calls make is longer than what came in: it says more and counts as full. Else prove '..UptoSaid'. A law counts once. -/
mutual
def uptoBulk {H : Type} : DataW H → Nat
  | .lit (.string bytes) => bytes.length + 1
  | .lit _ => 1
  | .nil => 1
  | .ptr d => uptoBulk d + 1
  | .slice elems spare => uptoBulkAll elems + uptoBulkAll spare + 1
  | .agg parts => uptoBulkAll parts + 1
  | .iface _ d => uptoBulk d + 1
  | .map entries => uptoBulkEntries entries + 1
  | .held _ => 1
def uptoBulkAll {H : Type} : List (DataW H) → Nat
  | [] => 0
  | d :: r => uptoBulk d + uptoBulkAll r
def uptoBulkEntries {H : Type} : List (Lit × DataW H) → Nat
  | [] => 0
  | x :: r => uptoBulkEntry x + uptoBulkEntries r
def uptoBulkEntry {H : Type} : Lit × DataW H → Nat
  | (.string bytes, d) => bytes.length + uptoBulk d + 1
  | (_, d) => uptoBulk d + 1
 end
def uptoSmall : (H : Type) → List (DataW H) → Bool := fun _ ds => decide (uptoBulkAll ds ≤ 1048576)
def OpenSpec.upto (s : _root_.Go.ChangeSpec) : _root_.Go.OpenSpec := { _root_.Go.OpenSpec.ofChange s with cond := some uptoSmall }

/-- 'sluicewaylaw.SumTells', WHERE WHAT IT READS IS OF BULK AT MOST 1048576: true; the input reads as it did. -/
def sumTellsUptoRow : OpenClaim := { program := "ytpiajecfhppfeaadoor", sum := "d1ae1b33dde74c53a00d5223e233ab7a5c72f82aaf24978df873ff9ae5756cd7", func := "sluiceway/sluicewaylaw.SumTells", spec := "sumTells", named := ["sluiceway/sum.leaves"], apart := false, laid := [("sluiceway/sum.leaves", laid_sluiceway_sum_leaves)], narrowed := true }
def SumTellsUptoSaid : Prop := sumTellsUptoRow.holds Tryd.pinned (OpenSpec.upto sumTellsSpec)

/-- 'sluicewaylaw.SumJoins', WHERE WHAT IT READS IS OF BULK AT MOST 1048576: true; the input reads as it did. -/
def sumJoinsUptoRow : OpenClaim := { program := "ytpiajecfhppfeaadoor", sum := "d1ae1b33dde74c53a00d5223e233ab7a5c72f82aaf24978df873ff9ae5756cd7", func := "sluiceway/sluicewaylaw.SumJoins", spec := "sumJoins", inPlace := ["internal/reflectlite.ValueOf", "(internal/reflectlite.Value).Type", "(internal/reflectlite.Value).IsNil", "internal/reflectlite.TypeOf", "(internal/reflectlite.Value).Elem", "(internal/reflectlite.Value).Set"], unfollowed := true, recurses := true, named := ["sluiceway/sum.leaves", "errors.errorType"], apart := false, laid := [("errors.errorType", laid_errors_errorType), ("sluiceway/sum.leaves", laid_sluiceway_sum_leaves)], narrowed := true }
def SumJoinsUptoSaid : Prop := sumJoinsUptoRow.holds Tryd.pinned (OpenSpec.upto sumJoinsSpec)

/-- 'sluicewaykeep.SumLinear', WHERE WHAT IT READS IS OF BULK AT MOST 1048576: true; the input reads as it did. -/
def sumLinearUptoRow : OpenClaim := { program := "ytpiajecfhppfeaadoor", sum := "d1ae1b33dde74c53a00d5223e233ab7a5c72f82aaf24978df873ff9ae5756cd7", func := "sluiceway/sluicewaykeep.SumLinear", spec := "sumLinear", named := ["sluiceway/sum.leaves"], apart := false, laid := [("sluiceway/sum.leaves", laid_sluiceway_sum_leaves)], narrowed := true }
def SumLinearUptoSaid : Prop := sumLinearUptoRow.holds Tryd.pinned (OpenSpec.upto sumLinearSpec)

/-- 'sluicewaykeep.SumBurst', WHERE WHAT IT READS IS OF BULK AT MOST 1048576: true; the input reads as it did. -/
def sumBurstUptoRow : OpenClaim := { program := "ytpiajecfhppfeaadoor", sum := "d1ae1b33dde74c53a00d5223e233ab7a5c72f82aaf24978df873ff9ae5756cd7", func := "sluiceway/sluicewaykeep.SumBurst", spec := "sumBurst", named := ["sluiceway/sum.leaves"], apart := false, laid := [("sluiceway/sum.leaves", laid_sluiceway_sum_leaves)], narrowed := true }
def SumBurstUptoSaid : Prop := sumBurstUptoRow.holds Tryd.pinned (OpenSpec.upto sumBurstSpec)

/-- 'sluicewaykeep.SumPieces', WHERE WHAT IT READS IS OF BULK AT MOST 1048576: true; the input reads as it did. -/
def sumPiecesUptoRow : OpenClaim := { program := "ytpiajecfhppfeaadoor", sum := "d1ae1b33dde74c53a00d5223e233ab7a5c72f82aaf24978df873ff9ae5756cd7", func := "sluiceway/sluicewaykeep.SumPieces", spec := "sumPieces", named := ["sluiceway/sum.leaves"], apart := false, laid := [("sluiceway/sum.leaves", laid_sluiceway_sum_leaves)], narrowed := true }
def SumPiecesUptoSaid : Prop := sumPiecesUptoRow.holds Tryd.pinned (OpenSpec.upto sumPiecesSpec)

/-- 'sluicewaykeep.SumThree', WHERE WHAT IT READS IS OF BULK AT MOST 1048576: true; the input reads as it did. -/
def sumThreeUptoRow : OpenClaim := { program := "ytpiajecfhppfeaadoor", sum := "d1ae1b33dde74c53a00d5223e233ab7a5c72f82aaf24978df873ff9ae5756cd7", func := "sluiceway/sluicewaykeep.SumThree", spec := "sumThree", named := ["sluiceway/sum.leaves"], apart := false, laid := [("sluiceway/sum.leaves", laid_sluiceway_sum_leaves)], narrowed := true }
def SumThreeUptoSaid : Prop := sumThreeUptoRow.holds Tryd.pinned (OpenSpec.upto sumThreeSpec)

/-- 'sluicewaykeep.SumBack', WHERE WHAT IT READS IS OF BULK AT MOST 1048576: true; the input reads as it did. -/
def sumBackUptoRow : OpenClaim := { program := "ytpiajecfhppfeaadoor", sum := "d1ae1b33dde74c53a00d5223e233ab7a5c72f82aaf24978df873ff9ae5756cd7", func := "sluiceway/sluicewaykeep.SumBack", spec := "sumBack", named := ["sluiceway/sum.leaves"], apart := false, laid := [("sluiceway/sum.leaves", laid_sluiceway_sum_leaves)], narrowed := true }
def SumBackUptoSaid : Prop := sumBackUptoRow.holds Tryd.pinned (OpenSpec.upto sumBackSpec)

end Rows
end Go.Proofs.YtpiajecfhppfeaaDoor
