/-
  NARROWER THAN 'FOR EVERY INPUT', by the rows' own cells (each row's printed sentence says how): VaryNums: laid · VaryInts: laid · VaryTexts: laid · WireSeals: laid · WireOpens: laid · WireBack: laid · WireOne: laid.
  DERIVED. THE GIVEN ROWS OF THIS SEAT. 7 by the template 'for every input the law returns true; each argument reads behind the call as it read before'; 0 by the template 'total and deterministic' (their statements: YtdjhbepocleehaaDoorTotals.lean).
  GIVEN WITH THE SEED: the statements are not yours to turn. If you find one false, say at which input.
  Laid BY PROGRAM, IN A SANDBOX (cutbox-rows.mjs): the forced cells as the released guide's own fill.sh prints them over the translation bc86cac05994b5f3… (all of the seat's roots in one cut). By AI agents, Wed Nov 11 2026. No macro, syntax, notation, axiom, sorry.
-/
import Derived.Test.YtdjhbepocleehaaDoorChecked
import GoSem.Claim
import GoSem.ClaimJoined
import GoSem.ClaimMapViews
import Derived.JoinedTies
import Derived.KernelRfl
namespace Go.Proofs.YtdjhbepocleehaaDoor
/- THE CELL 'sum', in the pinned program and in every row, IS THE sha256 OF THE DUMP (.gsa) THAT YtdjhbepocleehaaDoorProg.lean LOADS. Nothing in Lean hashes anything: it is a label: what it is worth is what the hold of that sum in a sandbox is worth. -/
noncomputable def Tryd.pinned : Pinned := { name := "ytdjhbepocleehaadoor", sum := "bc86cac05994b5f38092b1ba20979180eba0df52a756de7db17ab10d2ce11397", checked := Tryd.checked }
namespace Rows
def none {H : Type} : Left H := { results := [], args := [] }

/- WHAT THE LISTED PACKAGE-LEVEL VARIABLES READ AS WHEN THE CALL BEGINS. Each datum BY PROGRAM (the guide's laid-datum.mjs) off the statement by which the dump's own 'gosem.cut.vars' lays the variable. In a bare row this is a premise. The card (YtdjhbepocleehaaDoorCards.lean) ties it to the program's text. -/
def laid_errors_errorType {H : Type} : DataW H := .iface "internal/reflectlite.rtype" (.agg [.ptr (.lit (.string [101, 114, 114, 111, 114]))])
def laid_sluiceway_sum_leaves {H : Type} : DataW H := .agg [.lit (.int .u32 0), .lit (.int .u32 498536548), .lit (.int .u32 997073096), .lit (.int .u32 651767980), .lit (.int .u32 1994146192), .lit (.int .u32 1802195444), .lit (.int .u32 1303535960), .lit (.int .u32 1342533948), .lit (.int .u32 3988292384), .lit (.int .u32 4027552580), .lit (.int .u32 3604390888), .lit (.int .u32 3412177804), .lit (.int .u32 2607071920), .lit (.int .u32 2262029012), .lit (.int .u32 2685067896), .lit (.int .u32 3183342108)]

/-- 'sluicewaylaw.VaryNums': WHATEVER THE INPUT: true; the input reads as it did. -/
def varyNumsSpec : ChangeSpec := { name := "varyNums", fn := fun _ => fun
  | [d1, d2, d3] => { results := [.lit (.bool true)], args := [d1, d2, d3] }
  | _ => none }
def varyNumsRow : OpenClaim := { program := "ytdjhbepocleehaadoor", sum := "bc86cac05994b5f38092b1ba20979180eba0df52a756de7db17ab10d2ce11397", func := "sluiceway/sluicewaylaw.VaryNums", spec := "varyNums", inPlace := ["internal/reflectlite.ValueOf", "(internal/reflectlite.Value).Type", "(internal/reflectlite.Value).IsNil", "internal/reflectlite.TypeOf", "(internal/reflectlite.Value).Elem", "(internal/reflectlite.Value).Set"], unfollowed := true, recurses := true, named := ["errors.errorType"], apart := false, laid := [("errors.errorType", laid_errors_errorType)] }
def VaryNumsSaid : Prop := varyNumsRow.holds Tryd.pinned (OpenSpec.ofChange varyNumsSpec)

/-- ITS FALSE NEIGHBOUR: 'it returns false'. Refute it at one input. -/
def varyNumsWrong : ChangeSpec := { name := "varyNums", fn := fun _ => fun
  | [d1, d2, d3] => { results := [.lit (.bool false)], args := [d1, d2, d3] }
  | _ => none }
def VaryNumsWrongFalsely : Prop := varyNumsRow.holds Tryd.pinned (OpenSpec.ofChange varyNumsWrong)

/-- 'sluicewaylaw.VaryInts': WHATEVER THE INPUT: true; the input reads as it did. -/
def varyIntsSpec : ChangeSpec := { name := "varyInts", fn := fun _ => fun
  | [d1, d2, d3] => { results := [.lit (.bool true)], args := [d1, d2, d3] }
  | _ => none }
def varyIntsRow : OpenClaim := { program := "ytdjhbepocleehaadoor", sum := "bc86cac05994b5f38092b1ba20979180eba0df52a756de7db17ab10d2ce11397", func := "sluiceway/sluicewaylaw.VaryInts", spec := "varyInts", inPlace := ["internal/reflectlite.ValueOf", "(internal/reflectlite.Value).Type", "(internal/reflectlite.Value).IsNil", "internal/reflectlite.TypeOf", "(internal/reflectlite.Value).Elem", "(internal/reflectlite.Value).Set"], unfollowed := true, recurses := true, named := ["errors.errorType"], apart := false, laid := [("errors.errorType", laid_errors_errorType)] }
def VaryIntsSaid : Prop := varyIntsRow.holds Tryd.pinned (OpenSpec.ofChange varyIntsSpec)

/-- ITS FALSE NEIGHBOUR: 'it returns false'. Refute it at one input. -/
def varyIntsWrong : ChangeSpec := { name := "varyInts", fn := fun _ => fun
  | [d1, d2, d3] => { results := [.lit (.bool false)], args := [d1, d2, d3] }
  | _ => none }
def VaryIntsWrongFalsely : Prop := varyIntsRow.holds Tryd.pinned (OpenSpec.ofChange varyIntsWrong)

/-- 'sluicewaylaw.VaryTexts': WHATEVER THE INPUT: true; the input reads as it did. -/
def varyTextsSpec : ChangeSpec := { name := "varyTexts", fn := fun _ => fun
  | [d1, d2, d3] => { results := [.lit (.bool true)], args := [d1, d2, d3] }
  | _ => none }
def varyTextsRow : OpenClaim := { program := "ytdjhbepocleehaadoor", sum := "bc86cac05994b5f38092b1ba20979180eba0df52a756de7db17ab10d2ce11397", func := "sluiceway/sluicewaylaw.VaryTexts", spec := "varyTexts", inPlace := ["internal/reflectlite.ValueOf", "(internal/reflectlite.Value).Type", "(internal/reflectlite.Value).IsNil", "internal/reflectlite.TypeOf", "(internal/reflectlite.Value).Elem", "(internal/reflectlite.Value).Set"], unfollowed := true, recurses := true, named := ["errors.errorType"], apart := false, laid := [("errors.errorType", laid_errors_errorType)] }
def VaryTextsSaid : Prop := varyTextsRow.holds Tryd.pinned (OpenSpec.ofChange varyTextsSpec)

/-- ITS FALSE NEIGHBOUR: 'it returns false'. Refute it at one input. -/
def varyTextsWrong : ChangeSpec := { name := "varyTexts", fn := fun _ => fun
  | [d1, d2, d3] => { results := [.lit (.bool false)], args := [d1, d2, d3] }
  | _ => none }
def VaryTextsWrongFalsely : Prop := varyTextsRow.holds Tryd.pinned (OpenSpec.ofChange varyTextsWrong)

/-- 'sluicewaylaw.WireSeals': WHATEVER THE INPUT: true; the input reads as it did. -/
def wireSealsSpec : ChangeSpec := { name := "wireSeals", fn := fun _ => fun
  | [d1, d2] => { results := [.lit (.bool true)], args := [d1, d2] }
  | _ => none }
def wireSealsRow : OpenClaim := { program := "ytdjhbepocleehaadoor", sum := "bc86cac05994b5f38092b1ba20979180eba0df52a756de7db17ab10d2ce11397", func := "sluiceway/sluicewaylaw.WireSeals", spec := "wireSeals", inPlace := ["internal/abi.NoEscape", "internal/reflectlite.ValueOf", "(internal/reflectlite.Value).Type", "(internal/reflectlite.Value).IsNil", "internal/reflectlite.TypeOf", "(internal/reflectlite.Value).Elem", "(internal/reflectlite.Value).Set"], unfollowed := true, recurses := true, named := ["sluiceway/sum.leaves", "errors.errorType"], apart := false, laid := [("errors.errorType", laid_errors_errorType), ("sluiceway/sum.leaves", laid_sluiceway_sum_leaves)] }
def WireSealsSaid : Prop := wireSealsRow.holds Tryd.pinned (OpenSpec.ofChange wireSealsSpec)

/-- ITS FALSE NEIGHBOUR: 'it returns false'. Refute it at one input. -/
def wireSealsWrong : ChangeSpec := { name := "wireSeals", fn := fun _ => fun
  | [d1, d2] => { results := [.lit (.bool false)], args := [d1, d2] }
  | _ => none }
def WireSealsWrongFalsely : Prop := wireSealsRow.holds Tryd.pinned (OpenSpec.ofChange wireSealsWrong)

/-- 'sluicewaylaw.WireOpens': WHATEVER THE INPUT: true; the input reads as it did. -/
def wireOpensSpec : ChangeSpec := { name := "wireOpens", fn := fun _ => fun
  | [d] => { results := [.lit (.bool true)], args := [d] }
  | _ => none }
def wireOpensRow : OpenClaim := { program := "ytdjhbepocleehaadoor", sum := "bc86cac05994b5f38092b1ba20979180eba0df52a756de7db17ab10d2ce11397", func := "sluiceway/sluicewaylaw.WireOpens", spec := "wireOpens", inPlace := ["internal/reflectlite.ValueOf", "(internal/reflectlite.Value).Type", "(internal/reflectlite.Value).IsNil", "internal/reflectlite.TypeOf", "(internal/reflectlite.Value).Elem", "(internal/reflectlite.Value).Set"], unfollowed := true, recurses := true, named := ["sluiceway/sum.leaves", "errors.errorType"], apart := false, laid := [("errors.errorType", laid_errors_errorType), ("sluiceway/sum.leaves", laid_sluiceway_sum_leaves)] }
def WireOpensSaid : Prop := wireOpensRow.holds Tryd.pinned (OpenSpec.ofChange wireOpensSpec)

/-- ITS FALSE NEIGHBOUR: 'it returns false'. Refute it at one input. -/
def wireOpensWrong : ChangeSpec := { name := "wireOpens", fn := fun _ => fun
  | [d] => { results := [.lit (.bool false)], args := [d] }
  | _ => none }
def WireOpensWrongFalsely : Prop := wireOpensRow.holds Tryd.pinned (OpenSpec.ofChange wireOpensWrong)

/-- 'sluicewaykeep.WireBack': WHATEVER THE INPUT: true; the input reads as it did. -/
def wireBackSpec : ChangeSpec := { name := "wireBack", fn := fun _ => fun
  | [d1, d2] => { results := [.lit (.bool true)], args := [d1, d2] }
  | _ => none }
def wireBackRow : OpenClaim := { program := "ytdjhbepocleehaadoor", sum := "bc86cac05994b5f38092b1ba20979180eba0df52a756de7db17ab10d2ce11397", func := "sluiceway/sluicewaykeep.WireBack", spec := "wireBack", inPlace := ["internal/abi.NoEscape"], unfollowed := true, recurses := true, named := ["sluiceway/sum.leaves"], apart := false, laid := [("sluiceway/sum.leaves", laid_sluiceway_sum_leaves)] }
def WireBackSaid : Prop := wireBackRow.holds Tryd.pinned (OpenSpec.ofChange wireBackSpec)

/-- ITS FALSE NEIGHBOUR: 'it returns false'. Refute it at one input. -/
def wireBackWrong : ChangeSpec := { name := "wireBack", fn := fun _ => fun
  | [d1, d2] => { results := [.lit (.bool false)], args := [d1, d2] }
  | _ => none }
def WireBackWrongFalsely : Prop := wireBackRow.holds Tryd.pinned (OpenSpec.ofChange wireBackWrong)

/-- 'sluicewaykeep.WireOne': WHATEVER THE INPUT: true; the input reads as it did. -/
def wireOneSpec : ChangeSpec := { name := "wireOne", fn := fun _ => fun
  | [d] => { results := [.lit (.bool true)], args := [d] }
  | _ => none }
def wireOneRow : OpenClaim := { program := "ytdjhbepocleehaadoor", sum := "bc86cac05994b5f38092b1ba20979180eba0df52a756de7db17ab10d2ce11397", func := "sluiceway/sluicewaykeep.WireOne", spec := "wireOne", inPlace := ["internal/abi.NoEscape"], named := ["sluiceway/sum.leaves"], apart := false, laid := [("sluiceway/sum.leaves", laid_sluiceway_sum_leaves)] }
def WireOneSaid : Prop := wireOneRow.holds Tryd.pinned (OpenSpec.ofChange wireOneSpec)

/-- ITS FALSE NEIGHBOUR: 'it returns false'. Refute it at one input. -/
def wireOneWrong : ChangeSpec := { name := "wireOne", fn := fun _ => fun
  | [d] => { results := [.lit (.bool false)], args := [d] }
  | _ => none }
def WireOneWrongFalsely : Prop := wireOneRow.holds Tryd.pinned (OpenSpec.ofChange wireOneWrong)

/- THE SECOND FORM. 'bulk': how many values and letters a reading holds, each counted each time it is reached (what is shared counts as often as it is met; a slice's spare places count too). A statement '..UptoSaid' is the law's where the arguments, and the package variables that the reading takes, are together of bulk at most 1048576: NARROWER than '..Said'. Prove '..Said' where nothing that the law and all that it calls make is longer than what came in: it says more and counts as full. Else prove '..UptoSaid'. A law counts once. -/
mutual
def uptoBulk {H : Type} : DataW H → Nat
  | .lit (.string bytes) => bytes.length + 1
  | .lit _ => 1
  | .nil => 1
  | .ptr d => uptoBulk d + 1
  | .slice elems spare => uptoBulkAll elems + uptoBulkAll spare + 1
  | .agg parts => uptoBulkAll parts + 1
  | .iface _ d => uptoBulk d + 1
  | .map entries => uptoBulkEntries entries + 1
  | .held _ => 1
def uptoBulkAll {H : Type} : List (DataW H) → Nat
  | [] => 0
  | d :: r => uptoBulk d + uptoBulkAll r
def uptoBulkEntries {H : Type} : List (Lit × DataW H) → Nat
  | [] => 0
  | x :: r => uptoBulkEntry x + uptoBulkEntries r
def uptoBulkEntry {H : Type} : Lit × DataW H → Nat
  | (.string bytes, d) => bytes.length + uptoBulk d + 1
  | (_, d) => uptoBulk d + 1
 end
def uptoSmall : (H : Type) → List (DataW H) → Bool := fun _ ds => decide (uptoBulkAll ds ≤ 1048576)
def OpenSpec.upto (s : _root_.Go.ChangeSpec) : _root_.Go.OpenSpec := { _root_.Go.OpenSpec.ofChange s with cond := some uptoSmall }

/-- 'sluicewaylaw.VaryNums', WHERE WHAT IT READS IS OF BULK AT MOST 1048576: true; the input reads as it did. -/
def varyNumsUptoRow : OpenClaim := { program := "ytdjhbepocleehaadoor", sum := "bc86cac05994b5f38092b1ba20979180eba0df52a756de7db17ab10d2ce11397", func := "sluiceway/sluicewaylaw.VaryNums", spec := "varyNums", inPlace := ["internal/reflectlite.ValueOf", "(internal/reflectlite.Value).Type", "(internal/reflectlite.Value).IsNil", "internal/reflectlite.TypeOf", "(internal/reflectlite.Value).Elem", "(internal/reflectlite.Value).Set"], unfollowed := true, recurses := true, named := ["errors.errorType"], apart := false, laid := [("errors.errorType", laid_errors_errorType)], narrowed := true }
def VaryNumsUptoSaid : Prop := varyNumsUptoRow.holds Tryd.pinned (OpenSpec.upto varyNumsSpec)

/-- 'sluicewaylaw.VaryInts', WHERE WHAT IT READS IS OF BULK AT MOST 1048576: true; the input reads as it did. -/
def varyIntsUptoRow : OpenClaim := { program := "ytdjhbepocleehaadoor", sum := "bc86cac05994b5f38092b1ba20979180eba0df52a756de7db17ab10d2ce11397", func := "sluiceway/sluicewaylaw.VaryInts", spec := "varyInts", inPlace := ["internal/reflectlite.ValueOf", "(internal/reflectlite.Value).Type", "(internal/reflectlite.Value).IsNil", "internal/reflectlite.TypeOf", "(internal/reflectlite.Value).Elem", "(internal/reflectlite.Value).Set"], unfollowed := true, recurses := true, named := ["errors.errorType"], apart := false, laid := [("errors.errorType", laid_errors_errorType)], narrowed := true }
def VaryIntsUptoSaid : Prop := varyIntsUptoRow.holds Tryd.pinned (OpenSpec.upto varyIntsSpec)

/-- 'sluicewaylaw.VaryTexts', WHERE WHAT IT READS IS OF BULK AT MOST 1048576: true; the input reads as it did. -/
def varyTextsUptoRow : OpenClaim := { program := "ytdjhbepocleehaadoor", sum := "bc86cac05994b5f38092b1ba20979180eba0df52a756de7db17ab10d2ce11397", func := "sluiceway/sluicewaylaw.VaryTexts", spec := "varyTexts", inPlace := ["internal/reflectlite.ValueOf", "(internal/reflectlite.Value).Type", "(internal/reflectlite.Value).IsNil", "internal/reflectlite.TypeOf", "(internal/reflectlite.Value).Elem", "(internal/reflectlite.Value).Set"], unfollowed := true, recurses := true, named := ["errors.errorType"], apart := false, laid := [("errors.errorType", laid_errors_errorType)], narrowed := true }
def VaryTextsUptoSaid : Prop := varyTextsUptoRow.holds Tryd.pinned (OpenSpec.upto varyTextsSpec)

/-- 'sluicewaylaw.WireSeals', WHERE WHAT IT READS IS OF BULK AT MOST 1048576: true; the input reads as it did. -/
def wireSealsUptoRow : OpenClaim := { program := "ytdjhbepocleehaadoor", sum := "bc86cac05994b5f38092b1ba20979180eba0df52a756de7db17ab10d2ce11397", func := "sluiceway/sluicewaylaw.WireSeals", spec := "wireSeals", inPlace := ["internal/abi.NoEscape", "internal/reflectlite.ValueOf", "(internal/reflectlite.Value).Type", "(internal/reflectlite.Value).IsNil", "internal/reflectlite.TypeOf", "(internal/reflectlite.Value).Elem", "(internal/reflectlite.Value).Set"], unfollowed := true, recurses := true, named := ["sluiceway/sum.leaves", "errors.errorType"], apart := false, laid := [("errors.errorType", laid_errors_errorType), ("sluiceway/sum.leaves", laid_sluiceway_sum_leaves)], narrowed := true }
def WireSealsUptoSaid : Prop := wireSealsUptoRow.holds Tryd.pinned (OpenSpec.upto wireSealsSpec)

/-- 'sluicewaylaw.WireOpens', WHERE WHAT IT READS IS OF BULK AT MOST 1048576: true; the input reads as it did. -/
def wireOpensUptoRow : OpenClaim := { program := "ytdjhbepocleehaadoor", sum := "bc86cac05994b5f38092b1ba20979180eba0df52a756de7db17ab10d2ce11397", func := "sluiceway/sluicewaylaw.WireOpens", spec := "wireOpens", inPlace := ["internal/reflectlite.ValueOf", "(internal/reflectlite.Value).Type", "(internal/reflectlite.Value).IsNil", "internal/reflectlite.TypeOf", "(internal/reflectlite.Value).Elem", "(internal/reflectlite.Value).Set"], unfollowed := true, recurses := true, named := ["sluiceway/sum.leaves", "errors.errorType"], apart := false, laid := [("errors.errorType", laid_errors_errorType), ("sluiceway/sum.leaves", laid_sluiceway_sum_leaves)], narrowed := true }
def WireOpensUptoSaid : Prop := wireOpensUptoRow.holds Tryd.pinned (OpenSpec.upto wireOpensSpec)

/-- 'sluicewaykeep.WireBack', WHERE WHAT IT READS IS OF BULK AT MOST 1048576: true; the input reads as it did. -/
def wireBackUptoRow : OpenClaim := { program := "ytdjhbepocleehaadoor", sum := "bc86cac05994b5f38092b1ba20979180eba0df52a756de7db17ab10d2ce11397", func := "sluiceway/sluicewaykeep.WireBack", spec := "wireBack", inPlace := ["internal/abi.NoEscape"], unfollowed := true, recurses := true, named := ["sluiceway/sum.leaves"], apart := false, laid := [("sluiceway/sum.leaves", laid_sluiceway_sum_leaves)], narrowed := true }
def WireBackUptoSaid : Prop := wireBackUptoRow.holds Tryd.pinned (OpenSpec.upto wireBackSpec)

/-- 'sluicewaykeep.WireOne', WHERE WHAT IT READS IS OF BULK AT MOST 1048576: true; the input reads as it did. -/
def wireOneUptoRow : OpenClaim := { program := "ytdjhbepocleehaadoor", sum := "bc86cac05994b5f38092b1ba20979180eba0df52a756de7db17ab10d2ce11397", func := "sluiceway/sluicewaykeep.WireOne", spec := "wireOne", inPlace := ["internal/abi.NoEscape"], named := ["sluiceway/sum.leaves"], apart := false, laid := [("sluiceway/sum.leaves", laid_sluiceway_sum_leaves)], narrowed := true }
def WireOneUptoSaid : Prop := wireOneUptoRow.holds Tryd.pinned (OpenSpec.upto wireOneSpec)

end Rows
end Go.Proofs.YtdjhbepocleehaaDoor
