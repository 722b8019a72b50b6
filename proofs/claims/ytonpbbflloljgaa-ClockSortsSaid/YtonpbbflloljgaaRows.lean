/-
  No cell of these rows narrows 'for every input' (looked for: loops, veiled, ifaces, maps, wideKeys, modest, calm, conditions, laid).
  DERIVED. THE GIVEN ROWS OF THIS SEAT. 3 by the template 'for every input the law returns true; each argument reads behind the call as it read before'; 0 by the template 'total and deterministic' (their statements: YtonpbbflloljgaaTotals.lean).
  GIVEN WITH THE SEED: the statements are not yours to turn. If you find one false, say at which input.
  Laid BY PROGRAM, IN A SANDBOX (cutbox-rows.mjs): the forced cells as the released guide's own fill.sh prints them over the translation cc6482158cc36a12… (all of the seat's roots in one cut). By AI agents, Wed Nov 11 2026. No macro, syntax, notation, axiom, sorry.
-/
import Derived.Test.YtonpbbflloljgaaChecked
import GoSem.Claim
import GoSem.ClaimJoined
import GoSem.ClaimMapViews
import Derived.JoinedTies
import Derived.KernelRfl
namespace Go.Proofs.Ytonpbbflloljgaa
/- THE CELL 'sum', in the pinned program and in every row, IS THE sha256 OF THE DUMP (.gsa) THAT YtonpbbflloljgaaProg.lean LOADS. Nothing in Lean hashes anything: it is a label: what it is worth is what the hold of that sum in a sandbox is worth. -/
noncomputable def Try.pinned : Pinned := { name := "ytonpbbflloljgaa", sum := "cc6482158cc36a1287ef4f4327b7daff48bd9ad85059305975a4b8d3f6b9f199", checked := Try.checked }
namespace Rows
def none {H : Type} : Left H := { results := [], args := [] }

/-- 'sluicewaykeep.ClockSorts': WHATEVER THE INPUT: true; the input reads as it did. -/
def clockSortsSpec : ChangeSpec := { name := "clockSorts", fn := fun _ => fun
  | [d] => { results := [.lit (.bool true)], args := [d] }
  | _ => none }
def clockSortsRow : OpenClaim := { program := "ytonpbbflloljgaa", sum := "cc6482158cc36a1287ef4f4327b7daff48bd9ad85059305975a4b8d3f6b9f199", func := "sluiceway/sluicewaykeep.ClockSorts", spec := "clockSorts", unfollowed := true, recurses := true, apart := false }
def ClockSortsSaid : Prop := clockSortsRow.holds Try.pinned (OpenSpec.ofChange clockSortsSpec)

/-- ITS FALSE NEIGHBOUR: 'it returns false'. Refute it at one input. -/
def clockSortsWrong : ChangeSpec := { name := "clockSorts", fn := fun _ => fun
  | [d] => { results := [.lit (.bool false)], args := [d] }
  | _ => none }
def ClockSortsWrongFalsely : Prop := clockSortsRow.holds Try.pinned (OpenSpec.ofChange clockSortsWrong)

/-- 'sluicewaylaw.ArithBin': WHATEVER THE INPUT: true; the input reads as it did. -/
def arithBinSpec : ChangeSpec := { name := "arithBin", fn := fun _ => fun
  | [d1, d2, d3] => { results := [.lit (.bool true)], args := [d1, d2, d3] }
  | _ => none }
def arithBinRow : OpenClaim := { program := "ytonpbbflloljgaa", sum := "cc6482158cc36a1287ef4f4327b7daff48bd9ad85059305975a4b8d3f6b9f199", func := "sluiceway/sluicewaylaw.ArithBin", spec := "arithBin", apart := false }
def ArithBinSaid : Prop := arithBinRow.holds Try.pinned (OpenSpec.ofChange arithBinSpec)

/-- ITS FALSE NEIGHBOUR: 'it returns false'. Refute it at one input. -/
def arithBinWrong : ChangeSpec := { name := "arithBin", fn := fun _ => fun
  | [d1, d2, d3] => { results := [.lit (.bool false)], args := [d1, d2, d3] }
  | _ => none }
def ArithBinWrongFalsely : Prop := arithBinRow.holds Try.pinned (OpenSpec.ofChange arithBinWrong)

/-- 'sluicewaylaw.ArithUn': WHATEVER THE INPUT: true; the input reads as it did. -/
def arithUnSpec : ChangeSpec := { name := "arithUn", fn := fun _ => fun
  | [d1, d2] => { results := [.lit (.bool true)], args := [d1, d2] }
  | _ => none }
def arithUnRow : OpenClaim := { program := "ytonpbbflloljgaa", sum := "cc6482158cc36a1287ef4f4327b7daff48bd9ad85059305975a4b8d3f6b9f199", func := "sluiceway/sluicewaylaw.ArithUn", spec := "arithUn", apart := false }
def ArithUnSaid : Prop := arithUnRow.holds Try.pinned (OpenSpec.ofChange arithUnSpec)

/-- ITS FALSE NEIGHBOUR: 'it returns false'. Refute it at one input. -/
def arithUnWrong : ChangeSpec := { name := "arithUn", fn := fun _ => fun
  | [d1, d2] => { results := [.lit (.bool false)], args := [d1, d2] }
  | _ => none }
def ArithUnWrongFalsely : Prop := arithUnRow.holds Try.pinned (OpenSpec.ofChange arithUnWrong)

/- THE SECOND FORM. 'bulk': how many values and letters a reading holds, each counted each time it is reached (what is shared counts as often as it is met; a slice's spare places count too). A statement '..UptoSaid' is the law's where the arguments, and the package variables that the reading takes, are together of bulk at most 1048576: NARROWER than '..Said'. Prove '..Said' where nothing that the law and all that it calls make is longer than what came in: it says more and counts as full. Else prove '..UptoSaid'. A law counts once. -/
mutual
def uptoBulk {H : Type} : DataW H → Nat
  | .lit (.string bytes) => bytes.length + 1
  | .lit _ => 1
  | .nil => 1
  | .ptr d => uptoBulk d + 1
  | .slice elems spare => uptoBulkAll elems + uptoBulkAll spare + 1
  | .agg parts => uptoBulkAll parts + 1
  | .iface _ d => uptoBulk d + 1
  | .map entries => uptoBulkEntries entries + 1
  | .held _ => 1
def uptoBulkAll {H : Type} : List (DataW H) → Nat
  | [] => 0
  | d :: r => uptoBulk d + uptoBulkAll r
def uptoBulkEntries {H : Type} : List (Lit × DataW H) → Nat
  | [] => 0
  | x :: r => uptoBulkEntry x + uptoBulkEntries r
def uptoBulkEntry {H : Type} : Lit × DataW H → Nat
  | (.string bytes, d) => bytes.length + uptoBulk d + 1
  | (_, d) => uptoBulk d + 1
 end
def uptoSmall : (H : Type) → List (DataW H) → Bool := fun _ ds => decide (uptoBulkAll ds ≤ 1048576)
def OpenSpec.upto (s : _root_.Go.ChangeSpec) : _root_.Go.OpenSpec := { _root_.Go.OpenSpec.ofChange s with cond := some uptoSmall }

/-- 'sluicewaykeep.ClockSorts', WHERE WHAT IT READS IS OF BULK AT MOST 1048576: true; the input reads as it did. -/
def clockSortsUptoRow : OpenClaim := { program := "ytonpbbflloljgaa", sum := "cc6482158cc36a1287ef4f4327b7daff48bd9ad85059305975a4b8d3f6b9f199", func := "sluiceway/sluicewaykeep.ClockSorts", spec := "clockSorts", unfollowed := true, recurses := true, apart := false, narrowed := true }
def ClockSortsUptoSaid : Prop := clockSortsUptoRow.holds Try.pinned (OpenSpec.upto clockSortsSpec)

/-- 'sluicewaylaw.ArithBin', WHERE WHAT IT READS IS OF BULK AT MOST 1048576: true; the input reads as it did. -/
def arithBinUptoRow : OpenClaim := { program := "ytonpbbflloljgaa", sum := "cc6482158cc36a1287ef4f4327b7daff48bd9ad85059305975a4b8d3f6b9f199", func := "sluiceway/sluicewaylaw.ArithBin", spec := "arithBin", apart := false, narrowed := true }
def ArithBinUptoSaid : Prop := arithBinUptoRow.holds Try.pinned (OpenSpec.upto arithBinSpec)

/-- 'sluicewaylaw.ArithUn', WHERE WHAT IT READS IS OF BULK AT MOST 1048576: true; the input reads as it did. -/
def arithUnUptoRow : OpenClaim := { program := "ytonpbbflloljgaa", sum := "cc6482158cc36a1287ef4f4327b7daff48bd9ad85059305975a4b8d3f6b9f199", func := "sluiceway/sluicewaylaw.ArithUn", spec := "arithUn", apart := false, narrowed := true }
def ArithUnUptoSaid : Prop := arithUnUptoRow.holds Try.pinned (OpenSpec.upto arithUnSpec)

end Rows
end Go.Proofs.Ytonpbbflloljgaa
