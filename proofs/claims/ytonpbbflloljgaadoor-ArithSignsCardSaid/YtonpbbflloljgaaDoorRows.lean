/-
  NARROWER THAN 'FOR EVERY INPUT', by the rows' own cells (each row's printed sentence says how): ArithSigns: laid · ArithRing: laid · ArithDivides: laid · ArithBits: laid · ArithShifts: laid · ArithOrder: laid · ArithSigned: laid.
  DERIVED. THE GIVEN ROWS OF THIS SEAT. 7 by the template 'for every input the law returns true; each argument reads behind the call as it read before'; 0 by the template 'total and deterministic' (their statements: YtonpbbflloljgaaDoorTotals.lean).
  GIVEN WITH THE SEED: the statements are not yours to turn. If you find one false, say at which input.
  Laid BY PROGRAM, IN A SANDBOX (cutbox-rows.mjs): the forced cells as the released guide's own fill.sh prints them over the translation dff75f97c8eab76b… (all of the seat's roots in one cut). By AI agents, Wed Nov 11 2026. No macro, syntax, notation, axiom, sorry.
-/
import Derived.Test.YtonpbbflloljgaaDoorChecked
import GoSem.Claim
import GoSem.ClaimJoined
import GoSem.ClaimMapViews
import Derived.JoinedTies
import Derived.KernelRfl
namespace Go.Proofs.YtonpbbflloljgaaDoor
/- THE CELL 'sum', in the pinned program and in every row, IS THE sha256 OF THE DUMP (.gsa) THAT YtonpbbflloljgaaDoorProg.lean LOADS. Nothing in Lean hashes anything: it is a label: what it is worth is what the hold of that sum in a sandbox is worth. -/
noncomputable def Tryd.pinned : Pinned := { name := "ytonpbbflloljgaadoor", sum := "dff75f97c8eab76beaf4e76d7fbfd9e4d48c4e8f12f10d02ad194e807bdf8231", checked := Tryd.checked }
namespace Rows
def none {H : Type} : Left H := { results := [], args := [] }

/- WHAT THE LISTED PACKAGE-LEVEL VARIABLES READ AS WHEN THE CALL BEGINS. Each datum BY PROGRAM (the guide's laid-datum.mjs) off the statement by which the dump's own 'gosem.cut.vars' lays the variable. In a bare row this is a premise. The card (YtonpbbflloljgaaDoorCards.lean) ties it to the program's text. -/
def laid_sluiceway_arith_signs {H : Type} : DataW H := .agg [.lit (.string []), .lit (.string [43]), .lit (.string [45]), .lit (.string [42]), .lit (.string [47]), .lit (.string [37]), .lit (.string [38]), .lit (.string [124]), .lit (.string [94]), .lit (.string [60, 60]), .lit (.string [62, 62]), .lit (.string [60]), .lit (.string [60, 61]), .lit (.string [62]), .lit (.string [62, 61]), .lit (.string [61, 61]), .lit (.string [33, 61]), .lit (.string [45]), .lit (.string [94]), .lit (.string [33])]

/-- 'sluicewaylaw.ArithSigns': WHATEVER THE INPUT: true; the input reads as it did. -/
def arithSignsSpec : ChangeSpec := { name := "arithSigns", fn := fun _ => fun
  | [d1, d2] => { results := [.lit (.bool true)], args := [d1, d2] }
  | _ => none }
def arithSignsRow : OpenClaim := { program := "ytonpbbflloljgaadoor", sum := "dff75f97c8eab76beaf4e76d7fbfd9e4d48c4e8f12f10d02ad194e807bdf8231", func := "sluiceway/sluicewaylaw.ArithSigns", spec := "arithSigns", named := ["sluiceway/arith.signs"], apart := false, laid := [("sluiceway/arith.signs", laid_sluiceway_arith_signs)] }
def ArithSignsSaid : Prop := arithSignsRow.holds Tryd.pinned (OpenSpec.ofChange arithSignsSpec)

/-- ITS FALSE NEIGHBOUR: 'it returns false'. Refute it at one input. -/
def arithSignsWrong : ChangeSpec := { name := "arithSigns", fn := fun _ => fun
  | [d1, d2] => { results := [.lit (.bool false)], args := [d1, d2] }
  | _ => none }
def ArithSignsWrongFalsely : Prop := arithSignsRow.holds Tryd.pinned (OpenSpec.ofChange arithSignsWrong)

/-- 'sluicewaykeep.ArithRing': WHATEVER THE INPUT: true; the input reads as it did. -/
def arithRingSpec : ChangeSpec := { name := "arithRing", fn := fun _ => fun
  | [d1, d2, d3] => { results := [.lit (.bool true)], args := [d1, d2, d3] }
  | _ => none }
def arithRingRow : OpenClaim := { program := "ytonpbbflloljgaadoor", sum := "dff75f97c8eab76beaf4e76d7fbfd9e4d48c4e8f12f10d02ad194e807bdf8231", func := "sluiceway/sluicewaykeep.ArithRing", spec := "arithRing", named := ["sluiceway/arith.signs"], apart := false, laid := [("sluiceway/arith.signs", laid_sluiceway_arith_signs)] }
def ArithRingSaid : Prop := arithRingRow.holds Tryd.pinned (OpenSpec.ofChange arithRingSpec)

/-- ITS FALSE NEIGHBOUR: 'it returns false'. Refute it at one input. -/
def arithRingWrong : ChangeSpec := { name := "arithRing", fn := fun _ => fun
  | [d1, d2, d3] => { results := [.lit (.bool false)], args := [d1, d2, d3] }
  | _ => none }
def ArithRingWrongFalsely : Prop := arithRingRow.holds Tryd.pinned (OpenSpec.ofChange arithRingWrong)

/-- 'sluicewaykeep.ArithDivides': WHATEVER THE INPUT: true; the input reads as it did. -/
def arithDividesSpec : ChangeSpec := { name := "arithDivides", fn := fun _ => fun
  | [d1, d2] => { results := [.lit (.bool true)], args := [d1, d2] }
  | _ => none }
def arithDividesRow : OpenClaim := { program := "ytonpbbflloljgaadoor", sum := "dff75f97c8eab76beaf4e76d7fbfd9e4d48c4e8f12f10d02ad194e807bdf8231", func := "sluiceway/sluicewaykeep.ArithDivides", spec := "arithDivides", named := ["sluiceway/arith.signs"], apart := false, laid := [("sluiceway/arith.signs", laid_sluiceway_arith_signs)] }
def ArithDividesSaid : Prop := arithDividesRow.holds Tryd.pinned (OpenSpec.ofChange arithDividesSpec)

/-- ITS FALSE NEIGHBOUR: 'it returns false'. Refute it at one input. -/
def arithDividesWrong : ChangeSpec := { name := "arithDivides", fn := fun _ => fun
  | [d1, d2] => { results := [.lit (.bool false)], args := [d1, d2] }
  | _ => none }
def ArithDividesWrongFalsely : Prop := arithDividesRow.holds Tryd.pinned (OpenSpec.ofChange arithDividesWrong)

/-- 'sluicewaykeep.ArithBits': WHATEVER THE INPUT: true; the input reads as it did. -/
def arithBitsSpec : ChangeSpec := { name := "arithBits", fn := fun _ => fun
  | [d1, d2, d3] => { results := [.lit (.bool true)], args := [d1, d2, d3] }
  | _ => none }
def arithBitsRow : OpenClaim := { program := "ytonpbbflloljgaadoor", sum := "dff75f97c8eab76beaf4e76d7fbfd9e4d48c4e8f12f10d02ad194e807bdf8231", func := "sluiceway/sluicewaykeep.ArithBits", spec := "arithBits", unfollowed := true, recurses := true, named := ["sluiceway/arith.signs"], apart := false, laid := [("sluiceway/arith.signs", laid_sluiceway_arith_signs)] }
def ArithBitsSaid : Prop := arithBitsRow.holds Tryd.pinned (OpenSpec.ofChange arithBitsSpec)

/-- ITS FALSE NEIGHBOUR: 'it returns false'. Refute it at one input. -/
def arithBitsWrong : ChangeSpec := { name := "arithBits", fn := fun _ => fun
  | [d1, d2, d3] => { results := [.lit (.bool false)], args := [d1, d2, d3] }
  | _ => none }
def ArithBitsWrongFalsely : Prop := arithBitsRow.holds Tryd.pinned (OpenSpec.ofChange arithBitsWrong)

/-- 'sluicewaykeep.ArithShifts': WHATEVER THE INPUT: true; the input reads as it did. -/
def arithShiftsSpec : ChangeSpec := { name := "arithShifts", fn := fun _ => fun
  | [d1, d2, d3] => { results := [.lit (.bool true)], args := [d1, d2, d3] }
  | _ => none }
def arithShiftsRow : OpenClaim := { program := "ytonpbbflloljgaadoor", sum := "dff75f97c8eab76beaf4e76d7fbfd9e4d48c4e8f12f10d02ad194e807bdf8231", func := "sluiceway/sluicewaykeep.ArithShifts", spec := "arithShifts", named := ["sluiceway/arith.signs"], apart := false, laid := [("sluiceway/arith.signs", laid_sluiceway_arith_signs)] }
def ArithShiftsSaid : Prop := arithShiftsRow.holds Tryd.pinned (OpenSpec.ofChange arithShiftsSpec)

/-- ITS FALSE NEIGHBOUR: 'it returns false'. Refute it at one input. -/
def arithShiftsWrong : ChangeSpec := { name := "arithShifts", fn := fun _ => fun
  | [d1, d2, d3] => { results := [.lit (.bool false)], args := [d1, d2, d3] }
  | _ => none }
def ArithShiftsWrongFalsely : Prop := arithShiftsRow.holds Tryd.pinned (OpenSpec.ofChange arithShiftsWrong)

/-- 'sluicewaykeep.ArithOrder': WHATEVER THE INPUT: true; the input reads as it did. -/
def arithOrderSpec : ChangeSpec := { name := "arithOrder", fn := fun _ => fun
  | [d1, d2, d3] => { results := [.lit (.bool true)], args := [d1, d2, d3] }
  | _ => none }
def arithOrderRow : OpenClaim := { program := "ytonpbbflloljgaadoor", sum := "dff75f97c8eab76beaf4e76d7fbfd9e4d48c4e8f12f10d02ad194e807bdf8231", func := "sluiceway/sluicewaykeep.ArithOrder", spec := "arithOrder", named := ["sluiceway/arith.signs"], apart := false, laid := [("sluiceway/arith.signs", laid_sluiceway_arith_signs)] }
def ArithOrderSaid : Prop := arithOrderRow.holds Tryd.pinned (OpenSpec.ofChange arithOrderSpec)

/-- ITS FALSE NEIGHBOUR: 'it returns false'. Refute it at one input. -/
def arithOrderWrong : ChangeSpec := { name := "arithOrder", fn := fun _ => fun
  | [d1, d2, d3] => { results := [.lit (.bool false)], args := [d1, d2, d3] }
  | _ => none }
def ArithOrderWrongFalsely : Prop := arithOrderRow.holds Tryd.pinned (OpenSpec.ofChange arithOrderWrong)

/-- 'sluicewaykeep.ArithSigned': WHATEVER THE INPUT: true; the input reads as it did. -/
def arithSignedSpec : ChangeSpec := { name := "arithSigned", fn := fun _ => fun
  | [d] => { results := [.lit (.bool true)], args := [d] }
  | _ => none }
def arithSignedRow : OpenClaim := { program := "ytonpbbflloljgaadoor", sum := "dff75f97c8eab76beaf4e76d7fbfd9e4d48c4e8f12f10d02ad194e807bdf8231", func := "sluiceway/sluicewaykeep.ArithSigned", spec := "arithSigned", named := ["sluiceway/arith.signs"], apart := false, laid := [("sluiceway/arith.signs", laid_sluiceway_arith_signs)] }
def ArithSignedSaid : Prop := arithSignedRow.holds Tryd.pinned (OpenSpec.ofChange arithSignedSpec)

/-- ITS FALSE NEIGHBOUR: 'it returns false'. Refute it at one input. -/
def arithSignedWrong : ChangeSpec := { name := "arithSigned", fn := fun _ => fun
  | [d] => { results := [.lit (.bool false)], args := [d] }
  | _ => none }
def ArithSignedWrongFalsely : Prop := arithSignedRow.holds Tryd.pinned (OpenSpec.ofChange arithSignedWrong)

/- THE SECOND FORM. 'bulk': how many values and letters a reading holds, each counted each time it is reached (what is shared counts as often as it is met; a slice's spare places count too). A statement '..UptoSaid' is the law's where the arguments, and the package variables that the reading takes, are together of bulk at most 1048576: NARROWER than '..Said'. Prove '..Said' where nothing that the law and all that it calls make is longer than what came in: it says more and counts as full. Else prove '..UptoSaid'. A law counts once. -/
mutual
def uptoBulk {H : Type} : DataW H → Nat
  | .lit (.string bytes) => bytes.length + 1
  | .lit _ => 1
  | .nil => 1
  | .ptr d => uptoBulk d + 1
  | .slice elems spare => uptoBulkAll elems + uptoBulkAll spare + 1
  | .agg parts => uptoBulkAll parts + 1
  | .iface _ d => uptoBulk d + 1
  | .map entries => uptoBulkEntries entries + 1
  | .held _ => 1
def uptoBulkAll {H : Type} : List (DataW H) → Nat
  | [] => 0
  | d :: r => uptoBulk d + uptoBulkAll r
def uptoBulkEntries {H : Type} : List (Lit × DataW H) → Nat
  | [] => 0
  | x :: r => uptoBulkEntry x + uptoBulkEntries r
def uptoBulkEntry {H : Type} : Lit × DataW H → Nat
  | (.string bytes, d) => bytes.length + uptoBulk d + 1
  | (_, d) => uptoBulk d + 1
 end
def uptoSmall : (H : Type) → List (DataW H) → Bool := fun _ ds => decide (uptoBulkAll ds ≤ 1048576)
def OpenSpec.upto (s : _root_.Go.ChangeSpec) : _root_.Go.OpenSpec := { _root_.Go.OpenSpec.ofChange s with cond := some uptoSmall }

/-- 'sluicewaylaw.ArithSigns', WHERE WHAT IT READS IS OF BULK AT MOST 1048576: true; the input reads as it did. -/
def arithSignsUptoRow : OpenClaim := { program := "ytonpbbflloljgaadoor", sum := "dff75f97c8eab76beaf4e76d7fbfd9e4d48c4e8f12f10d02ad194e807bdf8231", func := "sluiceway/sluicewaylaw.ArithSigns", spec := "arithSigns", named := ["sluiceway/arith.signs"], apart := false, laid := [("sluiceway/arith.signs", laid_sluiceway_arith_signs)], narrowed := true }
def ArithSignsUptoSaid : Prop := arithSignsUptoRow.holds Tryd.pinned (OpenSpec.upto arithSignsSpec)

/-- 'sluicewaykeep.ArithRing', WHERE WHAT IT READS IS OF BULK AT MOST 1048576: true; the input reads as it did. -/
def arithRingUptoRow : OpenClaim := { program := "ytonpbbflloljgaadoor", sum := "dff75f97c8eab76beaf4e76d7fbfd9e4d48c4e8f12f10d02ad194e807bdf8231", func := "sluiceway/sluicewaykeep.ArithRing", spec := "arithRing", named := ["sluiceway/arith.signs"], apart := false, laid := [("sluiceway/arith.signs", laid_sluiceway_arith_signs)], narrowed := true }
def ArithRingUptoSaid : Prop := arithRingUptoRow.holds Tryd.pinned (OpenSpec.upto arithRingSpec)

/-- 'sluicewaykeep.ArithDivides', WHERE WHAT IT READS IS OF BULK AT MOST 1048576: true; the input reads as it did. -/
def arithDividesUptoRow : OpenClaim := { program := "ytonpbbflloljgaadoor", sum := "dff75f97c8eab76beaf4e76d7fbfd9e4d48c4e8f12f10d02ad194e807bdf8231", func := "sluiceway/sluicewaykeep.ArithDivides", spec := "arithDivides", named := ["sluiceway/arith.signs"], apart := false, laid := [("sluiceway/arith.signs", laid_sluiceway_arith_signs)], narrowed := true }
def ArithDividesUptoSaid : Prop := arithDividesUptoRow.holds Tryd.pinned (OpenSpec.upto arithDividesSpec)

/-- 'sluicewaykeep.ArithBits', WHERE WHAT IT READS IS OF BULK AT MOST 1048576: true; the input reads as it did. -/
def arithBitsUptoRow : OpenClaim := { program := "ytonpbbflloljgaadoor", sum := "dff75f97c8eab76beaf4e76d7fbfd9e4d48c4e8f12f10d02ad194e807bdf8231", func := "sluiceway/sluicewaykeep.ArithBits", spec := "arithBits", unfollowed := true, recurses := true, named := ["sluiceway/arith.signs"], apart := false, laid := [("sluiceway/arith.signs", laid_sluiceway_arith_signs)], narrowed := true }
def ArithBitsUptoSaid : Prop := arithBitsUptoRow.holds Tryd.pinned (OpenSpec.upto arithBitsSpec)

/-- 'sluicewaykeep.ArithShifts', WHERE WHAT IT READS IS OF BULK AT MOST 1048576: true; the input reads as it did. -/
def arithShiftsUptoRow : OpenClaim := { program := "ytonpbbflloljgaadoor", sum := "dff75f97c8eab76beaf4e76d7fbfd9e4d48c4e8f12f10d02ad194e807bdf8231", func := "sluiceway/sluicewaykeep.ArithShifts", spec := "arithShifts", named := ["sluiceway/arith.signs"], apart := false, laid := [("sluiceway/arith.signs", laid_sluiceway_arith_signs)], narrowed := true }
def ArithShiftsUptoSaid : Prop := arithShiftsUptoRow.holds Tryd.pinned (OpenSpec.upto arithShiftsSpec)

/-- 'sluicewaykeep.ArithOrder', WHERE WHAT IT READS IS OF BULK AT MOST 1048576: true; the input reads as it did. -/
def arithOrderUptoRow : OpenClaim := { program := "ytonpbbflloljgaadoor", sum := "dff75f97c8eab76beaf4e76d7fbfd9e4d48c4e8f12f10d02ad194e807bdf8231", func := "sluiceway/sluicewaykeep.ArithOrder", spec := "arithOrder", named := ["sluiceway/arith.signs"], apart := false, laid := [("sluiceway/arith.signs", laid_sluiceway_arith_signs)], narrowed := true }
def ArithOrderUptoSaid : Prop := arithOrderUptoRow.holds Tryd.pinned (OpenSpec.upto arithOrderSpec)

/-- 'sluicewaykeep.ArithSigned', WHERE WHAT IT READS IS OF BULK AT MOST 1048576: true; the input reads as it did. -/
def arithSignedUptoRow : OpenClaim := { program := "ytonpbbflloljgaadoor", sum := "dff75f97c8eab76beaf4e76d7fbfd9e4d48c4e8f12f10d02ad194e807bdf8231", func := "sluiceway/sluicewaykeep.ArithSigned", spec := "arithSigned", named := ["sluiceway/arith.signs"], apart := false, laid := [("sluiceway/arith.signs", laid_sluiceway_arith_signs)], narrowed := true }
def ArithSignedUptoSaid : Prop := arithSignedUptoRow.holds Tryd.pinned (OpenSpec.upto arithSignedSpec)

end Rows
end Go.Proofs.YtonpbbflloljgaaDoor
