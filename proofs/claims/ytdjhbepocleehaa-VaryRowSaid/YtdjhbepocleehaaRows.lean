/-
  No cell of these rows narrows 'for every input' (looked for: loops, veiled, ifaces, maps, wideKeys, modest, calm, conditions, laid).
  DERIVED. THE GIVEN ROWS OF THIS SEAT. 5 by the template 'for every input the law returns true; each argument reads behind the call as it read before'; 0 by the template 'total and deterministic' (their statements: YtdjhbepocleehaaTotals.lean).
  GIVEN WITH THE SEED: the statements are not yours to turn. If you find one false, say at which input.
  Laid BY PROGRAM, IN A SANDBOX (cutbox-rows.mjs): the forced cells as the released guide's own fill.sh prints them over the translation 63b5a5788a9f125c… (all of the seat's roots in one cut). By AI agents, Wed Nov 11 2026. No macro, syntax, notation, axiom, sorry.
-/
import Derived.Test.YtdjhbepocleehaaChecked
import GoSem.Claim
import GoSem.ClaimJoined
import GoSem.ClaimMapViews
import Derived.JoinedTies
import Derived.KernelRfl
namespace Go.Proofs.Ytdjhbepocleehaa
/- THE CELL 'sum', in the pinned program and in every row, IS THE sha256 OF THE DUMP (.gsa) THAT YtdjhbepocleehaaProg.lean LOADS. Nothing in Lean hashes anything: it is a label: what it is worth is what the hold of that sum in a sandbox is worth. -/
noncomputable def Try.pinned : Pinned := { name := "ytdjhbepocleehaa", sum := "63b5a5788a9f125ceedd543b9b6b0cd05a326cafbb43c6624f54315f1b959525", checked := Try.checked }
namespace Rows
def none {H : Type} : Left H := { results := [], args := [] }

/-- 'sluicewaykeep.VaryBack': WHATEVER THE INPUT: true; the input reads as it did. -/
def varyBackSpec : ChangeSpec := { name := "varyBack", fn := fun _ => fun
  | [d1, d2, d3, d4, d5] => { results := [.lit (.bool true)], args := [d1, d2, d3, d4, d5] }
  | _ => none }
def varyBackRow : OpenClaim := { program := "ytdjhbepocleehaa", sum := "63b5a5788a9f125ceedd543b9b6b0cd05a326cafbb43c6624f54315f1b959525", func := "sluiceway/sluicewaykeep.VaryBack", spec := "varyBack", apart := false }
def VaryBackSaid : Prop := varyBackRow.holds Try.pinned (OpenSpec.ofChange varyBackSpec)

/-- ITS FALSE NEIGHBOUR: 'it returns false'. Refute it at one input. -/
def varyBackWrong : ChangeSpec := { name := "varyBack", fn := fun _ => fun
  | [d1, d2, d3, d4, d5] => { results := [.lit (.bool false)], args := [d1, d2, d3, d4, d5] }
  | _ => none }
def VaryBackWrongFalsely : Prop := varyBackRow.holds Try.pinned (OpenSpec.ofChange varyBackWrong)

/-- 'sluicewaykeep.VaryOne': WHATEVER THE INPUT: true; the input reads as it did. -/
def varyOneSpec : ChangeSpec := { name := "varyOne", fn := fun _ => fun
  | [d1, d2] => { results := [.lit (.bool true)], args := [d1, d2] }
  | _ => none }
def varyOneRow : OpenClaim := { program := "ytdjhbepocleehaa", sum := "63b5a5788a9f125ceedd543b9b6b0cd05a326cafbb43c6624f54315f1b959525", func := "sluiceway/sluicewaykeep.VaryOne", spec := "varyOne", apart := false }
def VaryOneSaid : Prop := varyOneRow.holds Try.pinned (OpenSpec.ofChange varyOneSpec)

/-- ITS FALSE NEIGHBOUR: 'it returns false'. Refute it at one input. -/
def varyOneWrong : ChangeSpec := { name := "varyOne", fn := fun _ => fun
  | [d1, d2] => { results := [.lit (.bool false)], args := [d1, d2] }
  | _ => none }
def VaryOneWrongFalsely : Prop := varyOneRow.holds Try.pinned (OpenSpec.ofChange varyOneWrong)

/-- 'sluicewaykeep.VaryApart': WHATEVER THE INPUT: true; the input reads as it did. -/
def varyApartSpec : ChangeSpec := { name := "varyApart", fn := fun _ => fun
  | [d1, d2, d3, d4] => { results := [.lit (.bool true)], args := [d1, d2, d3, d4] }
  | _ => none }
def varyApartRow : OpenClaim := { program := "ytdjhbepocleehaa", sum := "63b5a5788a9f125ceedd543b9b6b0cd05a326cafbb43c6624f54315f1b959525", func := "sluiceway/sluicewaykeep.VaryApart", spec := "varyApart", apart := false }
def VaryApartSaid : Prop := varyApartRow.holds Try.pinned (OpenSpec.ofChange varyApartSpec)

/-- ITS FALSE NEIGHBOUR: 'it returns false'. Refute it at one input. -/
def varyApartWrong : ChangeSpec := { name := "varyApart", fn := fun _ => fun
  | [d1, d2, d3, d4] => { results := [.lit (.bool false)], args := [d1, d2, d3, d4] }
  | _ => none }
def VaryApartWrongFalsely : Prop := varyApartRow.holds Try.pinned (OpenSpec.ofChange varyApartWrong)

/-- 'sluicewaykeep.VaryShort': WHATEVER THE INPUT: true; the input reads as it did. -/
def varyShortSpec : ChangeSpec := { name := "varyShort", fn := fun _ => fun
  | [d1, d2] => { results := [.lit (.bool true)], args := [d1, d2] }
  | _ => none }
def varyShortRow : OpenClaim := { program := "ytdjhbepocleehaa", sum := "63b5a5788a9f125ceedd543b9b6b0cd05a326cafbb43c6624f54315f1b959525", func := "sluiceway/sluicewaykeep.VaryShort", spec := "varyShort", apart := false }
def VaryShortSaid : Prop := varyShortRow.holds Try.pinned (OpenSpec.ofChange varyShortSpec)

/-- ITS FALSE NEIGHBOUR: 'it returns false'. Refute it at one input. -/
def varyShortWrong : ChangeSpec := { name := "varyShort", fn := fun _ => fun
  | [d1, d2] => { results := [.lit (.bool false)], args := [d1, d2] }
  | _ => none }
def VaryShortWrongFalsely : Prop := varyShortRow.holds Try.pinned (OpenSpec.ofChange varyShortWrong)

/-- 'sluicewaykeep.VaryRow': WHATEVER THE INPUT: true; the input reads as it did. -/
def varyRowSpec : ChangeSpec := { name := "varyRow", fn := fun _ => fun
  | [d] => { results := [.lit (.bool true)], args := [d] }
  | _ => none }
def varyRowRow : OpenClaim := { program := "ytdjhbepocleehaa", sum := "63b5a5788a9f125ceedd543b9b6b0cd05a326cafbb43c6624f54315f1b959525", func := "sluiceway/sluicewaykeep.VaryRow", spec := "varyRow", apart := false }
def VaryRowSaid : Prop := varyRowRow.holds Try.pinned (OpenSpec.ofChange varyRowSpec)

/-- ITS FALSE NEIGHBOUR: 'it returns false'. Refute it at one input. -/
def varyRowWrong : ChangeSpec := { name := "varyRow", fn := fun _ => fun
  | [d] => { results := [.lit (.bool false)], args := [d] }
  | _ => none }
def VaryRowWrongFalsely : Prop := varyRowRow.holds Try.pinned (OpenSpec.ofChange varyRowWrong)

/- THE SECOND FORM. 'bulk': how many values and letters a reading holds, each counted each time it is reached (what is shared counts as often as it is met; a slice's spare places count too). A statement '..UptoSaid' is the law's where the arguments, and the package variables that the reading takes, are together of bulk at most 1048576: NARROWER than '..Said'. Prove '..Said' where nothing that the law and all that it calls make is longer than what came in: it says more and counts as full. Else prove '..UptoSaid'. A law counts once. -/
mutual
def uptoBulk {H : Type} : DataW H → Nat
  | .lit (.string bytes) => bytes.length + 1
  | .lit _ => 1
  | .nil => 1
  | .ptr d => uptoBulk d + 1
  | .slice elems spare => uptoBulkAll elems + uptoBulkAll spare + 1
  | .agg parts => uptoBulkAll parts + 1
  | .iface _ d => uptoBulk d + 1
  | .map entries => uptoBulkEntries entries + 1
  | .held _ => 1
def uptoBulkAll {H : Type} : List (DataW H) → Nat
  | [] => 0
  | d :: r => uptoBulk d + uptoBulkAll r
def uptoBulkEntries {H : Type} : List (Lit × DataW H) → Nat
  | [] => 0
  | x :: r => uptoBulkEntry x + uptoBulkEntries r
def uptoBulkEntry {H : Type} : Lit × DataW H → Nat
  | (.string bytes, d) => bytes.length + uptoBulk d + 1
  | (_, d) => uptoBulk d + 1
 end
def uptoSmall : (H : Type) → List (DataW H) → Bool := fun _ ds => decide (uptoBulkAll ds ≤ 1048576)
def OpenSpec.upto (s : _root_.Go.ChangeSpec) : _root_.Go.OpenSpec := { _root_.Go.OpenSpec.ofChange s with cond := some uptoSmall }

/-- 'sluicewaykeep.VaryBack', WHERE WHAT IT READS IS OF BULK AT MOST 1048576: true; the input reads as it did. -/
def varyBackUptoRow : OpenClaim := { program := "ytdjhbepocleehaa", sum := "63b5a5788a9f125ceedd543b9b6b0cd05a326cafbb43c6624f54315f1b959525", func := "sluiceway/sluicewaykeep.VaryBack", spec := "varyBack", apart := false, narrowed := true }
def VaryBackUptoSaid : Prop := varyBackUptoRow.holds Try.pinned (OpenSpec.upto varyBackSpec)

/-- 'sluicewaykeep.VaryOne', WHERE WHAT IT READS IS OF BULK AT MOST 1048576: true; the input reads as it did. -/
def varyOneUptoRow : OpenClaim := { program := "ytdjhbepocleehaa", sum := "63b5a5788a9f125ceedd543b9b6b0cd05a326cafbb43c6624f54315f1b959525", func := "sluiceway/sluicewaykeep.VaryOne", spec := "varyOne", apart := false, narrowed := true }
def VaryOneUptoSaid : Prop := varyOneUptoRow.holds Try.pinned (OpenSpec.upto varyOneSpec)

/-- 'sluicewaykeep.VaryApart', WHERE WHAT IT READS IS OF BULK AT MOST 1048576: true; the input reads as it did. -/
def varyApartUptoRow : OpenClaim := { program := "ytdjhbepocleehaa", sum := "63b5a5788a9f125ceedd543b9b6b0cd05a326cafbb43c6624f54315f1b959525", func := "sluiceway/sluicewaykeep.VaryApart", spec := "varyApart", apart := false, narrowed := true }
def VaryApartUptoSaid : Prop := varyApartUptoRow.holds Try.pinned (OpenSpec.upto varyApartSpec)

/-- 'sluicewaykeep.VaryShort', WHERE WHAT IT READS IS OF BULK AT MOST 1048576: true; the input reads as it did. -/
def varyShortUptoRow : OpenClaim := { program := "ytdjhbepocleehaa", sum := "63b5a5788a9f125ceedd543b9b6b0cd05a326cafbb43c6624f54315f1b959525", func := "sluiceway/sluicewaykeep.VaryShort", spec := "varyShort", apart := false, narrowed := true }
def VaryShortUptoSaid : Prop := varyShortUptoRow.holds Try.pinned (OpenSpec.upto varyShortSpec)

/-- 'sluicewaykeep.VaryRow', WHERE WHAT IT READS IS OF BULK AT MOST 1048576: true; the input reads as it did. -/
def varyRowUptoRow : OpenClaim := { program := "ytdjhbepocleehaa", sum := "63b5a5788a9f125ceedd543b9b6b0cd05a326cafbb43c6624f54315f1b959525", func := "sluiceway/sluicewaykeep.VaryRow", spec := "varyRow", apart := false, narrowed := true }
def VaryRowUptoSaid : Prop := varyRowUptoRow.holds Try.pinned (OpenSpec.upto varyRowSpec)

end Rows
end Go.Proofs.Ytdjhbepocleehaa
