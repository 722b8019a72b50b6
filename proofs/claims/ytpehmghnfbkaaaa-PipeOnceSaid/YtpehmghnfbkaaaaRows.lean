/-
  No cell of these rows narrows 'for every input' (looked for: loops, veiled, ifaces, maps, wideKeys, modest, calm, conditions, laid).
  DERIVED. THE GIVEN ROWS OF THIS SEAT. 5 by the template 'for every input the law returns true; each argument reads behind the call as it read before'; 0 by the template 'total and deterministic' (their statements: YtpehmghnfbkaaaaTotals.lean).
  GIVEN WITH THE SEED: the statements are not yours to turn. If you find one false, say at which input.
  Laid BY PROGRAM, IN A SANDBOX (cutbox-rows.mjs): the forced cells as the released guide's own fill.sh prints them over the translation 37b239e6d78e991c… (all of the seat's roots in one cut). By AI agents, Wed Nov 11 2026. No macro, syntax, notation, axiom, sorry.
-/
import Derived.Test.YtpehmghnfbkaaaaChecked
import GoSem.Claim
import GoSem.ClaimJoined
import GoSem.ClaimMapViews
import Derived.JoinedTies
import Derived.KernelRfl
namespace Go.Proofs.Ytpehmghnfbkaaaa
/- THE CELL 'sum', in the pinned program and in every row, IS THE sha256 OF THE DUMP (.gsa) THAT YtpehmghnfbkaaaaProg.lean LOADS. Nothing in Lean hashes anything: it is a label: what it is worth is what the hold of that sum in a sandbox is worth. -/
noncomputable def Try.pinned : Pinned := { name := "ytpehmghnfbkaaaa", sum := "37b239e6d78e991c0b6f34b32781a1911b9bf9c794c0836530d850978ab0db1c", checked := Try.checked }
namespace Rows
def none {H : Type} : Left H := { results := [], args := [] }

/-- 'sluicewaykeep.PipeFifo': WHATEVER THE INPUT: true; the input reads as it did. -/
def pipeFifoSpec : ChangeSpec := { name := "pipeFifo", fn := fun _ => fun
  | [d1, d2] => { results := [.lit (.bool true)], args := [d1, d2] }
  | _ => none }
def pipeFifoRow : OpenClaim := { program := "ytpehmghnfbkaaaa", sum := "37b239e6d78e991c0b6f34b32781a1911b9bf9c794c0836530d850978ab0db1c", func := "sluiceway/sluicewaykeep.PipeFifo", spec := "pipeFifo", unfollowed := true, recurses := true, apart := false }
def PipeFifoSaid : Prop := pipeFifoRow.holds Try.pinned (OpenSpec.ofChange pipeFifoSpec)

/-- ITS FALSE NEIGHBOUR: 'it returns false'. Refute it at one input. -/
def pipeFifoWrong : ChangeSpec := { name := "pipeFifo", fn := fun _ => fun
  | [d1, d2] => { results := [.lit (.bool false)], args := [d1, d2] }
  | _ => none }
def PipeFifoWrongFalsely : Prop := pipeFifoRow.holds Try.pinned (OpenSpec.ofChange pipeFifoWrong)

/-- 'sluicewaykeep.PipeKeeps': WHATEVER THE INPUT: true; the input reads as it did. -/
def pipeKeepsSpec : ChangeSpec := { name := "pipeKeeps", fn := fun _ => fun
  | [d1, d2] => { results := [.lit (.bool true)], args := [d1, d2] }
  | _ => none }
def pipeKeepsRow : OpenClaim := { program := "ytpehmghnfbkaaaa", sum := "37b239e6d78e991c0b6f34b32781a1911b9bf9c794c0836530d850978ab0db1c", func := "sluiceway/sluicewaykeep.PipeKeeps", spec := "pipeKeeps", unfollowed := true, recurses := true, apart := false }
def PipeKeepsSaid : Prop := pipeKeepsRow.holds Try.pinned (OpenSpec.ofChange pipeKeepsSpec)

/-- ITS FALSE NEIGHBOUR: 'it returns false'. Refute it at one input. -/
def pipeKeepsWrong : ChangeSpec := { name := "pipeKeeps", fn := fun _ => fun
  | [d1, d2] => { results := [.lit (.bool false)], args := [d1, d2] }
  | _ => none }
def PipeKeepsWrongFalsely : Prop := pipeKeepsRow.holds Try.pinned (OpenSpec.ofChange pipeKeepsWrong)

/-- 'sluicewaykeep.PipeOnce': WHATEVER THE INPUT: true; the input reads as it did. -/
def pipeOnceSpec : ChangeSpec := { name := "pipeOnce", fn := fun _ => fun
  | [d1, d2] => { results := [.lit (.bool true)], args := [d1, d2] }
  | _ => none }
def pipeOnceRow : OpenClaim := { program := "ytpehmghnfbkaaaa", sum := "37b239e6d78e991c0b6f34b32781a1911b9bf9c794c0836530d850978ab0db1c", func := "sluiceway/sluicewaykeep.PipeOnce", spec := "pipeOnce", unfollowed := true, recurses := true, apart := false }
def PipeOnceSaid : Prop := pipeOnceRow.holds Try.pinned (OpenSpec.ofChange pipeOnceSpec)

/-- ITS FALSE NEIGHBOUR: 'it returns false'. Refute it at one input. -/
def pipeOnceWrong : ChangeSpec := { name := "pipeOnce", fn := fun _ => fun
  | [d1, d2] => { results := [.lit (.bool false)], args := [d1, d2] }
  | _ => none }
def PipeOnceWrongFalsely : Prop := pipeOnceRow.holds Try.pinned (OpenSpec.ofChange pipeOnceWrong)

/-- 'sluicewaykeep.PipeMeets': WHATEVER THE INPUT: true; the input reads as it did. -/
def pipeMeetsSpec : ChangeSpec := { name := "pipeMeets", fn := fun _ => fun
  | [d1, d2] => { results := [.lit (.bool true)], args := [d1, d2] }
  | _ => none }
def pipeMeetsRow : OpenClaim := { program := "ytpehmghnfbkaaaa", sum := "37b239e6d78e991c0b6f34b32781a1911b9bf9c794c0836530d850978ab0db1c", func := "sluiceway/sluicewaykeep.PipeMeets", spec := "pipeMeets", unfollowed := true, recurses := true, apart := false }
def PipeMeetsSaid : Prop := pipeMeetsRow.holds Try.pinned (OpenSpec.ofChange pipeMeetsSpec)

/-- ITS FALSE NEIGHBOUR: 'it returns false'. Refute it at one input. -/
def pipeMeetsWrong : ChangeSpec := { name := "pipeMeets", fn := fun _ => fun
  | [d1, d2] => { results := [.lit (.bool false)], args := [d1, d2] }
  | _ => none }
def PipeMeetsWrongFalsely : Prop := pipeMeetsRow.holds Try.pinned (OpenSpec.ofChange pipeMeetsWrong)

/-- 'sluicewaykeep.PipeDraws': WHATEVER THE INPUT: true; the input reads as it did. -/
def pipeDrawsSpec : ChangeSpec := { name := "pipeDraws", fn := fun _ => fun
  | [d1, d2] => { results := [.lit (.bool true)], args := [d1, d2] }
  | _ => none }
def pipeDrawsRow : OpenClaim := { program := "ytpehmghnfbkaaaa", sum := "37b239e6d78e991c0b6f34b32781a1911b9bf9c794c0836530d850978ab0db1c", func := "sluiceway/sluicewaykeep.PipeDraws", spec := "pipeDraws", unfollowed := true, recurses := true, apart := false }
def PipeDrawsSaid : Prop := pipeDrawsRow.holds Try.pinned (OpenSpec.ofChange pipeDrawsSpec)

/-- ITS FALSE NEIGHBOUR: 'it returns false'. Refute it at one input. -/
def pipeDrawsWrong : ChangeSpec := { name := "pipeDraws", fn := fun _ => fun
  | [d1, d2] => { results := [.lit (.bool false)], args := [d1, d2] }
  | _ => none }
def PipeDrawsWrongFalsely : Prop := pipeDrawsRow.holds Try.pinned (OpenSpec.ofChange pipeDrawsWrong)

/- THE SECOND FORM. 'bulk': how many values and letters a reading holds, each counted each time it is reached (what is shared counts as often as it is met; a slice's spare places count too). A statement '..UptoSaid' is the law's where the arguments, and the package variables that the reading takes, are together of bulk at most 1048576: NARROWER than '..Said'. Prove '..Said' where nothing that the law and all that it calls make is longer than what came in: it says more and counts as full. Else prove '..UptoSaid'. A law counts once. -/
mutual
def uptoBulk {H : Type} : DataW H → Nat
  | .lit (.string bytes) => bytes.length + 1
  | .lit _ => 1
  | .nil => 1
  | .ptr d => uptoBulk d + 1
  | .slice elems spare => uptoBulkAll elems + uptoBulkAll spare + 1
  | .agg parts => uptoBulkAll parts + 1
  | .iface _ d => uptoBulk d + 1
  | .map entries => uptoBulkEntries entries + 1
  | .held _ => 1
def uptoBulkAll {H : Type} : List (DataW H) → Nat
  | [] => 0
  | d :: r => uptoBulk d + uptoBulkAll r
def uptoBulkEntries {H : Type} : List (Lit × DataW H) → Nat
  | [] => 0
  | x :: r => uptoBulkEntry x + uptoBulkEntries r
def uptoBulkEntry {H : Type} : Lit × DataW H → Nat
  | (.string bytes, d) => bytes.length + uptoBulk d + 1
  | (_, d) => uptoBulk d + 1
 end
def uptoSmall : (H : Type) → List (DataW H) → Bool := fun _ ds => decide (uptoBulkAll ds ≤ 1048576)
def OpenSpec.upto (s : _root_.Go.ChangeSpec) : _root_.Go.OpenSpec := { _root_.Go.OpenSpec.ofChange s with cond := some uptoSmall }

/-- 'sluicewaykeep.PipeFifo', WHERE WHAT IT READS IS OF BULK AT MOST 1048576: true; the input reads as it did. -/
def pipeFifoUptoRow : OpenClaim := { program := "ytpehmghnfbkaaaa", sum := "37b239e6d78e991c0b6f34b32781a1911b9bf9c794c0836530d850978ab0db1c", func := "sluiceway/sluicewaykeep.PipeFifo", spec := "pipeFifo", unfollowed := true, recurses := true, apart := false, narrowed := true }
def PipeFifoUptoSaid : Prop := pipeFifoUptoRow.holds Try.pinned (OpenSpec.upto pipeFifoSpec)

/-- 'sluicewaykeep.PipeKeeps', WHERE WHAT IT READS IS OF BULK AT MOST 1048576: true; the input reads as it did. -/
def pipeKeepsUptoRow : OpenClaim := { program := "ytpehmghnfbkaaaa", sum := "37b239e6d78e991c0b6f34b32781a1911b9bf9c794c0836530d850978ab0db1c", func := "sluiceway/sluicewaykeep.PipeKeeps", spec := "pipeKeeps", unfollowed := true, recurses := true, apart := false, narrowed := true }
def PipeKeepsUptoSaid : Prop := pipeKeepsUptoRow.holds Try.pinned (OpenSpec.upto pipeKeepsSpec)

/-- 'sluicewaykeep.PipeOnce', WHERE WHAT IT READS IS OF BULK AT MOST 1048576: true; the input reads as it did. -/
def pipeOnceUptoRow : OpenClaim := { program := "ytpehmghnfbkaaaa", sum := "37b239e6d78e991c0b6f34b32781a1911b9bf9c794c0836530d850978ab0db1c", func := "sluiceway/sluicewaykeep.PipeOnce", spec := "pipeOnce", unfollowed := true, recurses := true, apart := false, narrowed := true }
def PipeOnceUptoSaid : Prop := pipeOnceUptoRow.holds Try.pinned (OpenSpec.upto pipeOnceSpec)

/-- 'sluicewaykeep.PipeMeets', WHERE WHAT IT READS IS OF BULK AT MOST 1048576: true; the input reads as it did. -/
def pipeMeetsUptoRow : OpenClaim := { program := "ytpehmghnfbkaaaa", sum := "37b239e6d78e991c0b6f34b32781a1911b9bf9c794c0836530d850978ab0db1c", func := "sluiceway/sluicewaykeep.PipeMeets", spec := "pipeMeets", unfollowed := true, recurses := true, apart := false, narrowed := true }
def PipeMeetsUptoSaid : Prop := pipeMeetsUptoRow.holds Try.pinned (OpenSpec.upto pipeMeetsSpec)

/-- 'sluicewaykeep.PipeDraws', WHERE WHAT IT READS IS OF BULK AT MOST 1048576: true; the input reads as it did. -/
def pipeDrawsUptoRow : OpenClaim := { program := "ytpehmghnfbkaaaa", sum := "37b239e6d78e991c0b6f34b32781a1911b9bf9c794c0836530d850978ab0db1c", func := "sluiceway/sluicewaykeep.PipeDraws", spec := "pipeDraws", unfollowed := true, recurses := true, apart := false, narrowed := true }
def PipeDrawsUptoSaid : Prop := pipeDrawsUptoRow.holds Try.pinned (OpenSpec.upto pipeDrawsSpec)

end Rows
end Go.Proofs.Ytpehmghnfbkaaaa
