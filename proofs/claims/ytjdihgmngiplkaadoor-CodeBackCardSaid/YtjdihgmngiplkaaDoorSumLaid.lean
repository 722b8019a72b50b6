/-
  What the listed variable of package sum gives the walks.
-/
import Derived.Test.YtjdihgmngiplkaaDoorSumW1
import Derived.Test.YtjdihgmngiplkaaDoorTie
import Derived.Lib.LaidTab
namespace Go.Proofs.YtjdihgmngiplkaaDoor
open Go.RowKit
theorem gLeaves : Tryd.prog.globalNamed "sluiceway/sum.leaves" = some 8 := by kernel_rfl
theorem tLeaves : (Tryd.prog.globals[8]?).map (·.type) = some 221 := by kernel_rfl
theorem cells_u32 : Tryd.prog.cellsOf 41 = 1 := by kernel_rfl
theorem cells_leaves : Tryd.prog.cellsOf 221 = 16 := by kernel_rfl
def leavesI : List Int := Crc.leaves.map Int.ofNat
theorem leavesI_get (n : Nat) (h : n < 16) : leavesI.getD n 0 = ((Crc.leaf n : Nat) : Int) := by
  revert n; decide
theorem leaves_of_tab {W : World} (h : Lib.TabIs Tryd.prog W "sluiceway/sum.leaves" .u32 leavesI) : Leaves W := fun n hn => by
  have := h.cell gLeaves n hn
  rw [leavesI_get n hn] at this
  exact this
theorem leaves_of_laid {W : World} (h : laidMetH Tryd.prog [("sluiceway/sum.leaves", Rows.laid_sluiceway_sum_leaves)] W) : Leaves W :=
  leaves_of_tab (Lib.tabIs_of_head (rest := []) gLeaves tLeaves Tryd.underlying221 Tryd.underlying41 cells_u32 cells_leaves (laidMetH_iff.1 h).1)
end Go.Proofs.YtjdihgmngiplkaaDoor
