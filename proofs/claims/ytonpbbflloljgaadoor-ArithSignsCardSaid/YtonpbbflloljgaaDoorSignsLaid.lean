/-
  What the listed variable of package arith gives the walks.
-/
import Derived.Test.YtonpbbflloljgaaDoorSigns
import Derived.Test.YtonpbbflloljgaaDoorTie
namespace Go.Proofs.YtonpbbflloljgaaDoor
open Go.RowKit
theorem signs_of_laid {W : World} (h : laidMetH Tryd.prog [("sluiceway/arith.signs", Rows.laid_sluiceway_arith_signs)] W) : Signs W := fun n hn =>
  (tabS_of_head (zs := signsL) (rest := []) gSigns tSigns Tryd.underlying38 Tryd.underlying9 cells_string cells_signs (laidMetH_iff.1 h).1).cell gSigns n hn
end Go.Proofs.YtonpbbflloljgaaDoor
