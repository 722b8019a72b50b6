/-
  What the variables that RingAlike lists give its walk.
-/
import Derived.Test.YtnhlabbempaidaaDoorAlike
namespace Go.Proofs.YtnhlabbempaidaaDoor
open Go.RowKit
abbrev alikeLaid : List (String × DataW Unit) := Rows.ringAlikeRow.laid
theorem pow_of_laid {W : World} (h : laidMetH Tryd.prog Rows.ringAlikeRow.laid W) : Pow W := by
  have h1 := (laidMetH_iff.1 h).1.filter fun x => x.1 == "internal/strconv.uint64pow10"
  exact Lib.tabIs_of_head (rest := []) gPow tPow Tryd.underlying153 Tryd.underlying132 cells_u64 cells_pow h1
theorem alike_laid {W : World} (h : laidMetH Tryd.prog Rows.ringAlikeRow.laid W) : ErrT W ∧ Pow W :=
  ⟨errT_of_laid h (by repeat' first | exact List.mem_cons_self .. | apply List.mem_cons_of_mem), pow_of_laid h⟩
end Go.Proofs.YtnhlabbempaidaaDoor
