/-
  What the variables that the law LexTells lists give its walk.
-/
import Derived.Test.YthkfdhglgonmnaaGreatDoorLexLaid
import Derived.Test.YthkfdhglgonmnaaGreatDoorErrLd
namespace Go.Proofs.YthkfdhglgonmnaaGreatDoor
open Go.RowKit Lx
theorem lexTells_laid {W : World} (h : laidMetH Tryz.prog Rows.lexTellsRow.laid W) : LexEnv W.heap.size W ∧ ErrT W := by
  refine ⟨?_, errT_of_laid h (by repeat' first | exact List.mem_cons_self .. | apply List.mem_cons_of_mem)⟩
  have h1 := (laidMetH_iff.1 h).1
  exact lexEnv_of h1 (List.mem_filter.2 ⟨by repeat' first | exact List.mem_cons_self .. | apply List.mem_cons_of_mem, rfl⟩) (List.mem_filter.2 ⟨by repeat' first | exact List.mem_cons_self .. | apply List.mem_cons_of_mem, rfl⟩)
    (List.mem_filter.2 ⟨by repeat' first | exact List.mem_cons_self .. | apply List.mem_cons_of_mem, rfl⟩) (List.mem_filter.2 ⟨by repeat' first | exact List.mem_cons_self .. | apply List.mem_cons_of_mem, rfl⟩)
theorem maxL_cell {W : World} (h : W.ShapedOpen Tryz.prog) : ∃ m, W.cell? ⟨6, 0, none⟩ = some (.int .i64 m) := Tryz.laysM143.s1_3 W h
end Go.Proofs.YthkfdhglgonmnaaGreatDoor
