/-
  What the variables that the laws over Lex and errors list give their walks.
-/
import Derived.Test.YtgmdnkhlkabaiaaGreatDoorLexLaid
import Derived.Test.YtgmdnkhlkabaiaaGreatDoorErrLd
namespace Go.Proofs.YtgmdnkhlkabaiaaGreatDoor
open Go.RowKit Lx
theorem lexBlind_laid {W : World} (h : laidMetH Tryz.prog Rows.lexBlindRow.laid W) : LexEnv W.heap.size W ∧ ErrT W := by
  refine ⟨?_, errT_of_laid h (by repeat' first | exact List.mem_cons_self .. | apply List.mem_cons_of_mem)⟩
  have h1 := (laidMetH_iff.1 h).1
  exact lexEnv_of h1 (List.mem_filter.2 ⟨by repeat' first | exact List.mem_cons_self .. | apply List.mem_cons_of_mem, rfl⟩) (List.mem_filter.2 ⟨by repeat' first | exact List.mem_cons_self .. | apply List.mem_cons_of_mem, rfl⟩)
    (List.mem_filter.2 ⟨by repeat' first | exact List.mem_cons_self .. | apply List.mem_cons_of_mem, rfl⟩) (List.mem_filter.2 ⟨by repeat' first | exact List.mem_cons_self .. | apply List.mem_cons_of_mem, rfl⟩)
theorem maxL_cell {W : World} (h : W.ShapedOpen Tryz.prog) : ∃ m, W.cell? ⟨4, 0, none⟩ = some (.int .i64 m) := Tryz.laysM155.s1_3 W h
end Go.Proofs.YtgmdnkhlkabaiaaGreatDoor
