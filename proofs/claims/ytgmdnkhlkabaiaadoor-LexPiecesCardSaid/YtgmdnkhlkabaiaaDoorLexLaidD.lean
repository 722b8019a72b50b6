/-
  What the variables that the laws over Lex alone list give their walks.
-/
import Derived.Test.YtgmdnkhlkabaiaaDoorLexLaid
import Derived.MakeChecks
namespace Go.Proofs.YtgmdnkhlkabaiaaDoor
open Go.RowKit Lx
theorem lexEnv_laid {W : World} (h : laidMetH Tryd.prog Rows.lexStandsRow.laid W) : LexEnv W.heap.size W := by
  rw [MakeChecks.laidMetH_plain _ _ _ (by kernel_rfl)] at h
  exact lexEnv_of h (by repeat' first | exact List.mem_cons_self .. | apply List.mem_cons_of_mem) (by repeat' first | exact List.mem_cons_self .. | apply List.mem_cons_of_mem) (by repeat' first | exact List.mem_cons_self .. | apply List.mem_cons_of_mem) (by repeat' first | exact List.mem_cons_self .. | apply List.mem_cons_of_mem)
end Go.Proofs.YtgmdnkhlkabaiaaDoor
