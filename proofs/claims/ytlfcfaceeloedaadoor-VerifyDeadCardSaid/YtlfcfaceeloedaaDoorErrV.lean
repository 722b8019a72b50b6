/-
  Errors by their numbers.
-/
import Derived.Test.YtlfcfaceeloedaaDoorVaryD
namespace Go.Proofs.YtlfcfaceeloedaaDoor
open Go.RowKit

/-- An error by its number: nil for 0. -/
def errV (re : Nat) : Value := if re = 0 then .nilIface else .iface 26 (.int .i64 re)
theorem errV_0 : errV 0 = .nilIface := rfl
theorem errV_2 : errV 2 = .iface 26 (.int .i64 2) := rfl
theorem errV_3 : errV 3 = .iface 26 (.int .i64 3) := rfl
end Go.Proofs.YtlfcfaceeloedaaDoor
