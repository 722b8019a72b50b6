/-
  What the listed variable errors.errorType, listed alone, gives the walks.
-/
import Derived.Test.YtlfcfaceeloedaaDoorErrLd
namespace Go.Proofs.YtlfcfaceeloedaaDoor
open Go.RowKit
theorem errT_only {W : World} (h : laidMetH Tryd.prog [("errors.errorType", Rows.laid_errors_errorType)] W) : ErrT W := errT_of_laid h (List.mem_cons_self ..)
end Go.Proofs.YtlfcfaceeloedaaDoor
