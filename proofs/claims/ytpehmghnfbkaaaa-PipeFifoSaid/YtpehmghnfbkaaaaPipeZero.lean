/-
  The zero of a number. Of no chapter.
-/
import Derived.Test.YtpehmghnfbkaaaaPipeAt
namespace Go.Proofs.Ytpehmghnfbkaaaa
open Go.RowKit

theorem zero_intQ (w : World) : (zeroValue 3).run Try.prog w = .ok (.int .i64 0) w := by
  have h := Try.zeroValue3
  simp [h]
end Go.Proofs.Ytpehmghnfbkaaaa
