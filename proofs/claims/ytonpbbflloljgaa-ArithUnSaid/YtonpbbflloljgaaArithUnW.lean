/-
  The walk of the law ArithUn.
-/
import Derived.Test.YtonpbbflloljgaaRefBin4
namespace Go.Proofs.Ytonpbbflloljgaa
open Go.RowKit

set_option maxHeartbeats 1600000 in
theorem arithUn_any (op a : Int) (w : World) (_ho1 : -9223372036854775808 ≤ op) (_ho2 : op ≤ 9223372036854775807) (_ha1 : -9223372036854775808 ≤ a) (_ha2 : a ≤ 9223372036854775807) :
    Calls Try.prog 5 #[.int .i64 op, .int .i64 a] w fun e w' => e = .returned (.bool true) ∧ Below w.heap.size w w' := by
  obtain ⟨n, hn⟩ : ∃ n, n = unV op a := ⟨_, rfl⟩
  have H1 : Hid (∀ w, Calls Try.prog 17 #[.int .i64 op, .int .i64 a] w fun e w' => e = .returned (.int .i64 n) ∧ Below w.heap.size w w') := Lib.hid (fun w => by rw [hn]; exact run_any op a w)
  have H2 : Hid (∀ w, Calls Try.prog 16 #[.int .i64 op, .int .i64 a] w fun e w' => e = .returned (.int .i64 n) ∧ w = w') := Lib.hid (fun w => by rw [hn]; exact un_any op a w)
  clear hn
  go_enter Try.func5, Try.ntmps5
  go_wp2_with (first | (go_at_call 17; refine (H1.out _).mono ?_; rintro e w1 ⟨rfl, g1⟩) | (go_at_call 16; refine (H2.out _).mono ?_; rintro e w2 ⟨rfl, rfl⟩))
  go_ret
  exact ⟨rfl, g1⟩
end Go.Proofs.Ytonpbbflloljgaa
