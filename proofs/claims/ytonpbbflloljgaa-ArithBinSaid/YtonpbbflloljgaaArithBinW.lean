/-
  The walk of the law ArithBin.
-/
import Derived.Test.YtonpbbflloljgaaRefBin4
namespace Go.Proofs.Ytonpbbflloljgaa
open Go.RowKit

set_option maxHeartbeats 1600000 in
theorem arithBin_any (op a b : Int) (w : World) (_ho1 : -9223372036854775808 ≤ op) (_ho2 : op ≤ 9223372036854775807) (ha1 : -9223372036854775808 ≤ a) (ha2 : a ≤ 9223372036854775807) (hb1 : -9223372036854775808 ≤ b) (hb2 : b ≤ 9223372036854775807) :
    Calls Try.prog 4 #[.int .i64 op, .int .i64 a, .int .i64 b] w fun e w' => e = .returned (.bool true) ∧ Below w.heap.size w w' := by
  have HA := Lib.hid (show I64 a from ⟨ha1, ha2⟩)
  have HB := Lib.hid (show I64 b from ⟨hb1, hb2⟩)
  obtain ⟨n, hn⟩ : ∃ n, n = binV op a b := ⟨_, rfl⟩
  obtain ⟨v, hv⟩ : ∃ v, v = wayV op b := ⟨_, rfl⟩
  have H1 : Hid (∀ w, Calls Try.prog 14 #[.int .i64 op, .int .i64 a, .int .i64 b] w fun e w' => e = .returned (.tuple #[.int .i64 n, .int .i64 v]) ∧ Below w.heap.size w w') := Lib.hid (fun w => by rw [hn, hv]; exact rbin_any op a b w HA.out HB.out)
  have H2 : Hid (∀ w, Calls Try.prog 15 #[.int .i64 op, .int .i64 a, .int .i64 b] w fun e w' => e = .returned (.tuple #[.int .i64 n, .int .i64 v]) ∧ w = w') := Lib.hid (fun w => by rw [hn, hv]; exact bin_any op a b w)
  clear hn hv
  go_enter Try.func4, Try.ntmps4
  go_wp2_with (first | (go_at_call 14; refine (H1.out _).mono ?_; rintro e w1 ⟨rfl, g1⟩) | (go_at_call 15; refine (H2.out _).mono ?_; rintro e w2 ⟨rfl, rfl⟩))
  go_ret
  exact ⟨rfl, g1⟩
end Go.Proofs.Ytonpbbflloljgaa
