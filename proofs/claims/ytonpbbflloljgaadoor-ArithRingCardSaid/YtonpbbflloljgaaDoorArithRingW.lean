/-
  The walk of the law ArithRing.
-/
import Derived.Test.YtonpbbflloljgaaDoorArithK
import Derived.Test.YtonpbbflloljgaaDoorArithM
namespace Go.Proofs.YtonpbbflloljgaaDoor
open Go.RowKit

set_option maxHeartbeats 400000 in
set_option maxRecDepth 100000 in
theorem arithRing_any (a b c : Int) (w : World) (ha1 : -9223372036854775808 ≤ a) (ha2 : a ≤ 9223372036854775807) (_hb1 : -9223372036854775808 ≤ b) (_hb2 : b ≤ 9223372036854775807) (_hc1 : -9223372036854775808 ≤ c) (_hc2 : c ≤ 9223372036854775807) (hS : Signs w) :
    Calls Tryd.prog 4 #[.int .i64 a, .int .i64 b, .int .i64 c] w fun e w' => e = .returned (.bool true) ∧ Below w.heap.size w w' := by
  have HS := Lib.hid hS
  have r1 := beq_of (ring_1 a b)
  have r2 := beq_of (ring_2 a b)
  have r3 := beq_of (ring_3 a b c)
  have r4 := beq_of (ring_4 a b c)
  have r5 := beq_of (ring_5 a b c)
  have r6 := beq_of (ring_6 a b ⟨ha1, ha2⟩)
  have r7 := beq_of (ring_7 a)
  clear hS
  go_enter Tryd.func4, Tryd.ntmps4
  go_wp2_with (first | (go_at_call 17; refine (reckoned_any _ HS.out).mono ?_; rintro e w1 ⟨rfl, rfl⟩) | (go_at_call 18; refine (kbin_any _ _ _ _).mono ?_; rintro e w1 ⟨rfl, rfl⟩) | (go_at_call 19; refine (un_any _ _ _).mono ?_; rintro e w1 ⟨rfl, rfl⟩))
  go_ret
  exact ⟨rfl, Below.refl _ _⟩
end Go.Proofs.YtonpbbflloljgaaDoor
