/-
  The laws' helpers of chapter 6: bin, reckoned, size.
-/
import Derived.Test.YtonpbbflloljgaaDoorSigns
import Derived.Test.YtonpbbflloljgaaDoorPick
import Derived.Deep.RegionWith
import Derived.Below
namespace Go.Proofs.YtonpbbflloljgaaDoor
open Go.RowKit

theorem kbin_any (op a b : Int) (w : World) :
    Calls Tryd.prog 18 #[.int .i64 op, .int .i64 a, .int .i64 b] w fun e w' => e = .returned (.int .i64 (binV op a b)) ∧ w = w' := by
  go_enter Tryd.func18, Tryd.ntmps18
  go_wp2_with (go_at_call 20; refine (bin_any _ _ _ _).mono ?_; rintro e w1 ⟨rfl, rfl⟩)
  go_ret
  exact ⟨rfl, rfl⟩

theorem known1 : binV 3 6 7 = 42 := by kernel_rfl
theorem known2 : binV 5 (-7) 2 = -1 := by kernel_rfl
theorem sign9 : (signV 9).toArray = #[60, 60] := by kernel_rfl
theorem bin_67 (w : World) : Calls Tryd.prog 20 #[.int .i64 3, .int .i64 6, .int .i64 7] w fun e w' => e = .returned (.tuple #[.int .i64 42, .int .i64 0]) ∧ w = w' :=
  (bin_any 3 6 7 w).mono fun _ _ ⟨he, hw⟩ => ⟨by rw [he, known1]; rfl, hw⟩
theorem bin_10 (w : World) : Calls Tryd.prog 20 #[.int .i64 4, .int .i64 1, .int .i64 0] w fun e w' => e = .returned (.tuple #[.int .i64 0, .int .i64 3]) ∧ w = w' :=
  (bin_any 4 1 0 w).mono fun _ _ ⟨he, hw⟩ => ⟨by rw [he]; rfl, hw⟩
theorem bin_72 (w : World) : Calls Tryd.prog 20 #[.int .i64 5, .int .i64 (-7), .int .i64 2] w fun e w' => e = .returned (.tuple #[.int .i64 (-1), .int .i64 0]) ∧ w = w' :=
  (bin_any 5 (-7) 2 w).mono fun _ _ ⟨he, hw⟩ => ⟨by rw [he, known2]; rfl, hw⟩
theorem sign_9 (w : World) (hS : Signs w) : Calls Tryd.prog 12 #[.int .i64 9] w fun e w' => e = .returned (.string ⟨#[60, 60]⟩) ∧ w = w' :=
  (sign_any 9 w hS).mono fun _ _ ⟨he, hw⟩ => ⟨by rw [he, sign9], hw⟩

set_option maxHeartbeats 400000 in
set_option maxRecDepth 100000 in
theorem reckoned_any (w : World) (hS : Signs w) :
    Calls Tryd.prog 17 #[] w fun e w' => e = .returned (.bool true) ∧ w = w' := by
  have HS := Lib.hid hS
  clear hS
  go_enter Tryd.func17, Tryd.ntmps17
  go_wp2_with (first | (go_at_call_of 20 (Value.int IntKind.i64 3); refine (bin_67 _).mono ?_; rintro e w1 ⟨rfl, rfl⟩) | (go_at_call_of 20 (Value.int IntKind.i64 4); refine (bin_10 _).mono ?_; rintro e w1 ⟨rfl, rfl⟩) | (go_at_call_of 20 (Value.int IntKind.i64 5); refine (bin_72 _).mono ?_; rintro e w1 ⟨rfl, rfl⟩) | (go_at_call 12; refine (sign_9 _ HS.out).mono ?_; rintro e w1 ⟨rfl, rfl⟩))
  go_ret
  exact ⟨rfl, rfl⟩
end Go.Proofs.YtonpbbflloljgaaDoor
