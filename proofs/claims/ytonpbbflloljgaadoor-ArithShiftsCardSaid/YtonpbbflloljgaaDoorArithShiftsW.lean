/-
  The walk of the law ArithShifts.
-/
import Derived.Test.YtonpbbflloljgaaDoorArithK
import Derived.Test.YtonpbbflloljgaaDoorArithShiftsM
namespace Go.Proofs.YtonpbbflloljgaaDoor
open Go.RowKit

theorem shift_below (a : Int) (x : Nat) (w : World) : Calls Tryd.prog 20 #[.int .i64 9, .int .i64 a, .int .i64 (-1 - (x : Int))] w fun e w' => e = .returned (.tuple #[.int .i64 0, .int .i64 4]) ∧ w = w' :=
  (bin_any 9 a (-1 - (x : Int)) w).mono fun _ _ ⟨he, hw⟩ => ⟨by rw [he, bin_way _ _ _ (by rw [way_9]; decide), way_9], hw⟩
theorem bne_of {a b : Int} (h : a = b) : (a != b) = false := by rw [h]; exact bne_self_eq_false b

set_option maxHeartbeats 800000 in
set_option maxRecDepth 100000 in
theorem arithShifts_any (a b c : Int) (w : World) (ha1 : -9223372036854775808 ≤ a) (ha2 : a ≤ 9223372036854775807) (_hb1 : -9223372036854775808 ≤ b) (_hb2 : b ≤ 9223372036854775807) (_hc1 : -9223372036854775808 ≤ c) (_hc2 : c ≤ 9223372036854775807) (hS : Signs w) :
    Calls Tryd.prog 7 #[.int .i64 a, .int .i64 b, .int .i64 c] w fun e w' => e = .returned (.bool true) ∧ Below w.heap.size w w' := by
  have HS := Lib.hid hS
  clear hS
  go_enter Tryd.func7, Tryd.ntmps7
  go_wp2_with (first | (go_at_call 17; refine (reckoned_any _ HS.out).mono ?_; rintro e w1 ⟨rfl, rfl⟩) | (go_at_call_of 23 (Value.int IntKind.i64 b); refine (pick_any b 63 _ (by decide) (by decide)).mono ?_; rintro e w1 ⟨x, hx, rfl, rfl⟩) | (go_at_call_of 23 (Value.int IntKind.i64 c); refine (pick_any c 63 _ (by decide) (by decide)).mono ?_; rintro e w1 ⟨y, hy, rfl, rfl⟩))
  go_loop [7, 8] (fun t i => ∃ k : Nat, k ≤ x ∧ i = .int .i64 k ∧ t = .int .i64 (2 ^ k)) (fun _ i => 63 - (intOf i).toNat)
  case atStart => exact ⟨0, by omega, rfl, rfl⟩
  case round =>
    obtain ⟨k, hk, rfl, rfl⟩ := hrel
    by_cases hlt : k < x
    · have H := Lib.hid (two_next k (by omega))
      obtain ⟨P, hP⟩ : ∃ P : Int, P = 2 ^ k := ⟨_, rfl⟩
      rw [← hP]
      rw [← hP] at H
      clear hP
      go_wp2_with (go_at_call 18; refine (kbin_any _ _ _ _).mono ?_; rintro e w1 ⟨rfl, rfl⟩)
      go_round
      case rel => exact ⟨k + 1, by omega, by go_num, by rw [H.out]⟩
      case measure => simp [intOf]; omega
    · obtain rfl : k = x := by omega
      have r1 := bne_of (shl_is_mul a k (by omega))
      have r2 := bne_of (shl_shl a k y (by omega) (by omega))
      have r3 := bne_of (shr_shr a k y (by omega) (by omega) ⟨ha1, ha2⟩)
      have r4 := beq_of (shifts_back a k (by omega) ⟨ha1, ha2⟩)
      rw [Int.natCast_add] at r2 r3
      obtain ⟨P, hP⟩ : ∃ P : Int, P = 2 ^ k := ⟨_, rfl⟩
      rw [← hP]
      rw [← hP] at r1 r4
      clear hP
      go_wp2_with (first | (go_at_call 20; refine (shift_below _ _ _).mono ?_; rintro e w1 ⟨rfl, rfl⟩) | (go_at_call 18; refine (kbin_any _ _ _ _).mono ?_; rintro e w1 ⟨rfl, rfl⟩))
      go_ret
      exact ⟨rfl, Below.refl _ _⟩
end Go.Proofs.YtonpbbflloljgaaDoor
