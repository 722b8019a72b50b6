/-
  The walk of the law ArithOrder.
-/
import Derived.Test.YtonpbbflloljgaaDoorArithK
import Derived.Test.YtonpbbflloljgaaDoorArithM
namespace Go.Proofs.YtonpbbflloljgaaDoor
open Go.RowKit

set_option maxHeartbeats 800000 in
set_option maxRecDepth 100000 in
theorem order_lt (a b c : Int) (w : World) (p : Bool) (e1 : binV 11 a b = 1) (e2 : binV 15 a b = 0) (e3 : binV 13 a b = 0) (e4 : binV 12 a b = 1) (e5 : binV 14 a b = 0) (e6 : binV 16 a b = 1) (e7 : binV 11 b a = 0)
    (e8 : (binV 2 a b == 0) = false) (e9 : unV 19 1 = 0) (e10 : (binV 11 b c == 1) = p) (e11 : p = true → (binV 11 a c != 1) = false) (hS : Signs w) :
    Calls Tryd.prog 8 #[.int .i64 a, .int .i64 b, .int .i64 c] w fun e w' => e = .returned (.bool true) ∧ Below w.heap.size w w' := by
  have HS := Lib.hid hS
  clear hS
  cases p
  · clear e11
    go_enter Tryd.func8, Tryd.ntmps8
    go_wp2_with (first | (go_at_call 17; refine (reckoned_any _ HS.out).mono ?_; rintro e w1 ⟨rfl, rfl⟩) | (go_at_call 18; refine (kbin_any _ _ _ _).mono ?_; rintro e w1 ⟨rfl, rfl⟩) | (go_at_call 19; refine (un_any _ _ _).mono ?_; rintro e w1 ⟨rfl, rfl⟩))
    go_ret
    exact ⟨rfl, Below.refl _ _⟩
  · have e12 := e11 rfl
    clear e11
    go_enter Tryd.func8, Tryd.ntmps8
    go_wp2_with (first | (go_at_call 17; refine (reckoned_any _ HS.out).mono ?_; rintro e w1 ⟨rfl, rfl⟩) | (go_at_call 18; refine (kbin_any _ _ _ _).mono ?_; rintro e w1 ⟨rfl, rfl⟩) | (go_at_call 19; refine (un_any _ _ _).mono ?_; rintro e w1 ⟨rfl, rfl⟩))
    go_ret
    exact ⟨rfl, Below.refl _ _⟩

set_option maxHeartbeats 800000 in
set_option maxRecDepth 100000 in
theorem order_eq (a b c : Int) (w : World) (p : Bool) (e1 : binV 11 a b = 0) (e2 : binV 15 a b = 1) (e3 : binV 13 a b = 0) (e4 : binV 12 a b = 1) (e5 : binV 14 a b = 1) (e6 : binV 16 a b = 0) (e7 : binV 11 b a = 0)
    (e8 : (binV 2 a b == 0) = true) (e9 : unV 19 0 = 1) (e10 : (binV 11 b c == 1) = p) (hS : Signs w) :
    Calls Tryd.prog 8 #[.int .i64 a, .int .i64 b, .int .i64 c] w fun e w' => e = .returned (.bool true) ∧ Below w.heap.size w w' := by
  have HS := Lib.hid hS
  clear hS
  cases p
  · go_enter Tryd.func8, Tryd.ntmps8
    go_wp2_with (first | (go_at_call 17; refine (reckoned_any _ HS.out).mono ?_; rintro e w1 ⟨rfl, rfl⟩) | (go_at_call 18; refine (kbin_any _ _ _ _).mono ?_; rintro e w1 ⟨rfl, rfl⟩) | (go_at_call 19; refine (un_any _ _ _).mono ?_; rintro e w1 ⟨rfl, rfl⟩))
    go_ret
    exact ⟨rfl, Below.refl _ _⟩
  · go_enter Tryd.func8, Tryd.ntmps8
    go_wp2_with (first | (go_at_call 17; refine (reckoned_any _ HS.out).mono ?_; rintro e w1 ⟨rfl, rfl⟩) | (go_at_call 18; refine (kbin_any _ _ _ _).mono ?_; rintro e w1 ⟨rfl, rfl⟩) | (go_at_call 19; refine (un_any _ _ _).mono ?_; rintro e w1 ⟨rfl, rfl⟩))
    go_ret
    exact ⟨rfl, Below.refl _ _⟩

set_option maxHeartbeats 800000 in
set_option maxRecDepth 100000 in
theorem order_gt (a b c : Int) (w : World) (p : Bool) (e1 : binV 11 a b = 0) (e2 : binV 15 a b = 0) (e3 : binV 13 a b = 1) (e4 : binV 12 a b = 0) (e5 : binV 14 a b = 1) (e6 : binV 16 a b = 1) (e7 : binV 11 b a = 1)
    (e8 : (binV 2 a b == 0) = false) (e9 : unV 19 0 = 1) (e10 : (binV 11 b c == 1) = p) (hS : Signs w) :
    Calls Tryd.prog 8 #[.int .i64 a, .int .i64 b, .int .i64 c] w fun e w' => e = .returned (.bool true) ∧ Below w.heap.size w w' := by
  have HS := Lib.hid hS
  clear hS
  cases p
  · go_enter Tryd.func8, Tryd.ntmps8
    go_wp2_with (first | (go_at_call 17; refine (reckoned_any _ HS.out).mono ?_; rintro e w1 ⟨rfl, rfl⟩) | (go_at_call 18; refine (kbin_any _ _ _ _).mono ?_; rintro e w1 ⟨rfl, rfl⟩) | (go_at_call 19; refine (un_any _ _ _).mono ?_; rintro e w1 ⟨rfl, rfl⟩))
    go_ret
    exact ⟨rfl, Below.refl _ _⟩
  · go_enter Tryd.func8, Tryd.ntmps8
    go_wp2_with (first | (go_at_call 17; refine (reckoned_any _ HS.out).mono ?_; rintro e w1 ⟨rfl, rfl⟩) | (go_at_call 18; refine (kbin_any _ _ _ _).mono ?_; rintro e w1 ⟨rfl, rfl⟩) | (go_at_call 19; refine (un_any _ _ _).mono ?_; rintro e w1 ⟨rfl, rfl⟩))
    go_ret
    exact ⟨rfl, Below.refl _ _⟩

theorem oneV_t {p : Prop} [Decidable p] (h : p) : oneV (decide p) = 1 := by rw [decide_eq_true h]; rfl
theorem oneV_f {p : Prop} [Decidable p] (h : ¬ p) : oneV (decide p) = 0 := by rw [decide_eq_false h]; rfl
theorem oneV_eq1 {c : Bool} : (oneV c == 1) = c := by cases c <;> rfl
theorem oneV_ne1 {c : Bool} : (oneV c != 1) = !c := by cases c <;> rfl
theorem sub_zero (a b : Int) (ha : I64 a) (hb : I64 b) : (binV 2 a b == 0) = decide (a = b) := by
  rw [binV_2, Bool.eq_iff_iff]
  simp only [beq_iff_eq, decide_eq_true_eq]
  unfold wrap64; unfold I64 at ha hb; omega
theorem arithOrder_any (a b c : Int) (w : World) (ha1 : -9223372036854775808 ≤ a) (ha2 : a ≤ 9223372036854775807) (hb1 : -9223372036854775808 ≤ b) (hb2 : b ≤ 9223372036854775807) (_hc1 : -9223372036854775808 ≤ c) (_hc2 : c ≤ 9223372036854775807) (hS : Signs w) :
    Calls Tryd.prog 8 #[.int .i64 a, .int .i64 b, .int .i64 c] w fun e w' => e = .returned (.bool true) ∧ Below w.heap.size w w' := by
  have hz := sub_zero a b ⟨ha1, ha2⟩ ⟨hb1, hb2⟩
  rcases Int.lt_trichotomy a b with h | h | h
  · refine order_lt a b c w (decide (b < c)) ?_ ?_ ?_ ?_ ?_ ?_ ?_ ?_ rfl ?_ ?_ hS
    · rw [binV_11]; exact oneV_t h
    · rw [binV_15]; show oneV (decide (a = b)) = 0; exact oneV_f (by omega)
    · rw [binV_13]; exact oneV_f (by omega)
    · rw [binV_12]; exact oneV_t (by omega)
    · rw [binV_14]; exact oneV_f (by omega)
    · rw [binV_16]; show oneV (!decide (a = b)) = 1; rw [decide_eq_false (by omega)]; rfl
    · rw [binV_11]; exact oneV_f (by omega)
    · rw [hz]; exact decide_eq_false (by omega)
    · rw [binV_11]; exact oneV_eq1
    · intro hp
      have := of_decide_eq_true hp
      rw [binV_11, oneV_ne1, decide_eq_true (show a < c by omega)]; rfl
  · refine order_eq a b c w (decide (b < c)) ?_ ?_ ?_ ?_ ?_ ?_ ?_ ?_ rfl ?_ hS
    · rw [binV_11]; exact oneV_f (by omega)
    · rw [binV_15]; show oneV (decide (a = b)) = 1; exact oneV_t h
    · rw [binV_13]; exact oneV_f (by omega)
    · rw [binV_12]; exact oneV_t (by omega)
    · rw [binV_14]; exact oneV_t (by omega)
    · rw [binV_16]; show oneV (!decide (a = b)) = 0; rw [decide_eq_true h]; rfl
    · rw [binV_11]; exact oneV_f (by omega)
    · rw [hz]; exact decide_eq_true h
    · rw [binV_11]; exact oneV_eq1
  · refine order_gt a b c w (decide (b < c)) ?_ ?_ ?_ ?_ ?_ ?_ ?_ ?_ rfl ?_ hS
    · rw [binV_11]; exact oneV_f (by omega)
    · rw [binV_15]; show oneV (decide (a = b)) = 0; exact oneV_f (by omega)
    · rw [binV_13]; exact oneV_t h
    · rw [binV_12]; exact oneV_f (by omega)
    · rw [binV_14]; exact oneV_t (by omega)
    · rw [binV_16]; show oneV (!decide (a = b)) = 1; rw [decide_eq_false (by omega)]; rfl
    · rw [binV_11]; exact oneV_t h
    · rw [hz]; exact decide_eq_false (by omega)
    · rw [binV_11]; exact oneV_eq1
end Go.Proofs.YtonpbbflloljgaaDoor
