/-
  The walk of the law ArithSigned.
-/
import Derived.Test.YtonpbbflloljgaaDoorArithK
namespace Go.Proofs.YtonpbbflloljgaaDoor
open Go.RowKit

theorem two_signs : ∀ n : Nat, n < 16 → writV (signL (n + 1)) 16 1 = n + 1 := by decide
theorem one_signs : ∀ n : Nat, n < 3 → writV (signL (n + 17)) 3 17 = n + 17 := by decide
theorem signV_nat (n : Nat) (h1 : 1 ≤ n) (h2 : n ≤ 19) : signV (n : Int) = signL n := by
  unfold signV; rw [if_pos ⟨by omega, by omega⟩]; rfl
theorem signL_ne : ∀ n : Nat, n < 19 → signL (n + 1) ≠ [] := by decide
theorem signV_empty (op : Int) : signV op = [] ↔ (op < 1 ∨ 19 < op) := by
  by_cases h : 1 ≤ op ∧ op ≤ 19
  · obtain ⟨n, rfl⟩ := Int.eq_ofNat_of_zero_le (show 0 ≤ op by omega)
    rw [signV_nat n (by omega) (by omega)]
    have := signL_ne (n - 1) (by omega)
    rw [show n - 1 + 1 = n by omega] at this
    simp only [this, false_iff]; omega
  · unfold signV; rw [if_neg h]; simp only [true_iff]; omega
theorem mk_list (l : List UInt8) : (⟨l.toArray⟩ : ByteArray).toList = l := by rw [ByteArray.toList_eq]
theorem kinds_two (n : Nat) (h : n < 16) : (makesV (1 + (n : Int)) != 0) = true := by
  rw [bne_iff_ne]
  unfold makesV; (repeat' split) <;> omega

theorem pick_16 (a : Int) (w : World) : Calls Tryd.prog 23 #[.int .i64 a, .int .i64 16] w fun e w' => ∃ r : Nat, r < 16 ∧ e = .returned (.int .i64 r) ∧ w = w' := pick_any a 16 w (by decide) (by decide)
theorem pick_3 (a : Int) (w : World) : Calls Tryd.prog 23 #[.int .i64 a, .int .i64 3] w fun e w' => ∃ r : Nat, r < 3 ∧ e = .returned (.int .i64 r) ∧ w = w' := pick_any a 3 w (by decide) (by decide)

theorem two_back (n : Nat) (h : n < 16) (w : World) (hS : Signs w) :
    Calls Tryd.prog 14 #[.string ⟨(signV (1 + (n : Int))).toArray⟩] w fun e w' => e = .returned (.int .i64 (1 + (n : Int))) ∧ w = w' :=
  (two_any _ w hS).mono fun _ _ ⟨he, hw⟩ => ⟨by rw [he, mk_list, show 1 + (n : Int) = ((n + 1 : Nat) : Int) by omega, signV_nat (n + 1) (by omega) (by omega), two_signs n h], hw⟩
theorem one_back (n : Nat) (h : n < 3) (w : World) (hS : Signs w) :
    Calls Tryd.prog 16 #[.string ⟨(signV (17 + (n : Int))).toArray⟩] w fun e w' => e = .returned (.int .i64 (17 + (n : Int))) ∧ w = w' :=
  (one_any _ w hS).mono fun _ _ ⟨he, hw⟩ => ⟨by rw [he, mk_list, show 17 + (n : Int) = ((n + 17 : Nat) : Int) by omega, signV_nat (n + 17) (by omega) (by omega), one_signs n h], hw⟩

theorem ret_bool {b : Bool} (h : b = true) : Ending.returned (.bool b) = .returned (.bool true) := by rw [h]
theorem isEmpty_of {l : List UInt8} {p : Prop} [Decidable p] (h : l = [] ↔ p) : l.isEmpty = decide p := by
  rw [Bool.eq_iff_iff, List.isEmpty_iff, decide_eq_true_iff]; exact h
/-- An op's sign, of which alone is known whether it is empty. -/
theorem sign_s (op : Int) (w : World) (s : ByteArray) (h : s = ⟨(signV op).toArray⟩) (hS : Signs w) :
    Calls Tryd.prog 12 #[.int .i64 op] w fun e w' => e = .returned (.string s) ∧ w = w' :=
  (sign_any op w hS).mono fun _ _ ⟨he, hw⟩ => ⟨by rw [he, h], hw⟩

set_option maxHeartbeats 800000 in
set_option maxRecDepth 100000 in
theorem arithSigned_any (op : Int) (w : World) (_h1 : -9223372036854775808 ≤ op) (_h2 : op ≤ 9223372036854775807) (hS : Signs w) :
    Calls Tryd.prog 9 #[.int .i64 op] w fun e w' => e = .returned (.bool true) ∧ Below w.heap.size w w' := by
  have HS := Lib.hid hS
  clear hS
  obtain ⟨s, hs⟩ : ∃ s : ByteArray, s = ⟨(signV op).toArray⟩ := ⟨_, rfl⟩
  have he : s.toList = [] ↔ (op < 1 ∨ 19 < op) := by rw [hs, mk_list]; exact signV_empty op
  have Hs := Lib.hid hs
  have He := Lib.hid he
  clear hs he
  go_enter Tryd.func9, Tryd.ntmps9
  go_wp2_with (go_at_call 17; refine (reckoned_any _ HS.out).mono ?_; rintro e w1 ⟨rfl, rfl⟩)
  refine (pick_16 op _).mono ?_
  rintro e w1 ⟨x, hx, rfl, rfl⟩
  go_wp2_with fail
  refine (pick_3 op _).mono ?_
  rintro e w1 ⟨y, hy, rfl, rfl⟩
  have hk := kinds_two x hx
  go_wp2_with fail
  refine (kinds_any _ _).mono ?_
  rintro e w1 ⟨rfl, rfl⟩
  go_wp2_with fail
  refine (sign_any _ _ HS.out).mono ?_
  rintro e w1 ⟨rfl, rfl⟩
  go_wp2_with fail
  refine (two_back x hx _ HS.out).mono ?_
  rintro e w1 ⟨rfl, rfl⟩
  go_wp2_with fail
  refine (sign_any _ _ HS.out).mono ?_
  rintro e w1 ⟨rfl, rfl⟩
  go_wp2_with fail
  refine (one_back y hy _ HS.out).mono ?_
  rintro e w1 ⟨rfl, rfl⟩
  go_wp2_with fail
  refine (sign_s op _ s Hs.out HS.out).mono ?_
  rintro e w1 ⟨rfl, rfl⟩
  go_wp2_with fail
  · go_ret
    exact ⟨ret_bool (by rw [isEmpty_of He.out, Bool.decide_or]; exact beq_self_eq_true _), Below.refl _ _⟩
  · have hlt : op < 1 := by assumption
    go_ret
    exact ⟨ret_bool (by rw [isEmpty_of He.out]; exact decide_eq_true (Or.inl hlt)), Below.refl _ _⟩
end Go.Proofs.YtonpbbflloljgaaDoor
