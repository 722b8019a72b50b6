/-
  The walks of package arith: number, fault, made, Bin, Un.
-/
import Derived.Test.YtonpbbflloljgaaDoorRows
import Derived.Test.YtonpbbflloljgaaDoorArithV
import Derived.WalkKit
import Derived.WalkSpells
import Derived.WalkLawsBesides
import Derived.Lib.Hide
import Derived.Deep.QuietTactic
import Derived.BigQuiet
namespace Go.Proofs.YtonpbbflloljgaaDoor
open Go.RowKit

theorem number_any (c : Bool) (w : World) :
    Calls Tryd.prog 25 #[.bool c] w fun e w' => e = .returned (.int .i64 (oneV c)) ∧ w = w' := by
  cases c
  · go_enter Tryd.func25, Tryd.ntmps25
    go_wp2_with fail
    go_ret
    exact ⟨rfl, rfl⟩
  · go_enter Tryd.func25, Tryd.ntmps25
    go_wp2_with fail
    go_ret
    exact ⟨rfl, rfl⟩

theorem shl_big (yk : IntKind) (x y : Int) (h : 64 ≤ y) : Op.shift .shl .i64 x yk y = pure (.int .i64 (wrap64 (x * 2 ^ 64))) := by
  have hm : min y.toNat IntKind.i64.bits = 64 := by simp [IntKind.bits]; omega
  unfold Op.shift wrap64
  rw [if_neg (by omega), hm]
  simp only [IntKind.wrap_i64]
theorem shr_big (yk : IntKind) (x y : Int) (h : 64 ≤ y) : Op.shift .shr .i64 x yk y = pure (.int .i64 (x / 2 ^ 64)) := by
  have hm : min y.toNat IntKind.i64.bits = 64 := by simp [IntKind.bits]; omega
  unfold Op.shift
  rw [if_neg (by omega), hm]
  simp only [Int.fdiv_eq_ediv_of_nonneg x (Int.pow_nonneg (by decide : (0:Int) ≤ 2) : (0:Int) ≤ 2 ^ 64)]

theorem ret_i64 {a b : Int} (h : a = b) : Ending.returned (.int .i64 a) = .returned (.int .i64 b) := by rw [h]

set_option maxRecDepth 100000 in
theorem fault_any (op b : Int) (w : World) :
    Calls Tryd.prog 26 #[.int .i64 op, .int .i64 b] w fun e w' => e = .returned (.int .i64 (wayV op b)) ∧ w = w' := by
  go_enter Tryd.func26, Tryd.ntmps26
  go_wp2_with fail
  all_goals
    go_ret
    refine ⟨ret_i64 ?_, rfl⟩
    simp only [beq_iff_eq, beq_eq_false_iff_ne, ne_eq] at *
    unfold wayV
    (repeat' split) <;> omega

theorem madeV_none (op a b : Int) (h : op < 1 ∨ 16 < op) : madeV op a b = 0 := by
  unfold madeV
  repeat rw [if_neg (by omega)]

set_option maxRecDepth 100000 in
theorem made_none (op a b : Int) (w : World) (h : op < 1 ∨ 16 < op) :
    Calls Tryd.prog 27 #[.int .i64 op, .int .i64 a, .int .i64 b] w fun e w' => e = .returned (.int .i64 (madeV op a b)) ∧ w = w' := by
  have hn : ∀ k : Int, 1 ≤ k → k ≤ 16 → (op == k) = false := fun k h1 h2 => by
    rw [beq_eq_false_iff_ne]; omega
  rw [madeV_none op a b h]
  have t1 := hn 1 (by decide) (by decide)
  have t2 := hn 2 (by decide) (by decide)
  have t3 := hn 3 (by decide) (by decide)
  have t4 := hn 4 (by decide) (by decide)
  have t5 := hn 5 (by decide) (by decide)
  have t6 := hn 6 (by decide) (by decide)
  have t7 := hn 7 (by decide) (by decide)
  have t8 := hn 8 (by decide) (by decide)
  have t9 := hn 9 (by decide) (by decide)
  have t10 := hn 10 (by decide) (by decide)
  have t11 := hn 11 (by decide) (by decide)
  have t12 := hn 12 (by decide) (by decide)
  have t13 := hn 13 (by decide) (by decide)
  have t14 := hn 14 (by decide) (by decide)
  have t15 := hn 15 (by decide) (by decide)
  have t16 := hn 16 (by decide) (by decide)
  clear hn
  go_enter Tryd.func27, Tryd.ntmps27
  go_wp2_with fail
  go_ret
  exact ⟨rfl, rfl⟩

set_option maxRecDepth 100000 in
theorem made_1 (a b : Int) (w : World) :
    Calls Tryd.prog 27 #[.int .i64 1, .int .i64 a, .int .i64 b] w fun e w' => e = .returned (.int .i64 (madeV 1 a b)) ∧ w = w' := by
  go_enter Tryd.func27, Tryd.ntmps27
  go_wp2_with fail
  go_ret
  exact ⟨rfl, rfl⟩

set_option maxRecDepth 100000 in
theorem made_2 (a b : Int) (w : World) :
    Calls Tryd.prog 27 #[.int .i64 2, .int .i64 a, .int .i64 b] w fun e w' => e = .returned (.int .i64 (madeV 2 a b)) ∧ w = w' := by
  go_enter Tryd.func27, Tryd.ntmps27
  go_wp2_with fail
  go_ret
  exact ⟨rfl, rfl⟩

set_option maxRecDepth 100000 in
theorem made_3 (a b : Int) (w : World) :
    Calls Tryd.prog 27 #[.int .i64 3, .int .i64 a, .int .i64 b] w fun e w' => e = .returned (.int .i64 (madeV 3 a b)) ∧ w = w' := by
  go_enter Tryd.func27, Tryd.ntmps27
  go_wp2_with fail
  go_ret
  exact ⟨rfl, rfl⟩

set_option maxRecDepth 100000 in
theorem made_4 (a b : Int) (w : World) (hb : b ≠ 0) :
    Calls Tryd.prog 27 #[.int .i64 4, .int .i64 a, .int .i64 b] w fun e w' => e = .returned (.int .i64 (madeV 4 a b)) ∧ w = w' := by
  go_enter Tryd.func27, Tryd.ntmps27
  go_wp2_with fail
  go_ret
  exact ⟨rfl, rfl⟩

set_option maxRecDepth 100000 in
theorem made_5 (a b : Int) (w : World) (hb : b ≠ 0) :
    Calls Tryd.prog 27 #[.int .i64 5, .int .i64 a, .int .i64 b] w fun e w' => e = .returned (.int .i64 (madeV 5 a b)) ∧ w = w' := by
  go_enter Tryd.func27, Tryd.ntmps27
  go_wp2_with fail
  go_ret
  exact ⟨rfl, rfl⟩

set_option maxRecDepth 100000 in
theorem made_6 (a b : Int) (w : World) :
    Calls Tryd.prog 27 #[.int .i64 6, .int .i64 a, .int .i64 b] w fun e w' => e = .returned (.int .i64 (madeV 6 a b)) ∧ w = w' := by
  go_enter Tryd.func27, Tryd.ntmps27
  go_wp2_with fail
  go_ret
  exact ⟨rfl, rfl⟩

set_option maxRecDepth 100000 in
theorem made_7 (a b : Int) (w : World) :
    Calls Tryd.prog 27 #[.int .i64 7, .int .i64 a, .int .i64 b] w fun e w' => e = .returned (.int .i64 (madeV 7 a b)) ∧ w = w' := by
  go_enter Tryd.func27, Tryd.ntmps27
  go_wp2_with fail
  go_ret
  exact ⟨rfl, rfl⟩

set_option maxRecDepth 100000 in
theorem made_8 (a b : Int) (w : World) :
    Calls Tryd.prog 27 #[.int .i64 8, .int .i64 a, .int .i64 b] w fun e w' => e = .returned (.int .i64 (madeV 8 a b)) ∧ w = w' := by
  go_enter Tryd.func27, Tryd.ntmps27
  go_wp2_with fail
  go_ret
  exact ⟨rfl, rfl⟩

set_option maxRecDepth 100000 in
theorem made_11 (a b : Int) (w : World) :
    Calls Tryd.prog 27 #[.int .i64 11, .int .i64 a, .int .i64 b] w fun e w' => e = .returned (.int .i64 (madeV 11 a b)) ∧ w = w' := by
  go_enter Tryd.func27, Tryd.ntmps27
  go_wp2_with (go_at_call 25; refine (number_any _ _).mono ?_; rintro e w1 ⟨rfl, rfl⟩)
  go_ret
  exact ⟨rfl, rfl⟩

set_option maxRecDepth 100000 in
theorem made_12 (a b : Int) (w : World) :
    Calls Tryd.prog 27 #[.int .i64 12, .int .i64 a, .int .i64 b] w fun e w' => e = .returned (.int .i64 (madeV 12 a b)) ∧ w = w' := by
  go_enter Tryd.func27, Tryd.ntmps27
  go_wp2_with (go_at_call 25; refine (number_any _ _).mono ?_; rintro e w1 ⟨rfl, rfl⟩)
  go_ret
  exact ⟨rfl, rfl⟩

set_option maxRecDepth 100000 in
theorem made_13 (a b : Int) (w : World) :
    Calls Tryd.prog 27 #[.int .i64 13, .int .i64 a, .int .i64 b] w fun e w' => e = .returned (.int .i64 (madeV 13 a b)) ∧ w = w' := by
  go_enter Tryd.func27, Tryd.ntmps27
  go_wp2_with (go_at_call 25; refine (number_any _ _).mono ?_; rintro e w1 ⟨rfl, rfl⟩)
  go_ret
  exact ⟨rfl, rfl⟩

set_option maxRecDepth 100000 in
theorem made_14 (a b : Int) (w : World) :
    Calls Tryd.prog 27 #[.int .i64 14, .int .i64 a, .int .i64 b] w fun e w' => e = .returned (.int .i64 (madeV 14 a b)) ∧ w = w' := by
  go_enter Tryd.func27, Tryd.ntmps27
  go_wp2_with (go_at_call 25; refine (number_any _ _).mono ?_; rintro e w1 ⟨rfl, rfl⟩)
  go_ret
  exact ⟨rfl, rfl⟩

set_option maxRecDepth 100000 in
theorem made_15 (a b : Int) (w : World) :
    Calls Tryd.prog 27 #[.int .i64 15, .int .i64 a, .int .i64 b] w fun e w' => e = .returned (.int .i64 (madeV 15 a b)) ∧ w = w' := by
  go_enter Tryd.func27, Tryd.ntmps27
  go_wp2_with (go_at_call 25; refine (number_any _ _).mono ?_; rintro e w1 ⟨rfl, rfl⟩)
  go_ret
  exact ⟨rfl, rfl⟩

set_option maxRecDepth 100000 in
theorem made_16 (a b : Int) (w : World) :
    Calls Tryd.prog 27 #[.int .i64 16, .int .i64 a, .int .i64 b] w fun e w' => e = .returned (.int .i64 (madeV 16 a b)) ∧ w = w' := by
  go_enter Tryd.func27, Tryd.ntmps27
  go_wp2_with (go_at_call 25; refine (number_any _ _).mono ?_; rintro e w1 ⟨rfl, rfl⟩)
  go_ret
  exact ⟨rfl, rfl⟩


attribute [local go_sem] shl_big shr_big in
set_option maxRecDepth 100000 in
theorem made_9 (a b : Int) (w : World) (h0 : 0 ≤ b) :
    Calls Tryd.prog 27 #[.int .i64 9, .int .i64 a, .int .i64 b] w fun e w' => e = .returned (.int .i64 (madeV 9 a b)) ∧ w = w' := by
  by_cases h1 : b ≤ 64
  · have hm : madeV 9 a b = wrap64 (a * 2 ^ b.toNat) := by rw [show b.toNat = min b.toNat 64 by omega]; rfl
    rw [hm]
    clear hm
    go_enter Tryd.func27, Tryd.ntmps27
    go_wp2_with fail
    go_ret
    exact ⟨rfl, rfl⟩
  · have hm : madeV 9 a b = wrap64 (a * 2 ^ 64) := by unfold madeV; rw [show min b.toNat 64 = 64 by omega]; rfl
    rw [hm]
    clear hm
    have h2 : 64 ≤ b := by omega
    clear h1
    go_enter Tryd.func27, Tryd.ntmps27
    go_wp2_with fail
    go_ret
    exact ⟨rfl, rfl⟩

attribute [local go_sem] shl_big shr_big in
set_option maxRecDepth 100000 in
theorem made_10 (a b : Int) (w : World) (h0 : 0 ≤ b) :
    Calls Tryd.prog 27 #[.int .i64 10, .int .i64 a, .int .i64 b] w fun e w' => e = .returned (.int .i64 (madeV 10 a b)) ∧ w = w' := by
  by_cases h1 : b ≤ 64
  · have hm : madeV 10 a b = a / 2 ^ b.toNat := by rw [show b.toNat = min b.toNat 64 by omega]; rfl
    rw [hm]
    clear hm
    go_enter Tryd.func27, Tryd.ntmps27
    go_wp2_with fail
    go_ret
    exact ⟨rfl, rfl⟩
  · have hm : madeV 10 a b = a / 2 ^ 64 := by unfold madeV; rw [show min b.toNat 64 = 64 by omega]; rfl
    rw [hm]
    clear hm
    have h2 : 64 ≤ b := by omega
    clear h1
    go_enter Tryd.func27, Tryd.ntmps27
    go_wp2_with fail
    go_ret
    exact ⟨rfl, rfl⟩

theorem made_any (op a b : Int) (w : World) (h : wayV op b = 0) :
    Calls Tryd.prog 27 #[.int .i64 op, .int .i64 a, .int .i64 b] w fun e w' => e = .returned (.int .i64 (madeV op a b)) ∧ w = w' := by
  by_cases ho : op < 1 ∨ 16 < op
  · exact made_none op a b w ho
  have hz : op = 4 ∨ op = 5 → b ≠ 0 := fun e hb => by
    unfold wayV at h; rw [if_pos e, if_pos hb] at h; cases h
  have hs : op = 9 ∨ op = 10 → 0 ≤ b := fun e => by
    unfold wayV at h; rw [if_neg (by omega), if_pos e] at h
    by_cases hb : b < 0
    · rw [if_pos hb] at h; cases h
    · omega
  obtain ⟨n, rfl⟩ := Int.eq_ofNat_of_zero_le (show 0 ≤ op by omega)
  have h1 : 1 ≤ n := by omega
  have h2 : n ≤ 16 := by omega
  clear ho h
  match n, h1, h2 with
  | 1, _, _ => exact made_1 a b w
  | 2, _, _ => exact made_2 a b w
  | 3, _, _ => exact made_3 a b w
  | 4, _, _ => exact made_4 a b w (hz (by decide))
  | 5, _, _ => exact made_5 a b w (hz (by decide))
  | 6, _, _ => exact made_6 a b w
  | 7, _, _ => exact made_7 a b w
  | 8, _, _ => exact made_8 a b w
  | 9, _, _ => exact made_9 a b w (hs (by decide))
  | 10, _, _ => exact made_10 a b w (hs (by decide))
  | 11, _, _ => exact made_11 a b w
  | 12, _, _ => exact made_12 a b w
  | 13, _, _ => exact made_13 a b w
  | 14, _, _ => exact made_14 a b w
  | 15, _, _ => exact made_15 a b w
  | 16, _, _ => exact made_16 a b w
  | n + 17, _, h => exact absurd h (by omega)

theorem bin_way (op a b : Int) (h : wayV op b ≠ 0) : binV op a b = 0 := by unfold binV; rw [if_neg h]
theorem bin_made (op a b : Int) (h : wayV op b = 0) : binV op a b = madeV op a b := by unfold binV; rw [if_pos h]
theorem bin_any (op a b : Int) (w : World) :
    Calls Tryd.prog 20 #[.int .i64 op, .int .i64 a, .int .i64 b] w fun e w' => e = .returned (.tuple #[.int .i64 (binV op a b), .int .i64 (wayV op b)]) ∧ w = w' := by
  by_cases h : wayV op b = 0
  · rw [bin_made op a b h]
    have t : (wayV op b != 0) = false := by rw [h]; rfl
    have H := Lib.hid h
    clear h
    go_enter Tryd.func20, Tryd.ntmps20
    go_wp2_with (first | (go_at_call 26; refine (fault_any _ _ _).mono ?_; rintro e w1 ⟨rfl, rfl⟩) | (go_at_call 27; refine (made_any _ _ _ _ H.out).mono ?_; rintro e w1 ⟨rfl, rfl⟩))
    go_ret2
    exact ⟨by rw [H.out]; rfl, rfl⟩
  · rw [bin_way op a b h]
    have t : (wayV op b != 0) = true := by simpa using h
    clear h
    go_enter Tryd.func20, Tryd.ntmps20
    go_wp2_with (go_at_call 26; refine (fault_any _ _ _).mono ?_; rintro e w1 ⟨rfl, rfl⟩)
    go_ret2
    exact ⟨rfl, rfl⟩
set_option maxRecDepth 100000 in
theorem un_any (op a : Int) (w : World) :
    Calls Tryd.prog 19 #[.int .i64 op, .int .i64 a] w fun e w' => e = .returned (.int .i64 (unV op a)) ∧ w = w' := by
  go_enter Tryd.func19, Tryd.ntmps19
  go_wp2_with (go_at_call 25; refine (number_any _ _).mono ?_; rintro e w1 ⟨rfl, rfl⟩)
  all_goals
    go_ret
    refine ⟨ret_i64 ?_, rfl⟩
    simp only [beq_iff_eq, beq_eq_false_iff_ne, ne_eq] at *
    unfold unV
    (repeat' split) <;> first | rfl | omega
end Go.Proofs.YtonpbbflloljgaaDoor
