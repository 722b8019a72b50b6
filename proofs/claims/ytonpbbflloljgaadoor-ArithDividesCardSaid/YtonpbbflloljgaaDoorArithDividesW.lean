/-
  The walk of the law ArithDivides.
-/
import Derived.Test.YtonpbbflloljgaaDoorArithK
import Derived.Test.YtonpbbflloljgaaDoorArithM
namespace Go.Proofs.YtonpbbflloljgaaDoor
open Go.RowKit

theorem binV_4 (a b : Int) (h : b ≠ 0) : binV 4 a b = wrap64 (a.tdiv b) := (bin_made 4 a b (by unfold wayV; simp [h])).trans rfl
theorem binV_5 (a b : Int) (h : b ≠ 0) : binV 5 a b = a.tmod b := (bin_made 5 a b (by unfold wayV; simp [h])).trans rfl
theorem div_way (op b : Int) (ho : op = 4 ∨ op = 5) (h : b ≠ 0) : wayV op b = 0 := by unfold wayV; rw [if_pos ho, if_neg h]
theorem div_0 (a : Int) (op : Int) (ho : op = 4 ∨ op = 5) (w : World) : Calls Tryd.prog 20 #[.int .i64 op, .int .i64 a, .int .i64 0] w fun e w' => e = .returned (.tuple #[.int .i64 0, .int .i64 3]) ∧ w = w' :=
  (bin_any op a 0 w).mono fun _ _ ⟨he, hw⟩ => ⟨by rw [he]; rcases ho with rfl | rfl <;> rfl, hw⟩
theorem div_n (op a b : Int) (ho : op = 4 ∨ op = 5) (h : b ≠ 0) (w : World) : Calls Tryd.prog 20 #[.int .i64 op, .int .i64 a, .int .i64 b] w fun e w' => e = .returned (.tuple #[.int .i64 (binV op a b), .int .i64 0]) ∧ w = w' :=
  (bin_any op a b w).mono fun _ _ ⟨he, hw⟩ => ⟨by rw [he, div_way op b ho h], hw⟩

theorem size_any (n : Int) (w : World) (h1 : -9223372036854775808 ≤ n) (h2 : n ≤ 9223372036854775807) :
    Calls Tryd.prog 21 #[.int .i64 n] w fun e w' => e = .returned (.int .u64 n.natAbs) ∧ w = w' := by
  have ret : ∀ {a b : Int}, a = b → Ending.returned (.int .u64 a) = .returned (.int .u64 b) := fun h => by rw [h]
  by_cases h : n < 0
  · go_enter Tryd.func21, Tryd.ntmps21
    go_wp2_with fail
    go_ret
    refine ⟨ret ?_, rfl⟩
    rw [IntKind.wrap_u64, IntKind.wrap_u64]; omega
  · have h' : 0 ≤ n := by omega
    go_enter Tryd.func21, Tryd.ntmps21
    go_wp2_with fail
    go_ret
    exact ⟨ret (by omega), rfl⟩

theorem div_eq (a b : Int) (h : I64 a) (hb : b ≠ 0) : binV 1 (binV 3 (binV 4 a b) b) (binV 5 a b) = a := by
  rw [binV_4 a b hb, binV_5 a b hb, binV_3, binV_1, wrap64_mul_l, wrap64_add_l, Int.mul_comm, Int.mul_tdiv_add_tmod, wrap64_in a h]
theorem rem_lt (a b : Int) (hb : b ≠ 0) : (a.tmod b).natAbs < b.natAbs := by
  rw [Int.natAbs_tmod]; exact Nat.mod_lt _ (by omega)
theorem rem_sign (a b : Int) (h : a.tmod b ≠ 0) : a.tmod b < 0 ↔ a < 0 := by
  by_cases ha : a < 0
  · have h1 : 0 ≤ (-a).tmod b := Int.tmod_nonneg b (by omega)
    rw [Int.neg_tmod] at h1
    omega
  · have h1 : 0 ≤ a.tmod b := Int.tmod_nonneg b (by omega)
    omega

set_option maxHeartbeats 800000 in
set_option maxRecDepth 100000 in
theorem arithDivides_any (a b : Int) (w : World) (ha1 : -9223372036854775808 ≤ a) (ha2 : a ≤ 9223372036854775807) (hb1 : -9223372036854775808 ≤ b) (hb2 : b ≤ 9223372036854775807) (hS : Signs w) :
    Calls Tryd.prog 5 #[.int .i64 a, .int .i64 b] w fun e w' => e = .returned (.bool true) ∧ Below w.heap.size w w' := by
  have HS := Lib.hid hS
  clear hS
  by_cases hb : b = 0
  · subst hb
    clear hb1 hb2
    go_enter Tryd.func5, Tryd.ntmps5
    go_wp2_with (first | (go_at_call 17; refine (reckoned_any _ HS.out).mono ?_; rintro e w1 ⟨rfl, rfl⟩) | (go_at_call 20; refine (div_0 _ _ (by decide) _).mono ?_; rintro e w1 ⟨rfl, rfl⟩))
    go_ret
    exact ⟨rfl, Below.refl _ _⟩
  · obtain ⟨q, hq⟩ : ∃ q, q = binV 4 a b := ⟨_, rfl⟩
    obtain ⟨r, hr⟩ : ∃ r, r = binV 5 a b := ⟨_, rfl⟩
    have r1 : (binV 1 (binV 3 q b) r == a) = true := by rw [hq, hr]; exact beq_of (div_eq a b ⟨ha1, ha2⟩ hb)
    have ht : r = a.tmod b := by rw [hr, binV_5 a b hb]
    have r2 : r.natAbs < b.natAbs := by rw [ht]; exact rem_lt a b hb
    have r3 : -9223372036854775808 ≤ r ∧ r ≤ 9223372036854775807 := by omega
    have r4 : r ≠ 0 → (r < 0 ↔ a < 0) := fun h => by rw [ht] at h ⊢; exact rem_sign a b h
    have r5 : decide (r.natAbs < b.natAbs) = true := by simpa using r2
    have c1 : ∀ w, Calls Tryd.prog 20 #[.int .i64 4, .int .i64 a, .int .i64 b] w fun e w' => e = .returned (.tuple #[.int .i64 q, .int .i64 0]) ∧ w = w' := fun w => by rw [hq]; exact div_n 4 a b (Or.inl rfl) hb w
    have c2 : ∀ w, Calls Tryd.prog 20 #[.int .i64 5, .int .i64 a, .int .i64 b] w fun e w' => e = .returned (.tuple #[.int .i64 r, .int .i64 0]) ∧ w = w' := fun w => by rw [hr]; exact div_n 5 a b (Or.inr rfl) hb w
    have hb0 : (b == 0) = false := by rw [beq_eq_false_iff_ne]; exact hb
    have C1 := Lib.hid c1
    have C2 := Lib.hid c2
    obtain ⟨r31, r32⟩ := r3
    clear hq hr ht r2 hb c1 c2
    by_cases h0 : r = 0
    · have t1 : (r == 0) = true := beq_of h0
      clear h0 r4
      go_enter Tryd.func5, Tryd.ntmps5
      go_wp2_with (first | (go_at_call 17; refine (reckoned_any _ HS.out).mono ?_; rintro e w1 ⟨rfl, rfl⟩) | (go_at_call_of 20 (Value.int IntKind.i64 4); refine (C1.out _).mono ?_; rintro e w1 ⟨rfl, rfl⟩) | (go_at_call_of 20 (Value.int IntKind.i64 5); refine (C2.out _).mono ?_; rintro e w1 ⟨rfl, rfl⟩) | (go_at_call 21; refine (size_any _ _ (by omega) (by omega)).mono ?_; rintro e w1 ⟨rfl, rfl⟩) | (go_at_call 18; refine (kbin_any _ _ _ _).mono ?_; rintro e w1 ⟨rfl, rfl⟩))
      go_ret
      exact ⟨rfl, Below.refl _ _⟩
    · have t1 : (r == 0) = false := by rw [beq_eq_false_iff_ne]; exact h0
      have t2 : (decide (r < 0) == decide (a < 0)) = true := by simp [r4 h0]
      clear h0 r4
      go_enter Tryd.func5, Tryd.ntmps5
      go_wp2_with (first | (go_at_call 17; refine (reckoned_any _ HS.out).mono ?_; rintro e w1 ⟨rfl, rfl⟩) | (go_at_call_of 20 (Value.int IntKind.i64 4); refine (C1.out _).mono ?_; rintro e w1 ⟨rfl, rfl⟩) | (go_at_call_of 20 (Value.int IntKind.i64 5); refine (C2.out _).mono ?_; rintro e w1 ⟨rfl, rfl⟩) | (go_at_call 21; refine (size_any _ _ (by omega) (by omega)).mono ?_; rintro e w1 ⟨rfl, rfl⟩) | (go_at_call 18; refine (kbin_any _ _ _ _).mono ?_; rintro e w1 ⟨rfl, rfl⟩))
      go_ret
      exact ⟨rfl, Below.refl _ _⟩
end Go.Proofs.YtonpbbflloljgaaDoor
