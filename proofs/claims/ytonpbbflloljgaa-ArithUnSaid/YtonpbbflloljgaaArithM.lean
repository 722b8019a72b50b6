/-
  The mathematics of chapter 6: what wraps, as a ring.
-/
import Derived.Test.YtonpbbflloljgaaArithW
namespace Go.Proofs.Ytonpbbflloljgaa
open Go.RowKit

theorem binV_1 (a b : Int) : binV 1 a b = wrap64 (a + b) := (bin_made 1 a b rfl).trans rfl
theorem binV_2 (a b : Int) : binV 2 a b = wrap64 (a - b) := (bin_made 2 a b rfl).trans rfl
theorem binV_3 (a b : Int) : binV 3 a b = wrap64 (a * b) := (bin_made 3 a b rfl).trans rfl
theorem binV_6 (a b : Int) : binV 6 a b = bits .and .i64 a b := (bin_made 6 a b rfl).trans rfl
theorem binV_7 (a b : Int) : binV 7 a b = bits .or .i64 a b := (bin_made 7 a b rfl).trans rfl
theorem binV_8 (a b : Int) : binV 8 a b = bits .xor .i64 a b := (bin_made 8 a b rfl).trans rfl
theorem binV_11 (a b : Int) : binV 11 a b = oneV (decide (a < b)) := (bin_made 11 a b rfl).trans rfl
theorem binV_12 (a b : Int) : binV 12 a b = oneV (decide (a ≤ b)) := (bin_made 12 a b rfl).trans rfl
theorem binV_13 (a b : Int) : binV 13 a b = oneV (decide (b < a)) := (bin_made 13 a b rfl).trans rfl
theorem binV_14 (a b : Int) : binV 14 a b = oneV (decide (b ≤ a)) := (bin_made 14 a b rfl).trans rfl
theorem binV_15 (a b : Int) : binV 15 a b = oneV (a == b) := (bin_made 15 a b rfl).trans rfl
theorem binV_16 (a b : Int) : binV 16 a b = oneV (a != b) := (bin_made 16 a b rfl).trans rfl
theorem unV_17 (a : Int) : unV 17 a = wrap64 (-a) := rfl
theorem unV_18 (a : Int) : unV 18 a = bits .xor .i64 (-1) a := rfl
theorem unV_19 (a : Int) : unV 19 a = oneV (a == 0) := rfl

/-- A number of 64 bits. -/
def I64 (n : Int) : Prop := -9223372036854775808 ≤ n ∧ n ≤ 9223372036854775807
theorem wrap64_in (n : Int) (h : I64 n) : wrap64 n = n := by unfold wrap64; unfold I64 at h; omega
theorem wrap64_i64 (n : Int) : I64 (wrap64 n) := by unfold wrap64 I64; omega
theorem wrap64_more (n k : Int) : wrap64 (n + 18446744073709551616 * k) = wrap64 n := by unfold wrap64; omega
theorem wrap64_ex (n : Int) : ∃ k, wrap64 n = n + 18446744073709551616 * k :=
  ⟨-((n + 9223372036854775808) / 18446744073709551616), by unfold wrap64; omega⟩
theorem wrap64_add_r (a b : Int) : wrap64 (a + wrap64 b) = wrap64 (a + b) := by unfold wrap64; omega
theorem wrap64_add_l (a b : Int) : wrap64 (wrap64 a + b) = wrap64 (a + b) := by unfold wrap64; omega
theorem wrap64_sub_l (a b : Int) : wrap64 (wrap64 a - b) = wrap64 (a - b) := by unfold wrap64; omega
theorem wrap64_mul_r (a b : Int) : wrap64 (a * wrap64 b) = wrap64 (a * b) := by
  obtain ⟨k, hk⟩ := wrap64_ex b
  rw [hk, Int.mul_add, Int.mul_left_comm, wrap64_more]
theorem wrap64_mul_l (a b : Int) : wrap64 (wrap64 a * b) = wrap64 (a * b) := by
  rw [Int.mul_comm, wrap64_mul_r, Int.mul_comm]

theorem ring_1 (a b : Int) : binV 1 a b = binV 1 b a := by rw [binV_1, binV_1, Int.add_comm]
theorem ring_2 (a b : Int) : binV 3 a b = binV 3 b a := by rw [binV_3, binV_3, Int.mul_comm]
theorem ring_3 (a b c : Int) : binV 1 a (binV 1 b c) = binV 1 (binV 1 a b) c := by
  simp only [binV_1]; rw [wrap64_add_r, wrap64_add_l, Int.add_assoc]
theorem ring_4 (a b c : Int) : binV 3 a (binV 3 b c) = binV 3 (binV 3 a b) c := by
  simp only [binV_3]; rw [wrap64_mul_r, wrap64_mul_l, Int.mul_assoc]
theorem ring_5 (a b c : Int) : binV 3 a (binV 1 b c) = binV 1 (binV 3 a b) (binV 3 a c) := by
  simp only [binV_1, binV_3]; rw [wrap64_mul_r, wrap64_add_r, wrap64_add_l, Int.mul_add]
theorem ring_6 (a b : Int) (h : I64 a) : binV 2 (binV 1 a b) b = a := by
  rw [binV_1, binV_2, wrap64_sub_l, Int.add_sub_cancel, wrap64_in a h]
theorem ring_7 (a : Int) : binV 1 a (unV 17 a) = 0 := by
  rw [binV_1, unV_17, wrap64_add_r, Int.add_right_neg]; exact wrap64_in 0 ⟨by decide, by decide⟩
theorem beq_of {a b : Int} (h : a = b) : (a == b) = true := by rw [h]; exact beq_self_eq_true b
end Go.Proofs.Ytonpbbflloljgaa
