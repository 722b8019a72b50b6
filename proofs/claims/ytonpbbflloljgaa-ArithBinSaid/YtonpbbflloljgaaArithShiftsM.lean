/-
  The mathematics of chapter 6: shifts.
-/
import Derived.Test.YtonpbbflloljgaaArithB
namespace Go.Proofs.Ytonpbbflloljgaa
open Go.RowKit

theorem binV_9 (a : Int) (x : Nat) : binV 9 a x = wrap64 (a * 2 ^ min x 64) := (bin_made 9 a x (by unfold wayV; rw [if_neg (by decide), if_pos (by decide), if_neg (by omega)])).trans rfl
theorem binV_10 (a : Int) (x : Nat) : binV 10 a x = a / 2 ^ min x 64 := (bin_made 10 a x (by unfold wayV; rw [if_neg (by decide), if_pos (by decide), if_neg (by omega)])).trans rfl
theorem way_9 (x : Nat) : wayV 9 (-1 - (x : Int)) = 4 := by
  unfold wayV; rw [if_neg (by decide), if_pos (by decide), if_pos (by omega)]
theorem pow_pos' (x : Nat) : (0 : Int) < 2 ^ x := Int.pow_pos (by decide)
theorem pow_cast (x : Nat) : ((2 ^ x : Nat) : Int) = (2 : Int) ^ x := Int.natCast_pow 2 x
theorem pow_le63 (x : Nat) (h : x ≤ 62) : (2 : Int) ^ x ≤ 4611686018427387904 := by
  have := Nat.pow_le_pow_right (show 0 < 2 by decide) h
  rw [← pow_cast]; omega
theorem two_next (k : Nat) (h : k + 1 ≤ 62) : binV 1 (2 ^ k) (2 ^ k) = 2 ^ (k + 1) := by
  have h1 := pow_le63 (k + 1) h
  have h2 := pow_pos' k
  rw [Int.pow_succ] at h1 ⊢
  rw [binV_1, wrap64_in _ ⟨by omega, by omega⟩]; omega
theorem shl_is_mul (a : Int) (x : Nat) (h : x ≤ 62) : binV 9 a x = binV 3 a (2 ^ x) := by
  rw [binV_9, binV_3, show min x 64 = x by omega]
theorem wrap_big (a : Int) (n : Nat) (h : 64 ≤ n) : wrap64 (a * 2 ^ n) = 0 := by
  have e : (2 : Int) ^ n = 18446744073709551616 * 2 ^ (n - 64) := by
    rw [show n = 64 + (n - 64) by omega, Int.pow_add, show 64 + (n - 64) - 64 = n - 64 by omega]; rfl
  rw [e, Int.mul_left_comm]
  have := wrap64_more 0 (a * 2 ^ (n - 64))
  rw [Int.zero_add] at this
  rw [this]; exact wrap64_in 0 ⟨by decide, by decide⟩
theorem shl_shl (a : Int) (x y : Nat) (hx : x ≤ 62) (hy : y ≤ 62) : binV 9 (binV 9 a x) y = binV 9 a (x + y : Nat) := by
  rw [binV_9, binV_9, binV_9, show min x 64 = x by omega, show min y 64 = y by omega, wrap64_mul_l, Int.mul_assoc, ← Int.pow_add]
  by_cases h : x + y ≤ 64
  · rw [show min (x + y) 64 = x + y by omega]
  · rw [show min (x + y) 64 = 64 by omega, wrap_big a (x + y) (by omega), wrap_big a 64 (by omega)]
theorem ediv_big (a : Int) (n : Nat) (h : I64 a) (hn : 63 ≤ n) : a / 2 ^ n = if a < 0 then -1 else 0 := by
  have hp : (9223372036854775808 : Int) ≤ 2 ^ n := by
    have := Nat.pow_le_pow_right (show 0 < 2 by decide) hn
    rw [← pow_cast]; omega
  unfold I64 at h
  split
  · have h1 : -1 ≤ a / 2 ^ n := Int.le_ediv_of_mul_le (pow_pos' n) (by omega)
    have h2 : a / 2 ^ n < 0 := Int.ediv_lt_of_lt_mul (pow_pos' n) (by omega)
    omega
  · exact Int.ediv_eq_zero_of_lt (by omega) (by omega)
theorem ediv_two (a : Int) (x y : Nat) : a / 2 ^ x / 2 ^ y = a / (2 ^ x * 2 ^ y) := by
  have := pow_pos' x
  rw [Int.ediv_ediv, if_neg (by omega), Int.sub_zero]
theorem shr_shr (a : Int) (x y : Nat) (hx : x ≤ 62) (hy : y ≤ 62) (h : I64 a) : binV 10 (binV 10 a x) y = binV 10 a (x + y : Nat) := by
  rw [binV_10, binV_10, binV_10, show min x 64 = x by omega, show min y 64 = y by omega, ediv_two, ← Int.pow_add]
  by_cases hs : x + y ≤ 64
  · rw [show min (x + y) 64 = x + y by omega]
  · rw [show min (x + y) 64 = 64 by omega, ediv_big a (x + y) h (by omega), ediv_big a 64 h (by omega)]
theorem mask (a : Int) (x : Nat) (hx : x ≤ 62) : binV 6 a (binV 2 (2 ^ x) 1) = a % 2 ^ x := by
  have h1 := pow_le63 x hx
  have h2 := pow_pos' x
  rw [binV_2, wrap64_in _ ⟨by omega, by omega⟩, binV_6, bits_and]
  have hm : (B64 (2 ^ x - 1)).toNat = 2 ^ x - 1 := by
    rw [BitVec.toNat_ofInt]
    have := Nat.pow_le_pow_right (show 0 < 2 by decide) hx
    have := Nat.two_pow_pos x
    rw [← pow_cast]; omega
  have ha : (B64 a &&& B64 (2 ^ x - 1)).toNat = (B64 a).toNat % 2 ^ x := by
    rw [BitVec.toNat_and, hm, Nat.and_two_pow_sub_one_eq_mod]
  have hd : ((B64 a).toNat : Int) = a % 18446744073709551616 := by
    rw [BitVec.toNat_ofInt]; omega
  have hl : (B64 a).toNat % 2 ^ x < 2 ^ x := Nat.mod_lt _ (Nat.two_pow_pos x)
  have hlt := Nat.pow_le_pow_right (show 0 < 2 by decide) hx
  rw [BitVec.toInt_eq_toNat_of_lt (by rw [ha]; omega), ha, Int.natCast_emod, hd, pow_cast]
  apply Int.emod_emod_of_dvd
  exact ⟨2 ^ (64 - x), by rw [← Int.pow_add, show x + (64 - x) = 64 by omega]; rfl⟩
theorem shifts_back (a : Int) (x : Nat) (hx : x ≤ 62) (h : I64 a) : binV 1 (binV 9 (binV 10 a x) x) (binV 6 a (binV 2 (2 ^ x) 1)) = a := by
  rw [mask a x hx, binV_10, binV_9, binV_1, show min x 64 = x by omega, wrap64_add_l, Int.mul_comm, Int.mul_ediv_add_emod, wrap64_in a h]
end Go.Proofs.Ytonpbbflloljgaa
