/-
  The mathematics of the reference's division, bit by bit.
-/
import Derived.Test.YtonpbbflloljgaaRefBits3
namespace Go.Proofs.Ytonpbbflloljgaa
open Go.RowKit

/-- How far a number is from 0, as bits. -/
def absB (n : Int) : BitVec 64 := BitVec.ofNat 64 n.natAbs
theorem abs_lt (n : Int) (h : I64 n) : n.natAbs ≤ 9223372036854775808 := by unfold I64 at h; omega
theorem absB_toNat (n : Int) (h : I64 n) : (absB n).toNat = n.natAbs := by
  have := abs_lt n h
  unfold absB; rw [BitVec.toNat_ofNat, Nat.mod_eq_of_lt (by omega)]
theorem ofNat_B64 (n : Nat) : BitVec.ofNat 64 n = B64 (n : Int) := (BitVec.ofInt_natCast 64 n).symm
theorem abs_pos (n : Int) (h : 0 ≤ n) : B64 n = absB n := by
  unfold absB; rw [ofNat_B64]; congr 1; omega
theorem abs_neg (n : Int) (h : n < 0) : -(B64 n) = absB n := by
  unfold absB
  rw [ofNat_B64, show ((n.natAbs : Nat) : Int) = -n by omega]
  show _ = BitVec.ofInt 64 (-n)
  rw [BitVec.ofInt_neg]

/-- The rest, with k bits to go. -/
def restN (X Y k : Nat) : Nat := X / 2 ^ k % Y
/-- The rest with one bit more behind it. -/
def nextN (X Y i : Nat) : Nat := 2 * restN X Y (i + 1) + X / 2 ^ i % 2
theorem rest_lt (X Y k : Nat) (h : 0 < Y) : restN X Y k < Y := Nat.mod_lt _ h
theorem next_lt (X Y i : Nat) (h : 0 < Y) : nextN X Y i < 2 * Y := by
  have := rest_lt X Y (i + 1) h
  unfold nextN; omega
theorem next_mod (X Y i : Nat) : X / 2 ^ i = Y * (2 * (X / 2 ^ (i + 1) / Y)) + nextN X Y i := by
  have h1 := div_bit X i
  have h2 := Nat.div_add_mod (X / 2 ^ (i + 1)) Y
  unfold nextN restN
  rw [Nat.mul_left_comm]
  omega
theorem rest_less (X Y i : Nat) (h : nextN X Y i < Y) : restN X Y i = nextN X Y i := by
  have e := next_mod X Y i
  have : X / 2 ^ i % Y = nextN X Y i := by rw [e, Nat.mul_add_mod, Nat.mod_eq_of_lt h]
  exact this
theorem rest_more (X Y i : Nat) (hY : 0 < Y) (h : ¬ nextN X Y i < Y) : restN X Y i = nextN X Y i - Y := by
  have e := next_mod X Y i
  have hl := next_lt X Y i hY
  have : X / 2 ^ i % Y = nextN X Y i - Y := by
    rw [e, Nat.mul_add_mod]
    rw [Nat.mod_eq_sub_mod (by omega), Nat.mod_eq_of_lt (by omega)]
  exact this
theorem quo_div (X Y i : Nat) : X / Y / 2 ^ i = X / 2 ^ i / Y := by rw [Nat.div_div_eq_div_mul, Nat.div_div_eq_div_mul, Nat.mul_comm]
theorem quo_bit (X Y i : Nat) (hY : 0 < Y) : (X / Y).testBit i = decide (¬ nextN X Y i < Y) := by
  have e := next_mod X Y i
  have hl := next_lt X Y i hY
  rw [Nat.testBit_eq_decide_div_mod_eq, quo_div, Bool.eq_iff_iff, decide_eq_true_iff, decide_eq_true_iff]
  have hq : X / 2 ^ i / Y = 2 * (X / 2 ^ (i + 1) / Y) + nextN X Y i / Y := by
    conv => lhs; rw [e]
    rw [Nat.mul_add_div hY]
  by_cases h : nextN X Y i < Y
  · rw [hq, Nat.div_eq_of_lt h]; omega
  · have : nextN X Y i / Y = 1 := by
      apply Nat.div_eq_of_lt_le <;> omega
    rw [hq, this]; omega

/-- The quotient's bits from k on. -/
def quoV (X Y k j : Nat) : Bool := decide (k ≤ j) && (X / Y).testBit j
theorem quo_start (X Y : Nat) : arrV (quoV X Y 64) = arrV offV := arrV_ext _ _ fun i hi => by
  unfold quoV offV; rw [decide_eq_false (by omega)]; rfl
theorem quo_end (X Y : Nat) : arrV (quoV X Y 0) = bvV (BitVec.ofNat 64 (X / Y)) := arr_bv _ _ fun i hi => by
  unfold quoV
  rw [decide_eq_true (Nat.zero_le i), Bool.true_and, BitVec.getLsbD_ofNat, decide_eq_true hi, Bool.true_and]
theorem quo_on (X Y i : Nat) (hY : 0 < Y) (h : ¬ nextN X Y i < Y) : (arrV (quoV X Y (i + 1))).setIfInBounds i (.bool true) = arrV (quoV X Y i) := by
  refine arrV_set _ _ _ _ ?_ ?_
  · unfold quoV; rw [quo_bit X Y i hY, decide_eq_true h, decide_eq_true (Nat.le_refl i)]; rfl
  · intro j hj
    unfold quoV
    rw [show decide (i + 1 ≤ j) = decide (i ≤ j) by rw [Bool.eq_iff_iff]; simp only [decide_eq_true_eq]; omega]
theorem quo_off (X Y i : Nat) (hY : 0 < Y) (h : nextN X Y i < Y) : arrV (quoV X Y (i + 1)) = arrV (quoV X Y i) := arrV_ext _ _ fun j _ => by
  unfold quoV
  by_cases hj : j = i
  · subst hj
    rw [quo_bit X Y j hY, show decide (¬ nextN X Y j < Y) = false from decide_eq_false (fun e => e h), Bool.and_false, Bool.and_false]
  · rw [show decide (i + 1 ≤ j) = decide (i ≤ j) by rw [Bool.eq_iff_iff]; simp only [decide_eq_true_eq]; omega]
/-- The rest's row, moved by one, with the next bit at its foot. -/
theorem next_row (X Y i : Nat) : (bvV (BitVec.ofNat 64 (restN X Y (i + 1)) <<< 1)).setIfInBounds 0 (.bool (X.testBit i)) = bvV (BitVec.ofNat 64 (nextN X Y i)) := by
  refine arrV_set _ _ _ _ ?_ ?_
  · rw [BitVec.getLsbD_ofNat, Nat.testBit_eq_decide_div_mod_eq, Nat.testBit_eq_decide_div_mod_eq, Nat.pow_zero, Nat.div_one]
    unfold nextN
    rw [show (2 * restN X Y (i + 1) + X / 2 ^ i % 2) % 2 = X / 2 ^ i % 2 by omega]; rfl
  · intro j hj
    obtain ⟨m, rfl⟩ : ∃ m, j = m + 1 := ⟨j - 1, by omega⟩
    rw [BitVec.getLsbD_shiftLeft, BitVec.getLsbD_ofNat, BitVec.getLsbD_ofNat]
    have e : (nextN X Y i).testBit (m + 1) = (restN X Y (i + 1)).testBit m := by
      rw [Nat.testBit_succ]; congr 1; unfold nextN; omega
    rw [e, Nat.add_sub_cancel, decide_eq_false (by omega : ¬ m + 1 < 1)]
    by_cases hm : m + 1 < 64
    · rw [decide_eq_true hm, decide_eq_true (by omega : m < 64)]; rfl
    · rw [decide_eq_false hm]; rfl
theorem rest_top (X Y k : Nat) (hY : 0 < Y) (h : Y ≤ 9223372036854775808) : (BitVec.ofNat 64 (restN X Y k)).getLsbD 63 = false := by
  have := rest_lt X Y k hY
  rw [BitVec.getLsbD_ofNat, Nat.testBit_eq_decide_div_mod_eq, show restN X Y k / 2 ^ 63 % 2 = 0 by omega]; rfl
theorem next_toNat (X Y i : Nat) (hY : 0 < Y) (h : Y ≤ 9223372036854775808) : (BitVec.ofNat 64 (nextN X Y i)).toNat = nextN X Y i := by
  have := next_lt X Y i hY
  rw [BitVec.toNat_ofNat, Nat.mod_eq_of_lt (by omega)]
theorem next_sub (X Y i : Nat) (hY : 0 < Y) (h : ¬ nextN X Y i < Y) : BitVec.ofNat 64 (nextN X Y i) + -(BitVec.ofNat 64 Y) = BitVec.ofNat 64 (restN X Y i) := by
  rw [rest_more X Y i hY h, ← BitVec.sub_eq_add_neg, show nextN X Y i = nextN X Y i - Y + Y by omega, BitVec.ofNat_add, BitVec.add_sub_cancel, Nat.add_sub_cancel]
theorem rest_start (X Y : Nat) (hX : X < 2 ^ 64) : restN X Y 64 = 0 := by unfold restN; rw [Nat.div_eq_of_lt hX, Nat.zero_mod]
theorem rest_end (X Y : Nat) : restN X Y 0 = X % Y := by unfold restN; rw [Nat.pow_zero, Nat.div_one]
theorem rest_start' (X Y : Nat) (hX : X < 2 ^ 64) : bvV (BitVec.ofNat 64 (restN X Y 64)) = arrV offV := by rw [rest_start X Y hX, off_bv]; rfl

theorem nat_toInt (n : Nat) : (BitVec.ofNat 64 n).toInt = wrap64 (n : Int) := by rw [ofNat_B64, wrap64_bits]
theorem nat_neg_toInt (n : Nat) : (-(BitVec.ofNat 64 n)).toInt = wrap64 (-(n : Int)) := by rw [ofNat_B64, negB]
theorem tdiv_abs (a b : Int) : a.tdiv b = if (decide (a < 0) != decide (b < 0)) = true then -((a.natAbs / b.natAbs : Nat) : Int) else ((a.natAbs / b.natAbs : Nat) : Int) := by
  by_cases ha : a < 0 <;> by_cases hb : b < 0
  · rw [decide_eq_true ha, decide_eq_true hb, if_neg (by decide)]
    have : (a.natAbs : Int).tdiv (b.natAbs : Int) = ((a.natAbs / b.natAbs : Nat) : Int) := rfl
    rw [← this, show (a.natAbs : Int) = -a by omega, show (b.natAbs : Int) = -b by omega, Int.neg_tdiv, Int.tdiv_neg, Int.neg_neg]
  · rw [decide_eq_true ha, decide_eq_false hb, if_pos (by decide)]
    have : (a.natAbs : Int).tdiv (b.natAbs : Int) = ((a.natAbs / b.natAbs : Nat) : Int) := rfl
    rw [← this, show (a.natAbs : Int) = -a by omega, show (b.natAbs : Int) = b by omega, Int.neg_tdiv, Int.neg_neg]
  · rw [decide_eq_false ha, decide_eq_true hb, if_pos (by decide)]
    have : (a.natAbs : Int).tdiv (b.natAbs : Int) = ((a.natAbs / b.natAbs : Nat) : Int) := rfl
    rw [← this, show (a.natAbs : Int) = a by omega, show (b.natAbs : Int) = -b by omega, Int.tdiv_neg, Int.neg_neg]
  · rw [decide_eq_false ha, decide_eq_false hb, if_neg (by decide)]
    have : (a.natAbs : Int).tdiv (b.natAbs : Int) = ((a.natAbs / b.natAbs : Nat) : Int) := rfl
    rw [← this, show (a.natAbs : Int) = a by omega, show (b.natAbs : Int) = b by omega]
theorem tmod_abs (a b : Int) : a.tmod b = if a < 0 then -((a.natAbs % b.natAbs : Nat) : Int) else ((a.natAbs % b.natAbs : Nat) : Int) := by
  have h := Int.natAbs_tmod a b
  by_cases ha : a < 0
  · have h1 : 0 ≤ (-a).tmod b := Int.tmod_nonneg b (by omega)
    rw [Int.neg_tmod] at h1
    rw [if_pos ha, ← h]; omega
  · have h1 : 0 ≤ a.tmod b := Int.tmod_nonneg b (by omega)
    rw [if_neg ha, ← h]; omega
end Go.Proofs.Ytonpbbflloljgaa
