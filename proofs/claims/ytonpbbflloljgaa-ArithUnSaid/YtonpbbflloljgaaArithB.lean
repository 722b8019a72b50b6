/-
  The mathematics of chapter 6: bits of numbers of 64 bits.
-/
import Derived.Test.YtonpbbflloljgaaArithM
namespace Go.Proofs.Ytonpbbflloljgaa
open Go.RowKit

/-- A number's bits. -/
abbrev B64 (n : Int) : BitVec 64 := BitVec.ofInt 64 n
theorem wrap64_bits (n : Int) : wrap64 n = (B64 n).toInt := by
  rw [BitVec.toInt_ofInt]
  unfold wrap64 Int.bmod
  have : ((2 ^ 64 : Nat) : Int) = 18446744073709551616 := by decide
  rw [this]
  dsimp only
  split <;> omega
theorem B64_toInt (x : BitVec 64) : B64 x.toInt = x := BitVec.ofInt_toInt
theorem B64_wrap (n : Int) : B64 (wrap64 n) = B64 n := by rw [wrap64_bits, B64_toInt]
theorem i64_toInt (x : BitVec 64) : I64 x.toInt := by rw [← B64_toInt x, ← wrap64_bits]; exact wrap64_i64 _
theorem toInt_B64 (n : Int) (h : I64 n) : (B64 n).toInt = n := by rw [← wrap64_bits, wrap64_in n h]
theorem wrap_toNat (x : BitVec 64) : IntKind.i64.wrap (x.toNat : Int) = x.toInt := by
  have : wrap64 (x.toNat : Int) = x.toInt := by
    rw [wrap64_bits]; congr 1
    apply BitVec.eq_of_toNat_eq
    rw [BitVec.toNat_ofInt]
    have := x.isLt
    omega
  rw [← this, IntKind.wrap_i64]; unfold wrap64; rfl
theorem bits_and (a b : Int) : bits .and .i64 a b = (B64 a &&& B64 b).toInt := wrap_toNat _
theorem bits_or (a b : Int) : bits .or .i64 a b = (B64 a ||| B64 b).toInt := wrap_toNat _
theorem bits_xor (a b : Int) : bits .xor .i64 a b = (B64 a ^^^ B64 b).toInt := wrap_toNat _
theorem flipV (a : Int) : unV 18 a = (~~~ B64 a).toInt := by
  rw [unV_18, bits_xor]
  congr 1
theorem addB (a b : Int) : wrap64 (a + b) = (B64 a + B64 b).toInt := by
  rw [wrap64_bits]
  show (BitVec.ofInt 64 (a + b)).toInt = _
  rw [BitVec.ofInt_add]
theorem negB (a : Int) : wrap64 (-a) = (-(B64 a)).toInt := by
  rw [wrap64_bits]
  show (BitVec.ofInt 64 (-a)).toInt = _
  rw [BitVec.ofInt_neg]
theorem subB (a b : Int) : wrap64 (a - b) = (B64 a - B64 b).toInt := by
  rw [Int.sub_eq_add_neg, ← wrap64_add_r, negB, addB, B64_toInt, BitVec.sub_eq_add_neg]
theorem xor_or_and (x y : BitVec 64) : x ^^^ y = (x ||| y) - (x &&& y) := by
  have h : (x ^^^ y) + (x &&& y) = x ||| y := by
    rw [BitVec.add_eq_or_of_and_eq_zero]
    · apply BitVec.eq_of_getLsbD_eq
      intro i _
      simp only [BitVec.getLsbD_or, BitVec.getLsbD_xor, BitVec.getLsbD_and]
      cases x.getLsbD i <;> cases y.getLsbD i <;> rfl
    · apply BitVec.eq_of_getLsbD_eq
      intro i _
      simp only [BitVec.getLsbD_xor, BitVec.getLsbD_and, BitVec.getLsbD_zero]
      cases x.getLsbD i <;> cases y.getLsbD i <;> rfl
  rw [← h, BitVec.add_sub_cancel]
theorem bit_1 (a b : Int) : unV 18 (binV 6 a b) = binV 7 (unV 18 a) (unV 18 b) := by
  rw [binV_6, binV_7, bits_and, bits_or, flipV, flipV, flipV]
  simp only [B64_toInt]
  congr 1
  apply BitVec.eq_of_getLsbD_eq
  intro i hi
  simp [hi]
theorem bit_2 (a b : Int) : unV 18 (binV 7 a b) = binV 6 (unV 18 a) (unV 18 b) := by
  rw [binV_6, binV_7, bits_and, bits_or, flipV, flipV, flipV]
  simp only [B64_toInt]
  congr 1
  apply BitVec.eq_of_getLsbD_eq
  intro i hi
  simp [hi]
theorem bit_3 (a b c : Int) : binV 6 a (binV 7 b c) = binV 7 (binV 6 a b) (binV 6 a c) := by
  simp only [binV_6, binV_7, bits_and, bits_or, B64_toInt]
  congr 1
  apply BitVec.eq_of_getLsbD_eq
  intro i _
  simp only [BitVec.getLsbD_or, BitVec.getLsbD_and]
  cases (B64 a).getLsbD i <;> rfl
theorem bit_4 (a b : Int) : binV 8 a b = binV 2 (binV 7 a b) (binV 6 a b) := by
  simp only [binV_2, binV_6, binV_7, binV_8, bits_and, bits_or, bits_xor, subB, B64_toInt]
  rw [xor_or_and]
theorem bit_5 (a b : Int) (h : I64 a) : binV 8 (binV 8 a b) b = a := by
  simp only [binV_8, bits_xor, B64_toInt]
  rw [BitVec.xor_assoc, BitVec.xor_self, BitVec.xor_zero, toInt_B64 a h]
theorem bit_6 (a : Int) (h : I64 a) : unV 18 (unV 18 a) = a := by
  rw [flipV, flipV, B64_toInt, BitVec.not_not, toInt_B64 a h]
theorem bit_7 (a : Int) : unV 17 a = binV 1 (unV 18 a) 1 := by
  rw [unV_17, binV_1, flipV, addB, negB, B64_toInt, BitVec.neg_eq_not_add]; rfl
end Go.Proofs.Ytonpbbflloljgaa
