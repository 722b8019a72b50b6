/-
  The walk of the reference's below; two arrays held against one another; mathematics of the reference's Bin.
-/
import Derived.Test.YtonpbbflloljgaaRefDivide
import Derived.Test.YtonpbbflloljgaaArithShiftsM
namespace Go.Proofs.Ytonpbbflloljgaa
open Go.RowKit

theorem B64_nat (n : Int) : ((B64 n).toNat : Int) = n % 18446744073709551616 := by rw [BitVec.toNat_ofInt]; omega
theorem top_bit (n : Int) (h : I64 n) : (B64 n).getLsbD 63 = decide (n < 0) := by
  have h1 := B64_nat n
  unfold I64 at h
  rw [BitVec.getLsbD, Nat.testBit_eq_decide_div_mod_eq, Bool.eq_iff_iff, decide_eq_true_iff, decide_eq_true_iff]
  omega
theorem same_sign_less (a b : Int) (ha : I64 a) (hb : I64 b) (h : decide (a < 0) = decide (b < 0)) : decide ((B64 a).toNat < (B64 b).toNat) = decide (a < b) := by
  have h1 := B64_nat a
  have h2 := B64_nat b
  unfold I64 at ha hb
  have h3 : a < 0 ↔ b < 0 := by simpa using h
  rw [Bool.eq_iff_iff, decide_eq_true_iff, decide_eq_true_iff]
  omega

theorem less_c (x y : BitVec 64) (c : Bool) (w : World) (h : c = decide (x.toNat < y.toNat)) : Calls Try.prog 40 #[.agg (bvV x), .agg (bvV y)] w fun e w' => e = .returned (.bool c) ∧ Below w.heap.size w w' := by
  rw [h]; exact less_any x y w

set_option maxHeartbeats 1600000 in
set_option maxRecDepth 100000 in
theorem below_any (a b : Int) (w : World) (ha : I64 a) (hb : I64 b) :
    Calls Try.prog 31 #[.int .i64 a, .int .i64 b] w fun e w' => e = .returned (.bool (decide (a < b))) ∧ Below w.heap.size w w' := by
  obtain ⟨R, hR⟩ : ∃ R, R = decide (a < b) := ⟨_, rfl⟩
  rw [← hR]
  have rt : ∀ {c : Bool}, c = R → Ending.returned (.bool c) = .returned (.bool R) := fun h => by rw [h]
  have ta := top_bit a ha
  have tb := top_bit b hb
  obtain ⟨c, hc⟩ : ∃ c, c = decide ((B64 a).toNat < (B64 b).toNat) := ⟨_, rfl⟩
  have HC := Lib.hid hc
  have HL : Hid (decide (a < 0) = decide (b < 0) → c = decide (a < b)) := Lib.hid (fun h => hc.trans (same_sign_less a b ha hb h))
  clear hc
  have HR := Lib.hid hR
  have HA := Lib.hid ta
  have HB := Lib.hid tb
  clear hR ta tb ha hb
  go_enter Try.func31, Try.ntmps31
  go_wp2_with fail
  refine (cells_any a _).mono ?_
  rintro e w1 ⟨rfl, g1⟩
  go_wp2_with fail
  refine (cells_any b _).mono ?_
  rintro e w2 ⟨rfl, g2⟩
  cases hp : decide (a < 0) <;> cases hq : decide (b < 0)
  all_goals
    have HP := Lib.hid hp
    have HQ := Lib.hid hq
    clear hp hq
    go_wp2_with (first | (refine store_arr_any rfl _ _ rfl w2.heap.size _ rfl rfl 54 _ (heap_alloc2_old _ _ _) rfl ?_; intro W1 hr1 ho1 hb1 hsz; clear hsz; have h1 := Lib.hid ((ho1 (w2.heap.size + 1) (by omega)).trans (heap_alloc2_new _ _ _)); have R1 := Lib.hid hr1; clear ho1 hr1) | (refine store_arr_any rfl _ _ rfl (w2.heap.size + 1) _ rfl rfl 54 _ h1.out rfl ?_; intro W2 hr2 ho2 hb2 hsz; clear hsz; have hF : F2 w w2.heap.size (w2.heap.size + 1) (bvV (B64 a)) (bvV (B64 b)) W2 := f2_start g1 g2 R1.out hb1 hr2 ho2 hb2; have cx := (spot hF.hx (j := 63) (by decide)).1; have cy := (spot hF.hy (j := 63) (by decide)).1; rw [HA.out, HP.out] at cx; rw [HB.out, HQ.out] at cy; have F := Lib.hid hF; clear hr2 ho2 hb2 hF R1 h1 hb1) | (refine wpList_load_row rfl 54 _ rfl w2.heap.size rfl 54 _ (0, 0) _ F.out.hx Try.underlying54 rfl (info_arrV _) ?_) | (refine wpList_load_row rfl 54 _ rfl (w2.heap.size + 1) rfl 54 _ (0, 0) _ F.out.hy Try.underlying54 rfl (info_arrV _) ?_) | (go_at_call 40; refine (less_c _ _ c _ HC.out).mono ?_; rintro e v0 ⟨rfl, g0⟩; replace F := Lib.hid (F.out.next g0); clear g0))
    go_ret
    refine ⟨rt ?_, F.out.below⟩
    have h3 := HP.out
    have h4 := HQ.out
    first
      | (rw [HR.out]; exact HL.out (h3.trans h4.symm))
      | (rw [HR.out]; simp only [decide_eq_true_eq, decide_eq_false_iff_not] at h3 h4; symm; first | (rw [decide_eq_true_iff]; omega) | (rw [decide_eq_false_iff_not]; omega))

theorem bool_u : Try.prog.underlying 4 = some .bool := Try.underlying4
theorem size_bool (w : World) : (sizeOf 4).run Try.prog w = .ok 1 w := by kernel_rfl
theorem run_equalIn_arr (d : Nat) (f g : Nat → Bool) (w : World) :
    (Op.equalIn (d + 2) 54 (.agg (arrV f)) (.agg (arrV g))).run Try.prog w = .ok ((List.range 64).all fun i => f i == g i) w := by
  rw [List.range_eq_range', Op.equalIn]
  simp only [Sem.run_bind, run_underlying Try.underlying54, Result.andThen_ok, size_bool, Std.Legacy.Range.forIn_eq_forIn_range', Std.Legacy.Range.size, Nat.sub_zero, Nat.add_sub_cancel, Nat.div_one]
  have hl : ∀ i ∈ List.range' 0 64 1, i < 64 := fun i hi => by simpa using (List.mem_range'_1.1 hi).2
  generalize List.range' 0 64 1 = l at hl ⊢
  induction l with
  | nil => simp
  | cons i l ih =>
    have hi : i < 64 := hl i (by simp)
    have px : (part 4 (arrV f) (i * 1)).run Try.prog w = .ok (.bool (f i)) w := by
      simp [part, isAgg, run_underlying bool_u, arrV_get f i hi]
    have py : (part 4 (arrV g) (i * 1)).run Try.prog w = .ok (.bool (g i)) w := by
      simp [part, isAgg, run_underlying bool_u, arrV_get g i hi]
    have pe : (Op.equalIn (d + 1) 4 (.bool (f i)) (.bool (g i))).run Try.prog w = .ok (f i == g i) w := run_equalIn_bool' w d _ _ _ bool_u
    simp only [List.forIn_cons, Sem.run_bind, px, py, pe, Result.andThen_ok, List.all_cons]
    cases hb : (f i == g i)
    · simp
    · simp only [Bool.not_true, Bool.false_eq_true, if_false, Sem.run_pure, Result.andThen_ok, Bool.true_and]
      exact ih fun j hj => hl j (by simp [hj])
theorem all_bits (x y : BitVec 64) : ((List.range 64).all fun i => x.getLsbD i == y.getLsbD i) = (x == y) := by
  rw [Bool.eq_iff_iff, List.all_eq_true, beq_iff_eq]
  constructor
  · intro h
    apply BitVec.eq_of_getLsbD_eq
    intro i hi
    simpa using h i (List.mem_range.2 hi)
  · rintro rfl i _
    exact beq_self_eq_true _
theorem run_eql_arr (x y : BitVec 64) (w : World) : (binOp .eql 54 (.agg (bvV x)) (.agg (bvV y))).run Try.prog w = .ok (.bool (x == y)) w := by
  rw [run_eql_struct, show Op.equalIn 10000 54 (.agg (bvV x)) (.agg (bvV y)) = Op.equalIn (9998 + 2) 54 (.agg (arrV x.getLsbD)) (.agg (arrV y.getLsbD)) from rfl, run_equalIn_arr, all_bits]; rfl
theorem run_neq_arr (x y : BitVec 64) (w : World) : (binOp .neq 54 (.agg (bvV x)) (.agg (bvV y))).run Try.prog w = .ok (.bool (!(x == y))) w := by
  rw [run_neq_struct, show Op.equalIn 10000 54 (.agg (bvV x)) (.agg (bvV y)) = Op.equalIn (9998 + 2) 54 (.agg (arrV x.getLsbD)) (.agg (arrV y.getLsbD)) from rfl, run_equalIn_arr, all_bits]; rfl
theorem guard_arr : Try.prog.eqGuardType Try.prog.depth 54 = false := by kernel_rfl
theorem B64_eq (a b : Int) (ha : I64 a) (hb : I64 b) : (B64 a == B64 b) = (a == b) := by
  rw [Bool.eq_iff_iff, beq_iff_eq, beq_iff_eq]
  constructor
  · intro h
    rw [← toInt_B64 a ha, h, toInt_B64 b hb]
  · rintro rfl; rfl
theorem mulB (a b : Int) : wrap64 (a * b) = (B64 a * B64 b).toInt := by
  rw [wrap64_bits]
  show (BitVec.ofInt 64 (a * b)).toInt = _
  rw [BitVec.ofInt_mul]
theorem shlB (a : Int) (m : Nat) : wrap64 (a * 2 ^ m) = (B64 a <<< m).toInt := by
  rw [wrap64_bits]
  congr 1
  apply BitVec.eq_of_toNat_eq
  have h1 : ((B64 (a * 2 ^ m)).toNat : Int) = (a * 2 ^ m) % 18446744073709551616 := B64_nat _
  have h2 : (((B64 a <<< m).toNat : Nat) : Int) = (a * 2 ^ m) % 18446744073709551616 := by
    rw [BitVec.toNat_shiftLeft, Nat.shiftLeft_eq, Int.natCast_emod, Int.natCast_mul, pow_cast, B64_nat]
    show (a % 18446744073709551616 * 2 ^ m) % 18446744073709551616 = _
    rw [Int.mul_emod, Int.emod_emod, ← Int.mul_emod]
  omega
theorem shrB (a : Int) (m : Nat) (h : I64 a) : a / 2 ^ m = ((B64 a).sshiftRight m).toInt := by
  rw [BitVec.toInt_sshiftRight, toInt_B64 a h, Int.shiftRight_eq_div_pow, pow_cast]
end Go.Proofs.Ytonpbbflloljgaa
