/-
  The walk of the reference's Bin, whole; its Un; the laws ArithBin and ArithUn.
-/
import Derived.Test.YtonpbbflloljgaaRefBin3
namespace Go.Proofs.Ytonpbbflloljgaa
open Go.RowKit

set_option maxHeartbeats 1600000 in
set_option maxRecDepth 100000 in
theorem rbin_none (op a b : Int) (w : World) (h : op < 1 ∨ 16 < op) :
    Calls Try.prog 14 #[.int .i64 op, .int .i64 a, .int .i64 b] w fun e w' => e = .returned (.tuple #[.int .i64 (binV op a b), .int .i64 (wayV op b)]) ∧ Below w.heap.size w w' := by
  have hw : wayV op b = 0 := wayV_going op b (by omega) (by omega) (by omega) (by omega)
  rw [bin_made op a b hw, madeV_none op a b h, hw]
  have hn : ∀ k : Int, 1 ≤ k → k ≤ 16 → (op == k) = false := fun k h1 h2 => by
    rw [beq_eq_false_iff_ne]; omega
  have t1 := hn 1 (by decide) (by decide)
  have t2 := hn 2 (by decide) (by decide)
  have t3 := hn 3 (by decide) (by decide)
  have t4 := hn 4 (by decide) (by decide)
  have t5 := hn 5 (by decide) (by decide)
  have t6 := hn 6 (by decide) (by decide)
  have t7 := hn 7 (by decide) (by decide)
  have t8 := hn 8 (by decide) (by decide)
  have t9 := hn 9 (by decide) (by decide)
  have t10 := hn 10 (by decide) (by decide)
  have t11 := hn 11 (by decide) (by decide)
  have t12 := hn 12 (by decide) (by decide)
  have t13 := hn 13 (by decide) (by decide)
  have t14 := hn 14 (by decide) (by decide)
  have t15 := hn 15 (by decide) (by decide)
  have t16 := hn 16 (by decide) (by decide)
  clear hn hw
  go_enter Try.func14, Try.ntmps14
  go_wp2_with fail
  refine (cells_any a _).mono ?_
  rintro e w1 ⟨rfl, g1⟩
  go_wp2_with fail
  refine (cells_any b _).mono ?_
  rintro e w2 ⟨rfl, g2⟩
  go_wp2_with (first | (refine store_arr_any rfl _ _ rfl w2.heap.size _ rfl rfl 54 _ (heap_alloc2_old _ _ _) rfl ?_; intro W1 hr1 ho1 hb1 hsz; clear hsz; have h1 := Lib.hid ((ho1 (w2.heap.size + 1) (by omega)).trans (heap_alloc2_new _ _ _)); have R1 := Lib.hid hr1; clear ho1 hr1) | (refine store_arr_any rfl _ _ rfl (w2.heap.size + 1) _ rfl rfl 54 _ h1.out rfl ?_; intro W2 hr2 ho2 hb2 hsz; clear hsz; have hF : F2 w w2.heap.size (w2.heap.size + 1) (bvV (B64 a)) (bvV (B64 b)) W2 := f2_start g1 g2 R1.out hb1 hr2 ho2 hb2; have F := Lib.hid hF; clear hr2 ho2 hb2 hF R1 h1 hb1))
  go_ret2
  exact ⟨rfl, F.out.below⟩

theorem rbin_9 (a b : Int) (w : World) (hb : I64 b) :
    Calls Try.prog 14 #[.int .i64 9, .int .i64 a, .int .i64 b] w fun e w' => e = .returned (.tuple #[.int .i64 (binV 9 a b), .int .i64 (wayV 9 b)]) ∧ Below w.heap.size w w' := by
  by_cases h : b < 0
  · have hw : wayV 9 b = 4 := by unfold wayV; rw [if_neg (by decide), if_pos (by decide), if_pos h]
    rw [bin_way 9 a b (by rw [hw]; decide), hw]
    exact rbin_9_neg a b w h
  · obtain ⟨n, rfl⟩ := Int.eq_ofNat_of_zero_le (show 0 ≤ b by omega)
    have hw : wayV 9 (n : Int) = 0 := by unfold wayV; rw [if_neg (by decide), if_pos (by decide), if_neg h]
    rw [hw, binV_9]
    by_cases hn : n ≤ 64
    · rw [show min n 64 = n by omega]
      exact rbin_9_small a n w _ hn (shlB a n).symm
    · rw [show min n 64 = 64 by omega]
      exact rbin_9_big a n w _ (by omega) hb.2 (shlB a 64).symm
theorem rbin_10 (a b : Int) (w : World) (ha : I64 a) (hb : I64 b) :
    Calls Try.prog 14 #[.int .i64 10, .int .i64 a, .int .i64 b] w fun e w' => e = .returned (.tuple #[.int .i64 (binV 10 a b), .int .i64 (wayV 10 b)]) ∧ Below w.heap.size w w' := by
  by_cases h : b < 0
  · have hw : wayV 10 b = 4 := by unfold wayV; rw [if_neg (by decide), if_pos (by decide), if_pos h]
    rw [bin_way 10 a b (by rw [hw]; decide), hw]
    exact rbin_10_neg a b w h
  · obtain ⟨n, rfl⟩ := Int.eq_ofNat_of_zero_le (show 0 ≤ b by omega)
    have hw : wayV 10 (n : Int) = 0 := by unfold wayV; rw [if_neg (by decide), if_pos (by decide), if_neg h]
    rw [hw, binV_10]
    by_cases hn : n ≤ 64
    · rw [show min n 64 = n by omega]
      exact rbin_10_small a n w _ hn (shrB a n ha).symm
    · rw [show min n 64 = 64 by omega]
      exact rbin_10_big a n w _ (by omega) hb.2 (shrB a 64 ha).symm

theorem rbin_any (op a b : Int) (w : World) (ha : I64 a) (hb : I64 b) :
    Calls Try.prog 14 #[.int .i64 op, .int .i64 a, .int .i64 b] w fun e w' => e = .returned (.tuple #[.int .i64 (binV op a b), .int .i64 (wayV op b)]) ∧ Below w.heap.size w w' := by
  by_cases ho : op < 1 ∨ 16 < op
  · exact rbin_none op a b w ho
  obtain ⟨n, rfl⟩ := Int.eq_ofNat_of_zero_le (show 0 ≤ op by omega)
  have h1 : 1 ≤ n := by omega
  have h2 : n ≤ 16 := by omega
  clear ho
  match n, h1, h2 with
  | 1, _, _ => exact rbin_1 a b w
  | 2, _, _ => exact rbin_2 a b w
  | 3, _, _ => exact rbin_3 a b w
  | 4, _, _ => exact rbin_4 a b w ha hb
  | 5, _, _ => exact rbin_5 a b w ha hb
  | 6, _, _ => exact rbin_6 a b w
  | 7, _, _ => exact rbin_7 a b w
  | 8, _, _ => exact rbin_8 a b w
  | 9, _, _ => exact rbin_9 a b w hb
  | 10, _, _ => exact rbin_10 a b w ha hb
  | 11, _, _ => exact rbin_11 a b w ha hb
  | 12, _, _ => exact rbin_12 a b w ha hb
  | 13, _, _ => exact rbin_13 a b w ha hb
  | 14, _, _ => exact rbin_14 a b w ha hb
  | 15, _, _ => exact rbin_15 a b w ha hb
  | 16, _, _ => exact rbin_16 a b w ha hb
  | n + 17, _, h => exact absurd h (by omega)

theorem neg_less (x : BitVec 64) : ~~~x = -x + B64 (-1) := by
  rw [BitVec.neg_eq_not_add, BitVec.add_assoc, show (1#64 + B64 (-1) : BitVec 64) = 0#64 from by decide, BitVec.add_zero]

set_option maxHeartbeats 1600000 in
set_option maxRecDepth 100000 in
theorem run_any (op a : Int) (w : World) :
    Calls Try.prog 17 #[.int .i64 op, .int .i64 a] w fun e w' => e = .returned (.int .i64 (unV op a)) ∧ Below w.heap.size w w' := by
  by_cases h1 : op = 17
  · subst h1
    obtain ⟨n0, hn0⟩ : ∃ n0, n0 = unV 17 a := ⟨_, rfl⟩
    rw [← hn0]
    have HS : Hid ((-B64 a).toInt = n0) := Lib.hid (by rw [hn0, unV_17, negB])
    clear hn0
    go_enter Try.func17, Try.ntmps17
    go_wp2_with (first | (go_at_call 24; refine (cells_any _ _).mono ?_; rintro e w1 ⟨rfl, g1⟩) | (go_at_call 27; refine (rturned_any _ _).mono ?_; rintro e w2 ⟨rfl, g2⟩) | (go_at_call 25; refine (rnumber_c _ _ _ HS.out).mono ?_; rintro e w3 ⟨rfl, g3⟩))
    go_ret
    exact ⟨rfl, (g1.trans (g2.mono g1.size)).trans (g3.mono (Nat.le_trans g1.size g2.size))⟩
  by_cases h2 : op = 18
  · subst h2
    clear h1
    obtain ⟨n0, hn0⟩ : ∃ n0, n0 = unV 18 a := ⟨_, rfl⟩
    rw [← hn0]
    have HS : Hid ((-B64 a + B64 (-1)).toInt = n0) := Lib.hid (by rw [hn0, flipV, neg_less])
    clear hn0
    go_enter Try.func17, Try.ntmps17
    go_wp2_with fail
    refine (cells_any a _).mono ?_
    rintro e w1 ⟨rfl, g1⟩
    go_wp2_with fail
    refine (rturned_any _ _).mono ?_
    rintro e w2 ⟨rfl, g2⟩
    go_wp2_with fail
    refine (cells_any (-1) _).mono ?_
    rintro e w3 ⟨rfl, g3⟩
    obtain ⟨m1, hm1⟩ : ∃ m1, m1 = B64 (-1) := ⟨_, rfl⟩
    rw [← hm1] at HS ⊢
    clear hm1
    go_wp2_with fail
    refine (plus_any _ _ _).mono ?_
    rintro e w4 ⟨rfl, g4⟩
    go_wp2_with fail
    refine (rnumber_c _ _ _ HS.out).mono ?_
    rintro e w5 ⟨rfl, g5⟩
    go_wp2_with fail
    go_ret
    have s1 := g1.size
    have s2 := g2.size
    have s3 := g3.size
    have s4 := g4.size
    exact ⟨rfl, (((g1.trans (g2.mono s1)).trans (g3.mono (by omega))).trans (g4.mono (by omega))).trans (g5.mono (by omega))⟩
  have t1 : (op == 17) = false := by rw [beq_eq_false_iff_ne]; exact h1
  have t2 : (op == 18) = false := by rw [beq_eq_false_iff_ne]; exact h2
  have hu : unV op a = if op = 19 then oneV (a == 0) else 0 := by unfold unV; rw [if_neg h1, if_neg h2]
  rw [hu]
  clear h1 h2 hu
  by_cases h3 : op = 19
  · subst h3
    rw [if_pos rfl]
    clear t1 t2
    go_enter Try.func17, Try.ntmps17
    go_wp2_with (go_at_call 30; refine (rone_any _ _).mono ?_; rintro e w1 ⟨rfl, rfl⟩)
    go_ret
    exact ⟨rfl, Below.refl _ _⟩
  · rw [if_neg h3]
    have t3 : (op == 19) = false := by rw [beq_eq_false_iff_ne]; exact h3
    clear h3
    go_enter Try.func17, Try.ntmps17
    go_wp2_with fail
    go_ret
    exact ⟨rfl, Below.refl _ _⟩
end Go.Proofs.Ytonpbbflloljgaa
