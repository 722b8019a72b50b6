/-
  The walk of the law SumJoins: the sum of two texts, by theirs and a length, is the document's.
-/
import Derived.Test.YtpiajecfhppfeaaDoorRefSum3
import Derived.Test.YtpiajecfhppfeaaDoorSumThreeW
import Derived.Test.YtpiajecfhppfeaaDoorTell
namespace Go.Proofs.YtpiajecfhppfeaaDoor
open Go.RowKit

theorem madeCells_bools (n : Nat) : madeCells (Value.cells (.bool false)) (n * 1) = (List.replicate n (Value.bool false)).toArray := by
  apply Array.ext
  · rw [size_madeCells]; simp
  · intro i h1 h2
    simp [madeCells, Value.cells, Nat.mod_one]
theorem make_bools (n : Nat) (h : n ≤ 100000) (W : World) :
    (Instr.makeSlice 46 (.int .i64 n) (.int .i64 n)).run Tryd.prog W = .ok (.slice (some ⟨W.heap.size, 0, none⟩) n n) (W.alloc (.cells (List.replicate n (Value.bool false)).toArray 4)) := by
  obtain ⟨i0, hi, hz0, hz1, hz2⟩ := info_parts info_bool
  have := run_make (P := Tryd.prog) W 46 4 i0 (.bool false) Tryd.underlying46 hi hz0 .i64 .i64 n n (by omega) (by omega) (by rw [hz2]; omega) (by omega)
  rw [this]
  simp only [Int.toNat_natCast, hz1, madeCells_bools]
theorem owns_bools (n : Nat) (h : n ≤ 100000) (W : World) :
    (W.alloc (.cells (List.replicate n (Value.bool false)).toArray 4)).ownsRow W.heap.size 4 1 (.slice (some ⟨W.heap.size, 0, none⟩) n n) n ((List.replicate n false).map Value.bool) :=
  ⟨by simp, .inr ⟨W.heap.size, n, _, rfl, Nat.le_refl _, heap_alloc_new _ _, Nat.le_refl _, by unfold maxLen; omega, by simp, by simp⟩⟩

set_option maxRecDepth 100000 in
set_option maxHeartbeats 800000 in
theorem refJoin_any (a b N : Nat) (w : World) (ha : a < 2 ^ 32) (hb : b < 2 ^ 32) (hN : N ≤ 400) :
    Calls Tryd.prog 14 #[.int .u32 a, .int .u32 b, .int .i64 N] w fun e w' => e = .returned (.tuple #[.int .u32 (Crc.join a b N : Nat), .int .i64 0]) ∧ Below w.heap.size w w' := by
  obtain ⟨M, hM⟩ : ∃ M, M = 8 * N := ⟨_, rfl⟩
  have hM8 : M ≤ 3200 := by omega
  have hmk := make_bools M (by omega)
  have HO := Lib.hid (owns_bools M (by omega) w)
  have HV : Hid (Crc.steps M (leB (List.replicate M false) ^^^ a) ^^^ b = Crc.join a b N) := Lib.hid (by rw [leB_zeros, Nat.zero_xor, hM]; rfl)
  have hx := xor32 (Crc.steps M (leB (List.replicate M false) ^^^ a)) b (Crc.steps_lt _ _ (by rw [leB_zeros, Nat.zero_xor]; exact ha)) hb
  have hm : (8 : Int) * (N : Int) = (M : Int) := by omega
  have hwr : IntKind.i64.wrap (8 * (N : Int)) = (M : Int) := by rw [IntWalk.i64_in _ (by omega)]; exact hm
  clear hM
  go_enter Tryd.func14, Tryd.ntmps14
  go_wp2_with fail
  refine (divided_any _ M a w.heap.size (List.replicate M false) _ HO.out (by omega) ha).mono ?_
  rintro e w1 ⟨rfl, hb1⟩
  go_wp2_with fail
  go_ret2
  exact ⟨by rw [← HV.out]; rfl, ((Below.refl _ _).alloc (Nat.le_refl _) _).trans (hb1.mono (by simp))⟩

set_option maxHeartbeats 800000 in
theorem refJoin_bad (a b : Nat) (n : Int) (w : World) (hn : n < 0 ∨ 1099511627776 < n) :
    Calls Tryd.prog 14 #[.int .u32 a, .int .u32 b, .int .i64 n] w fun e w' => e = .returned (.tuple #[.int .u32 0, .int .i64 2]) ∧ w = w' := by
  rcases hn with hn | hn
  · go_enter Tryd.func14, Tryd.ntmps14
    go_wp2_with fail
    go_ret2
    exact ⟨rfl, rfl⟩
  · have h0 : ¬ n < 0 := by omega
    go_enter Tryd.func14, Tryd.ntmps14
    go_wp2_with fail
    go_ret2
    exact ⟨rfl, rfl⟩
set_option maxHeartbeats 800000 in
theorem join_bad (a b : Nat) (n : Int) (w : World) (hn : n < 0 ∨ 1099511627776 < n) :
    Calls Tryd.prog 15 #[.int .u32 a, .int .u32 b, .int .i64 n] w fun e w' => e = .returned (.tuple #[.int .u32 0, .iface 26 (.int .i64 2)]) ∧ w = w' := by
  rcases hn with hn | hn
  · go_enter Tryd.func15, Tryd.ntmps15
    go_wp2_with fail
    go_ret2
    exact ⟨rfl, rfl⟩
  · have h0 : ¬ n < 0 := by omega
    go_enter Tryd.func15, Tryd.ntmps15
    go_wp2_with fail
    go_ret2
    exact ⟨rfl, rfl⟩

set_option maxRecDepth 100000 in
set_option maxHeartbeats 800000 in
theorem sumJoins_any (a b : Nat) (n : Int) (w : World) (ha : a < 2 ^ 32) (hb : b < 2 ^ 32) (_h1 : -9223372036854775808 ≤ n) (_h2 : n ≤ 9223372036854775807) (hL : Leaves w ∧ ErrT w) :
    Calls Tryd.prog 4 #[.int .u32 a, .int .u32 b, .int .i64 n] w fun e w' => e = .returned (.bool true) ∧ Below w.heap.size w w' := by
  have HL := Lib.hid hL.1
  have HE := Lib.hid hL.2
  have hp := leaves_pos hL.1
  have hpe : 1 < w.heap.size := block_lt_of_cell hL.2
  clear hL
  by_cases hbad : n < 0 ∨ 1099511627776 < n
  · rcases hbad with hn | hn
    · go_enter Tryd.func4, Tryd.ntmps4
      go_wp2_with (first | (go_at_call 14; refine (refJoin_bad a b n _ (Or.inl hn)).mono ?_; rintro e w' ⟨rfl, rfl⟩) | (go_at_call 15; refine (join_bad a b n _ (Or.inl hn)).mono ?_; rintro e w' ⟨rfl, rfl⟩) | (go_at_call 16; refine (bare_errno 2 _ HE.out).mono ?_; rintro e w1 ⟨rfl, hb1⟩))
      go_ret
      exact ⟨rfl, hb1⟩
    · have hn4 : (400 : Int) < n := by omega
      have hn5 : ¬ n ≤ 1099511627776 := by omega
      go_enter Tryd.func4, Tryd.ntmps4
      go_wp2_with (first | (go_at_call 14; refine (refJoin_bad a b n _ (Or.inr hn)).mono ?_; rintro e w' ⟨rfl, rfl⟩) | (go_at_call 15; refine (join_bad a b n _ (Or.inr hn)).mono ?_; rintro e w' ⟨rfl, rfl⟩) | (go_at_call 16; refine (bare_errno 2 _ HE.out).mono ?_; rintro e w1 ⟨rfl, hb1⟩))
      go_ret
      exact ⟨rfl, hb1⟩
  · obtain ⟨N, rfl⟩ := Int.eq_ofNat_of_zero_le (show 0 ≤ n by omega)
    by_cases h4 : N ≤ 400
    · have hn4 : ¬ (400 : Int) < (N : Int) := by omega
      go_enter Tryd.func4, Tryd.ntmps4
      go_wp2_with fail
      refine (refJoin_any a b N _ ha hb h4).mono ?_
      rintro e w1 ⟨rfl, hb1⟩
      have HL1 := Lib.hid (leaves_below HL.out hb1 hp)
      go_wp2_with fail
      refine (join_any a b N _ ha hb (by omega) HL1.out).mono ?_
      rintro e w2 ⟨rfl, hb2⟩
      go_wp2_with fail
      refine (bare_nil _).mono ?_
      rintro e w' ⟨rfl, rfl⟩
      go_wp2_with fail
      go_ret
      exact ⟨rfl, hb1.trans (hb2.mono hb1.size)⟩
    · have hn4 : (400 : Int) < (N : Int) := by omega
      have hn5 : (N : Int) ≤ 1099511627776 := by omega
      go_enter Tryd.func4, Tryd.ntmps4
      go_wp2_with fail
      go_ret
      exact ⟨rfl, Below.refl _ _⟩
end Go.Proofs.YtpiajecfhppfeaaDoor
