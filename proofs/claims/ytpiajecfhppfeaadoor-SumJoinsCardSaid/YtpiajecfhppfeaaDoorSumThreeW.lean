/-
  The walk of the law SumThree: three joins of any lengths come to the same, whichever two are joined first.
-/
import Derived.Test.YtpiajecfhppfeaaDoorSumL
import Derived.Test.YtpiajecfhppfeaaDoorPick
namespace Go.Proofs.YtpiajecfhppfeaaDoor
open Go.RowKit

theorem cast_beq_true {a b : Nat} (h : a = b) : ((a : Int) == (b : Int)) = true := by subst h; simp

set_option maxHeartbeats 800000 in
theorem sumThree_any (a b c : Nat) (n m : Int) (w : World) (ha : a < 2 ^ 32) (hb : b < 2 ^ 32) (hc : c < 2 ^ 32) (_hn1 : -9223372036854775808 ≤ n) (_hn2 : n ≤ 9223372036854775807) (_hm1 : -9223372036854775808 ≤ m) (_hm2 : m ≤ 9223372036854775807) (hL : Leaves w) :
    Calls Tryd.prog 8 #[.int .u32 a, .int .u32 b, .int .u32 c, .int .i64 n, .int .i64 m] w fun e w' => e = .returned (.bool true) ∧ Below w.heap.size w w' := by
  have hp := leaves_pos hL
  have HL := Lib.hid hL; clear hL
  go_enter Tryd.func8, Tryd.ntmps8
  go_wp2_with (first | (go_at_call 17; refine (summed_any _ HL.out).mono ?_; rintro e w1 ⟨rfl, hb1⟩; have HL1 := Lib.hid (leaves_below HL.out hb1 hp)) | (go_at_call_of 20 (Value.int .i64 n); refine (pick_any n 549755813888 _ (by omega) (by omega)).mono ?_; rintro e w' ⟨N, hN, rfl, rfl⟩) | (go_at_call_of 20 (Value.int .i64 m); refine (pick_any m 549755813888 _ (by omega) (by omega)).mono ?_; rintro e w' ⟨M, hM, rfl, rfl⟩))
  refine (join_any a b N _ ha hb (by omega) HL1.out).mono ?_
  rintro e w2 ⟨rfl, hb2⟩
  have HL2 := Lib.hid (leaves_below HL1.out hb2 (leaves_pos HL1.out))
  have HX := Lib.hid (Crc.join_three a b c N M)
  have hx1 := Crc.join_lt a b N ha hb
  generalize Crc.join a b N = x1 at *
  go_wp2_with fail
  refine (join_any x1 c M _ hx1 hc (by omega) HL2.out).mono ?_
  rintro e w3 ⟨rfl, hb3⟩
  have HL3 := Lib.hid (leaves_below HL2.out hb3 (leaves_pos HL2.out))
  go_wp2_with fail
  refine (join_any b c M _ hb hc (by omega) HL3.out).mono ?_
  rintro e w4 ⟨rfl, hb4⟩
  have HL4 := Lib.hid (leaves_below HL3.out hb4 (leaves_pos HL3.out))
  have hx2 := Crc.join_lt b c M hb hc
  generalize Crc.join b c M = x2 at *
  go_wp2_with fail
  have en : ((N : Int) + (M : Int)) = ((N + M : Nat) : Int) := by omega
  rw [en]
  refine (join_any a x2 (N + M) _ ha hx2 (by omega) HL4.out).mono ?_
  rintro e w5 ⟨rfl, hb5⟩
  have ht := cast_beq_true HX.out
  clear en
  go_wp2_with fail
  go_ret
  exact ⟨rfl, (((hb1.trans (hb2.mono hb1.size)).trans (hb3.mono (Nat.le_trans hb1.size hb2.size))).trans (hb4.mono (Nat.le_trans (Nat.le_trans hb1.size hb2.size) hb3.size))).trans (hb5.mono (Nat.le_trans (Nat.le_trans (Nat.le_trans hb1.size hb2.size) hb3.size) hb4.size))⟩
end Go.Proofs.YtpiajecfhppfeaaDoor
