/-
  The walk of the law SumTells: the sum of a text, and of one behind another, is the document's.
-/
import Derived.Test.YtpiajecfhppfeaaDoorRefSum3
namespace Go.Proofs.YtpiajecfhppfeaaDoor
open Go.RowKit

theorem refMore_val (c : Nat) (s : ByteArray) : Crc.steps (8 * s.size) (leB (bitsB (bs s)) ^^^ (c ^^^ Crc.F)) ^^^ Crc.F = Crc.more c (bs s) := by
  rw [leB_bitsB _ (bs_bytes s), Nat.xor_comm (Crc.le _), ← bs_length s, ← Crc.fold_is _ (bs_bytes s)]; rfl

set_option maxHeartbeats 800000 in
theorem refMore_any (c : Nat) (s : ByteArray) (w : World) (hc : c < 2 ^ 32) (hs : s.size ≤ 1000) :
    Calls Tryd.prog 13 #[.int .u32 c, .string s] w fun e w' => e = .returned (.int .u32 (Crc.more c (bs s) : Nat)) ∧ Below w.heap.size w w' := by
  have hn := not32 c hc
  have hf : c ^^^ Crc.F < 2 ^ 32 := Nat.xor_lt_two_pow hc (by decide)
  have HV := Lib.hid (refMore_val c s)
  have hml := Crc.more_lt (bs s) (bs_bytes s) c hc
  generalize c ^^^ Crc.F = d at *
  go_enter Tryd.func13, Tryd.ntmps13
  go_wp2_with fail
  refine (bitsOf_any s _ hs).mono ?_
  rintro e w1 ⟨v, rfl, hown, hb1⟩
  have HO := Lib.hid hown
  clear hown
  go_wp2_with fail
  refine (divided_any v (8 * s.size) d w.heap.size (bitsB (bs s)) _ HO.out (by omega) hf).mono ?_
  rintro e w2 ⟨rfl, hb2⟩
  have hq : Crc.steps (8 * s.size) (leB (bitsB (bs s)) ^^^ d) < 2 ^ 32 := by
    have e := HV.out
    have : Crc.steps (8 * s.size) (leB (bitsB (bs s)) ^^^ d) = Crc.more c (bs s) ^^^ Crc.F := by rw [← e, Crc.xor_F_F]
    rw [this]; exact Nat.xor_lt_two_pow hml (by decide)
  generalize Crc.steps (8 * s.size) (leB (bitsB (bs s)) ^^^ d) = r at *
  have hn2 := not32 r hq
  go_wp2_with fail
  go_ret
  exact ⟨ret_u32 HV.out, hb1.trans (hb2.mono hb1.size)⟩

set_option maxHeartbeats 800000 in
theorem refSum_any (s : ByteArray) (w : World) (hs : s.size ≤ 1000) :
    Calls Tryd.prog 11 #[.string s] w fun e w' => e = .returned (.int .u32 (Crc.more 0 (bs s) : Nat)) ∧ Below w.heap.size w w' := by
  go_enter Tryd.func11, Tryd.ntmps11
  go_wp2_with (go_at_call 13; refine (refMore_any 0 s _ (by decide) hs).mono ?_; rintro e w1 ⟨rfl, hb1⟩)
  go_ret
  exact ⟨rfl, hb1⟩

set_option maxHeartbeats 800000 in
theorem sumTells_any (s : ByteArray) (c : Nat) (w : World) (hs : s.size ≤ maxLen) (hc : c < 2 ^ 32) (hL : Leaves w) :
    Calls Tryd.prog 3 #[.string s, .int .u32 c] w fun e w' => e = .returned (.bool true) ∧ Below w.heap.size w w' := by
  have hp := leaves_pos hL
  have HL := Lib.hid hL; clear hL
  have hs3 := hs
  unfold maxLen at hs3
  by_cases h : 300 < s.size
  · go_enter Tryd.func3, Tryd.ntmps3
    go_wp2_with fail
    go_ret
    exact ⟨rfl, Below.refl _ _⟩
  · go_enter Tryd.func3, Tryd.ntmps3
    go_wp2_with fail
    refine (sum_any s _ hs HL.out).mono ?_
    rintro e w' ⟨rfl, rfl⟩
    go_wp2_with fail
    refine (refSum_any s _ (by omega)).mono ?_
    rintro e w1 ⟨rfl, hb1⟩
    have HL1 := Lib.hid (leaves_below HL.out hb1 hp)
    go_wp2_with fail
    refine (more_any c s _ hc hs HL1.out).mono ?_
    rintro e w' ⟨rfl, rfl⟩
    go_wp2_with fail
    refine (refMore_any c s _ hc (by omega)).mono ?_
    rintro e w2 ⟨rfl, hb2⟩
    go_wp2_with fail
    go_ret
    exact ⟨rfl, hb1.trans (hb2.mono hb1.size)⟩
end Go.Proofs.YtpiajecfhppfeaaDoor
