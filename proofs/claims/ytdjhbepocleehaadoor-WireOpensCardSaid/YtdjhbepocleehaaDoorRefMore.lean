/-
  The walks of the reference's More and Sum.
-/
import Derived.Test.YtdjhbepocleehaaDoorRefDiv
namespace Go.Proofs.YtdjhbepocleehaaDoor
open Go.RowKit

theorem refMore_val (c : Nat) (s : ByteArray) : Crc.steps (8 * s.size) (leB (bitsB (bs s)) ^^^ (c ^^^ Crc.F)) ^^^ Crc.F = Crc.more c (bs s) := by
  rw [leB_bitsB _ (bs_bytes s), Nat.xor_comm (Crc.le _), ← bs_length s, ← Crc.fold_is _ (bs_bytes s)]; rfl

set_option maxHeartbeats 800000 in
theorem refMore_any (c : Nat) (s : ByteArray) (w : World) (hc : c < 2 ^ 32) (hs : s.size ≤ 1000) :
    Calls Tryd.prog 41 #[.int .u32 c, .string s] w fun e w' => e = .returned (.int .u32 (Crc.more c (bs s) : Nat)) ∧ Below w.heap.size w w' := by
  have hn := not32 c hc
  have hf : c ^^^ Crc.F < 2 ^ 32 := Nat.xor_lt_two_pow hc (by decide)
  have HV := Lib.hid (refMore_val c s)
  have hml := Crc.more_lt (bs s) (bs_bytes s) c hc
  generalize c ^^^ Crc.F = d at *
  go_enter Tryd.func41, Tryd.ntmps41
  go_wp2_with fail
  refine (bitsOf_any s _ hs).mono ?_
  rintro e w1 ⟨v, rfl, hown, hb1⟩
  have HO := Lib.hid hown
  clear hown
  go_wp2_with fail
  refine (divided_any v (8 * s.size) d w.heap.size (bitsB (bs s)) _ HO.out (by omega) hf).mono ?_
  rintro e w2 ⟨rfl, hb2⟩
  have hq : Crc.steps (8 * s.size) (leB (bitsB (bs s)) ^^^ d) < 2 ^ 32 := by
    have e := HV.out
    have : Crc.steps (8 * s.size) (leB (bitsB (bs s)) ^^^ d) = Crc.more c (bs s) ^^^ Crc.F := by rw [← e, Crc.xor_F_F]
    rw [this]; exact Nat.xor_lt_two_pow hml (by decide)
  generalize Crc.steps (8 * s.size) (leB (bitsB (bs s)) ^^^ d) = r at *
  have hn2 := not32 r hq
  go_wp2_with fail
  go_ret
  exact ⟨ret_u32 HV.out, hb1.trans (hb2.mono hb1.size)⟩

set_option maxHeartbeats 800000 in
theorem refSum_any (s : ByteArray) (w : World) (hs : s.size ≤ 1000) :
    Calls Tryd.prog 26 #[.string s] w fun e w' => e = .returned (.int .u32 (Crc.more 0 (bs s) : Nat)) ∧ Below w.heap.size w w' := by
  go_enter Tryd.func26, Tryd.ntmps26
  go_wp2_with (go_at_call 41; refine (refMore_any 0 s _ (by decide) hs).mono ?_; rintro e w1 ⟨rfl, hb1⟩)
  go_ret
  exact ⟨rfl, hb1⟩

end Go.Proofs.YtdjhbepocleehaaDoor
