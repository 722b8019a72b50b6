/-
  The walk of the law SumBack: behind one text two sums are the same just if they were.
-/
import Derived.Test.YtpiajecfhppfeaaDoorSumL
namespace Go.Proofs.YtpiajecfhppfeaaDoor
open Go.RowKit

theorem cast_beq_false {a b : Nat} (h : a ≠ b) : ((a : Int) == (b : Int)) = false := by rw [beq_eq_false_iff_ne]; omega
theorem extract_small (s : ByteArray) (n : Nat) (h : n ≤ 300) : (s.extract 0 n).size ≤ maxLen := by
  unfold maxLen; rw [ByteArray.size_extract]; omega

set_option maxHeartbeats 800000 in
theorem sumBack_any (s : ByteArray) (c d : Nat) (w : World) (hs : s.size ≤ maxLen) (hc : c < 2 ^ 32) (hd : d < 2 ^ 32) (hL : Leaves w) :
    Calls Tryd.prog 9 #[.string s, .int .u32 c, .int .u32 d] w fun e w' => e = .returned (.bool true) ∧ Below w.heap.size w w' := by
  have hp := leaves_pos hL
  have HL := Lib.hid hL; clear hL
  have hs2 := extract_small s 300 (by omega)
  have hs3 := hs
  unfold maxLen at hs3
  by_cases hcd : c = d
  · subst hcd
    go_enter Tryd.func9, Tryd.ntmps9
    go_wp2_with (first | (go_at_call 17; refine (summed_any _ HL.out).mono ?_; rintro e w1 ⟨rfl, hb⟩; have HL2 := Lib.hid (leaves_below HL.out hb hp)) | (go_at_call 12; refine (more_any c _ _ hc (by assumption) HL2.out).mono ?_; rintro e w' ⟨rfl, rfl⟩))
    all_goals (go_ret; exact ⟨rfl, hb⟩)
  · have hE1 := cast_beq_false (fun h => hcd ((Crc.more_inj (bs s) (bs_bytes s) c d hc hd).1 h))
    have hE2 := cast_beq_false (fun h => hcd ((Crc.more_inj (bs (s.extract 0 300)) (bs_bytes _) c d hc hd).1 h))
    have hE3 := cast_beq_false hcd
    go_enter Tryd.func9, Tryd.ntmps9
    go_wp2_with (first | (go_at_call 17; refine (summed_any _ HL.out).mono ?_; rintro e w1 ⟨rfl, hb⟩; have HL2 := Lib.hid (leaves_below HL.out hb hp)) | (go_at_call_of 12 (Value.int .u32 (c : Int)); refine (more_any c _ _ hc (by assumption) HL2.out).mono ?_; rintro e w' ⟨rfl, rfl⟩) | (go_at_call_of 12 (Value.int .u32 (d : Int)); refine (more_any d _ _ hd (by assumption) HL2.out).mono ?_; rintro e w' ⟨rfl, rfl⟩))
    all_goals (go_ret; exact ⟨rfl, hb⟩)
end Go.Proofs.YtpiajecfhppfeaaDoor
