/-
  The facts that the laws of package sum ask first ('summed').
-/
import Derived.Test.YtpiajecfhppfeaaDoorSumW3
namespace Go.Proofs.YtpiajecfhppfeaaDoor
open Go.RowKit

abbrev s1234 : ByteArray := { data := #[49, 50, 51, 52] }
abbrev s56789 : ByteArray := { data := #[53, 54, 55, 56, 57] }
abbrev s1to9 : ByteArray := { data := #[49, 50, 51, 52, 53, 54, 55, 56, 57] }
theorem bs_1234 : bs s1234 = [49, 50, 51, 52] := rfl
theorem bs_56789 : bs s56789 = [53, 54, 55, 56, 57] := rfl
theorem bs_1to9 : bs s1to9 = [49, 50, 51, 52, 53, 54, 55, 56, 57] := rfl
set_option maxRecDepth 10000 in
theorem crc_1234 : Crc.more 0 [49, 50, 51, 52] = 2615402659 := by decide +kernel
set_option maxRecDepth 10000 in
theorem crc_56789 : Crc.more 0 [53, 54, 55, 56, 57] = 320708720 := by decide +kernel
theorem sum_1234 (w : World) (hL : Leaves w) : Calls Tryd.prog 10 #[.string s1234] w fun e w' => e = .returned (.int .u32 2615402659) ∧ w = w' :=
  (sum_any s1234 w (by decide) hL).mono fun _ _ ⟨he, hw⟩ => ⟨by rw [he, bs_1234, crc_1234]; rfl, hw⟩
theorem sum_56789 (w : World) (hL : Leaves w) : Calls Tryd.prog 10 #[.string s56789] w fun e w' => e = .returned (.int .u32 320708720) ∧ w = w' :=
  (sum_any s56789 w (by decide) hL).mono fun _ _ ⟨he, hw⟩ => ⟨by rw [he, bs_56789, crc_56789]; rfl, hw⟩
theorem sum_1to9 (w : World) (hL : Leaves w) : Calls Tryd.prog 10 #[.string s1to9] w fun e w' => e = .returned (.int .u32 3421780262) ∧ w = w' :=
  (sum_any s1to9 w (by decide) hL).mono fun _ _ ⟨he, hw⟩ => ⟨by rw [he, bs_1to9, Crc.known]; rfl, hw⟩
theorem more_4_9 (w : World) (hL : Leaves w) : Calls Tryd.prog 12 #[.int .u32 2615402659, .string s56789] w fun e w' => e = .returned (.int .u32 3421780262) ∧ w = w' :=
  (more_any 2615402659 s56789 w (by decide) (by decide) hL).mono fun _ _ ⟨he, hw⟩ => ⟨by rw [he, bs_56789, ← crc_1234, Crc.known_more]; rfl, hw⟩
theorem join_4_5 (w : World) (hL : Leaves w) : Calls Tryd.prog 15 #[.int .u32 2615402659, .int .u32 320708720, .int .i64 5] w fun e w' => e = .returned (.tuple #[.int .u32 3421780262, .nilIface]) ∧ Below w.heap.size w w' :=
  (join_any 2615402659 320708720 5 w (by decide) (by decide) (by decide) hL).mono fun _ _ ⟨he, hw⟩ => ⟨by rw [he, ← crc_1234, ← crc_56789, Crc.known_join]; rfl, hw⟩

set_option maxHeartbeats 800000 in
theorem summed_any (w : World) (hL : Leaves w) :
    Calls Tryd.prog 17 #[] w fun e w' => e = .returned (.bool true) ∧ Below w.heap.size w w' := by
  have hp := leaves_pos hL
  have HL := Lib.hid hL; clear hL
  go_enter Tryd.func17, Tryd.ntmps17
  go_wp2_with (first | (go_at_call_of 10 (Value.string { data := #[49, 50, 51, 52] }); refine (sum_1234 _ HL.out).mono ?_; rintro e w' ⟨rfl, rfl⟩) | (go_at_call_of 10 (Value.string { data := #[53, 54, 55, 56, 57] }); refine (sum_56789 _ HL.out).mono ?_; rintro e w' ⟨rfl, rfl⟩) | (go_at_call 15; refine (join_4_5 _ HL.out).mono ?_; rintro e w1 ⟨rfl, hb⟩; have HL2 := Lib.hid (leaves_below HL.out hb hp)))
  go_wp2_with (first | (go_at_call_of 10 (Value.string { data := #[49, 50, 51, 52, 53, 54, 55, 56, 57] }); refine (sum_1to9 _ HL2.out).mono ?_; rintro e w' ⟨rfl, rfl⟩) | (go_at_call_of 10 (Value.string { data := #[49, 50, 51, 52] }); refine (sum_1234 _ HL2.out).mono ?_; rintro e w' ⟨rfl, rfl⟩) | (go_at_call 12; refine (more_4_9 _ HL2.out).mono ?_; rintro e w' ⟨rfl, rfl⟩))
  go_ret
  exact ⟨rfl, hb⟩
end Go.Proofs.YtpiajecfhppfeaaDoor
