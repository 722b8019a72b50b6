/-
  The walk of the law SumPieces: the sum of two texts is that of the second one behind the first one, and comes of their sums alone.
-/
import Derived.Test.YtpiajecfhppfeaaDoorSumThreeW
import Derived.Deep.QuietTactic
import Derived.BigQuiet
import Derived.RegionTactic
import Derived.ChangeAlike
import Derived.Test.YtpiajecfhppfeaaDoorSumBackW
namespace Go.Proofs.YtpiajecfhppfeaaDoor
open Go.RowKit

theorem bs_append (a b : ByteArray) : bs (a ++ b) = bs a ++ bs b := by simp [bs]

set_option maxHeartbeats 800000 in
theorem sumPieces_any (s t : ByteArray) (w : World) (hs : s.size ≤ maxLen) (ht : t.size ≤ maxLen) (hL : Leaves w) :
    Calls Tryd.prog 7 #[.string s, .string t] w fun e w' => e = .returned (.bool true) ∧ Below w.heap.size w w' := by
  have hp := leaves_pos hL
  have HL := Lib.hid hL; clear hL
  have hs2 := extract_small s 300 (by omega)
  have ht2 := extract_small t 300 (by omega)
  have hs3 := hs
  have ht3 := ht
  unfold maxLen at hs3 ht3
  go_enter Tryd.func7, Tryd.ntmps7
  go_wp2_with (first | (go_at_call 17; refine (summed_any _ HL.out).mono ?_; rintro e w1 ⟨rfl, hb1⟩; have HL1 := Lib.hid (leaves_below HL.out hb1 hp)))
  go_region
  generalize hz1 : (if (300 : Int) < (s.size : Int) then (300 : Int) else (s.size : Int)) = z1
  generalize hz2 : (if (300 : Int) < (t.size : Int) then (300 : Int) else (t.size : Int)) = z2
  have hk1 : z1.toNat ≤ 300 := by split at hz1 <;> omega
  have hk2 : z2.toNat ≤ 300 := by split at hz2 <;> omega
  have hu : (s.extract 0 z1.toNat).size ≤ 300 := by rw [ByteArray.size_extract]; omega
  have hv : (t.extract 0 z2.toNat).size ≤ 300 := by rw [ByteArray.size_extract]; omega
  clear hz1 hz2 hk1 hk2 hs ht hs2 ht2 hs3 ht3
  generalize s.extract 0 z1.toNat = u at *
  generalize t.extract 0 z2.toNat = v at *
  have HL2 : Hid (Leaves w1.drew) := HL1
  have hb2 : Below w.heap.size w w1.drew := hb1.drew
  clear hb1 HL1
  generalize w1.drew = w2 at *
  have hum : u.size ≤ maxLen := by unfold maxLen; omega
  have hvm : v.size ≤ maxLen := by unfold maxLen; omega
  have HJ := Lib.hid (Crc.join_is (bs u) (bs v) (bs_bytes v))
  have HM := Lib.hid (Crc.more_append 0 (bs u) (bs v))
  rw [bs_length, ← bs_append] at HJ
  rw [← bs_append] at HM
  have hx := Crc.more_lt (bs u) (bs_bytes u) 0 (by omega)
  have hy := Crc.more_lt (bs v) (bs_bytes v) 0 (by omega)
  go_wp2_with fail
  refine (sum_any u _ hum HL2.out).mono ?_
  rintro e w' ⟨rfl, rfl⟩
  go_wp2_with fail
  refine (sum_any v _ hvm HL2.out).mono ?_
  rintro e w' ⟨rfl, rfl⟩
  go_wp2_with fail
  refine (join_any (Crc.more 0 (bs u)) (Crc.more 0 (bs v)) v.size _ hx hy (by omega) HL2.out).mono ?_
  rintro e w3 ⟨rfl, hb3⟩
  have HL3 := Lib.hid (leaves_below HL2.out hb3 (leaves_pos HL2.out))
  have ht1 := cast_beq_true HJ.out
  have ht2 := cast_beq_true HM.out
  go_wp2_with fail
  refine (sum_any (u ++ v) _ (by unfold maxLen; rw [ByteArray.size_append]; omega) HL3.out).mono ?_
  rintro e w' ⟨rfl, rfl⟩
  go_wp2_with fail
  refine (sum_any u _ hum HL3.out).mono ?_
  rintro e w' ⟨rfl, rfl⟩
  go_wp2_with fail
  refine (more_any (Crc.more 0 (bs u)) v _ hx hvm HL3.out).mono ?_
  rintro e w' ⟨rfl, rfl⟩
  go_wp2_with fail
  go_ret
  exact ⟨rfl, hb2.trans (hb3.mono hb2.size)⟩
end Go.Proofs.YtpiajecfhppfeaaDoor
