/-
  The walk of the law SumBurst, second part: the law itself.
-/
import Derived.Test.YtpiajecfhppfeaaDoorSumBurstW
namespace Go.Proofs.YtpiajecfhppfeaaDoor
open Go.RowKit

theorem turned_empty (s : ByteArray) (at_ : Int) (B : Nat) (w : World) (h0 : s.size = 0) :
    Calls Tryd.prog 19 #[.string s, .int .i64 at_, .int .u32 B] w fun e w' => e = .returned (.string s) ∧ w = w' := by
  have hne : s.toList.isEmpty = true := by
    rw [ByteArray.toList_eq]
    cases h : s.data.toList with
    | nil => rfl
    | cons => have : 0 < s.size := by rw [← bs_length]; simp [bs, h]
              omega
  clear h0
  go_enter Tryd.func19, Tryd.ntmps19
  go_wp2_with fail
  go_ret
  exact ⟨rfl, rfl⟩

set_option maxRecDepth 100000 in
set_option maxHeartbeats 1600000 in
theorem sumBurst_any (s : ByteArray) (at_ : Int) (B : Nat) (w : World) (hs : s.size ≤ maxLen) (_h1 : -9223372036854775808 ≤ at_) (_h2 : at_ ≤ 9223372036854775807) (hB : B < 2 ^ 32) (hL : Leaves w) :
    Calls Tryd.prog 6 #[.string s, .int .i64 at_, .int .u32 B] w fun e w' => e = .returned (.bool true) ∧ Below w.heap.size w w' := by
  have hp := leaves_pos hL
  have HL := Lib.hid hL; clear hL
  unfold maxLen at hs
  by_cases h300 : 300 < s.size
  · have hu : (s.extract 0 300).size ≤ 300 := by rw [ByteArray.size_extract]; omega
    go_enter Tryd.func6, Tryd.ntmps6
    go_wp2_with (first | (go_at_call 17; refine (summed_any _ HL.out).mono ?_; rintro e w1 ⟨rfl, hb1⟩; have HL1 := Lib.hid (leaves_below HL.out hb1 hp)))
    generalize s.extract 0 300 = u at *
    have hum : u.size ≤ maxLen := by unfold maxLen; omega
    by_cases hu0 : u.size = 0
    · refine (turned_empty u at_ B _ hu0).mono ?_
      rintro e w' ⟨rfl, rfl⟩
      clear hu0
      go_wp2_with (go_at_call 10; refine (sum_any u _ hum HL1.out).mono ?_; rintro e w' ⟨rfl, rfl⟩)
      go_ret
      exact ⟨rfl, hb1⟩
    · refine (turned_any u at_ B _ (by omega) (by omega) hB).mono ?_
      rintro e w2 ⟨l, k, i, rfl, htu, hk, hi, hb2⟩
      have HL2 := Lib.hid (leaves_below HL1.out hb2 (leaves_pos HL1.out))
      clear hu0
      by_cases heq : l = bs u
      · have e : txt l = u := by rw [heq, txt_bs]
        rw [e]
        clear e htu heq
        go_wp2_with (go_at_call 10; refine (sum_any u _ hum HL2.out).mono ?_; rintro e w' ⟨rfl, rfl⟩)
        go_ret
        exact ⟨rfl, hb1.trans (hb2.mono hb1.size)⟩
      · have hne : Crc.more 0 l ≠ Crc.more 0 (bs u) := fun h => heq ((Crc.burst (bs u) l (bs_bytes u) htu.2.1 (by rw [htu.1, bs_length]) k i (B % 2 ^ i) (by rw [bs_length]; exact hk) (Nat.mod_lt _ (Nat.two_pow_pos i)) hi htu.2.2).2 h)
        have hbl := bs_txt l htu.2.1
        have hne1 := cast_beq_false hne
        rw [← hbl] at hne1
        have hym : (txt l).size ≤ maxLen := by rw [txt_size, htu.1]; exact hum
        have hyu : txt l ≠ u := fun h => heq (by rw [← hbl, h])
        clear heq hne hbl htu
        generalize txt l = y at *
        have hstr : (y.toList == u.toList) = false := by
          rw [beq_eq_false_iff_ne, ByteArray.toList_eq, ByteArray.toList_eq]
          exact fun h => hyu (ByteArray.ext (Array.toList_inj.1 h))
        clear hyu
        go_wp2_with fail
        refine (sum_any y _ hym HL2.out).mono ?_
        rintro e w' ⟨rfl, rfl⟩
        go_wp2_with fail
        refine (sum_any u _ hum HL2.out).mono ?_
        rintro e w' ⟨rfl, rfl⟩
        go_wp2_with fail
        go_ret
        exact ⟨rfl, hb1.trans (hb2.mono hb1.size)⟩
  · go_enter Tryd.func6, Tryd.ntmps6
    go_wp2_with (first | (go_at_call 17; refine (summed_any _ HL.out).mono ?_; rintro e w1 ⟨rfl, hb1⟩; have HL1 := Lib.hid (leaves_below HL.out hb1 hp)))
    clear hs
    have hum : s.size ≤ maxLen := by unfold maxLen; omega
    by_cases hu0 : s.size = 0
    · refine (turned_empty s at_ B _ hu0).mono ?_
      rintro e w' ⟨rfl, rfl⟩
      clear hu0
      go_wp2_with (go_at_call 10; refine (sum_any s _ hum HL1.out).mono ?_; rintro e w' ⟨rfl, rfl⟩)
      go_ret
      exact ⟨rfl, hb1⟩
    · refine (turned_any s at_ B _ (by omega) (by omega) hB).mono ?_
      rintro e w2 ⟨l, k, i, rfl, htu, hk, hi, hb2⟩
      have HL2 := Lib.hid (leaves_below HL1.out hb2 (leaves_pos HL1.out))
      clear hu0
      by_cases heq : l = bs s
      · have e : txt l = s := by rw [heq, txt_bs]
        rw [e]
        clear e htu heq
        go_wp2_with (go_at_call 10; refine (sum_any s _ hum HL2.out).mono ?_; rintro e w' ⟨rfl, rfl⟩)
        go_ret
        exact ⟨rfl, hb1.trans (hb2.mono hb1.size)⟩
      · have hne : Crc.more 0 l ≠ Crc.more 0 (bs s) := fun h => heq ((Crc.burst (bs s) l (bs_bytes s) htu.2.1 (by rw [htu.1, bs_length]) k i (B % 2 ^ i) (by rw [bs_length]; exact hk) (Nat.mod_lt _ (Nat.two_pow_pos i)) hi htu.2.2).2 h)
        have hbl := bs_txt l htu.2.1
        have hne1 := cast_beq_false hne
        rw [← hbl] at hne1
        have hym : (txt l).size ≤ maxLen := by rw [txt_size, htu.1]; exact hum
        have hyu : txt l ≠ s := fun h => heq (by rw [← hbl, h])
        clear heq hne hbl htu
        generalize txt l = y at *
        have hstr : (y.toList == s.toList) = false := by
          rw [beq_eq_false_iff_ne, ByteArray.toList_eq, ByteArray.toList_eq]
          exact fun h => hyu (ByteArray.ext (Array.toList_inj.1 h))
        clear hyu
        go_wp2_with fail
        refine (sum_any y _ hym HL2.out).mono ?_
        rintro e w' ⟨rfl, rfl⟩
        go_wp2_with fail
        refine (sum_any s _ hum HL2.out).mono ?_
        rintro e w' ⟨rfl, rfl⟩
        go_wp2_with fail
        go_ret
        exact ⟨rfl, hb1.trans (hb2.mono hb1.size)⟩
end Go.Proofs.YtpiajecfhppfeaaDoor
