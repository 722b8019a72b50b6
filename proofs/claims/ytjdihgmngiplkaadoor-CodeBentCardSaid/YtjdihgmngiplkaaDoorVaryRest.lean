/-
  The walks of package vary's Int and ReadInt.
-/
import Derived.Test.YtjdihgmngiplkaaDoorVaryTx
namespace Go.Proofs.YtjdihgmngiplkaaDoor
open Go.RowKit

set_option maxRecDepth 100000 in
set_option maxHeartbeats 800000 in
theorem int_any (n : Int) (w : World) (h1 : -9223372036854775808 ≤ n) (h2 : n ≤ 9223372036854775807) :
    Calls Tryd.prog 63 #[.int .i64 n] w fun e w' => e = .returned (.string (txt (Vy.enc (zz n)))) ∧ Below w.heap.size w w' := by
  have HZ := Lib.hid (zz_lt n h1 h2)
  by_cases hn : 0 ≤ n
  · go_enter Tryd.func63, Tryd.ntmps63
    go_wp2_with fail
    rw [show (2 * n : Int) = ((zz n : Nat) : Int) by unfold zz; rw [if_pos hn]; omega]
    refine (num_any (zz n) _ HZ.out).mono ?_
    rintro e w1 ⟨rfl, hb⟩
    go_wp2_with fail
    go_ret
    exact ⟨rfl, hb⟩
  · go_enter Tryd.func63, Tryd.ntmps63
    go_wp2_with fail
    rw [show (2 * (-1 - n) + 1 : Int) = ((zz n : Nat) : Int) by unfold zz; rw [if_neg (by omega)]; omega]
    refine (num_any (zz n) _ HZ.out).mono ?_
    rintro e w1 ⟨rfl, hb⟩
    go_wp2_with fail
    go_ret
    exact ⟨rfl, hb⟩

theorem errV_cases (re : Nat) (h : re = 0 ∨ re = 3) : errV re = .nilIface ∨ errV re = .iface 26 (.int .i64 3) := by
  rcases h with rfl | rfl
  · exact Or.inl rfl
  · exact Or.inr rfl
theorem RN.re {l : List Nat} {at_ rn rnext re : Nat} (h : RN l at_ rn rnext re) : re = 0 ∨ (rn = 0 ∧ rnext = 0 ∧ re = 3) := by
  rcases h with ⟨_, _, h⟩ | ⟨_, h⟩
  · exact Or.inl h
  · exact Or.inr h

set_option maxRecDepth 100000 in
set_option maxHeartbeats 800000 in
theorem readInt_any (s : ByteArray) (a rn rnext re : Nat) (w : World) (hs : s.size ≤ 1000000) (ha : a ≤ s.size) (hR : RN ((bs s).drop a) a rn rnext re) (hn : rn < 2 ^ 64) :
    Calls Tryd.prog 145 #[.string s, .int .i64 a] w fun e w' => e = .returned (.tuple #[.int .i64 (uz rn), .int .i64 rnext, errV re]) ∧ Below w.heap.size w w' := by
  rcases hR.re with h0 | ⟨rfl, rfl, rfl⟩
  · subst h0
    rcases Nat.mod_two_eq_zero_or_one rn with h | h
    · have ht : ((rn : Int) % 2 == 1) = false := by rw [beq_eq_false_iff_ne]; omega
      have HU : Hid (((rn / 2 : Nat) : Int) = uz rn) := Lib.hid (by unfold uz; rw [if_neg (by omega)])
      clear h
      go_enter Tryd.func145, Tryd.ntmps145
      go_wp2_with fail
      refine (readNum_any s a rn rnext 0 _ hs ha hR).mono ?_
      rintro e w1 ⟨rfl, hb⟩
      rw [errV_0]
      go_wp2_with fail
      go_ret3
      exact ⟨by rw [← HU.out]; rfl, hb⟩
    · have ht : ((rn : Int) % 2 == 1) = true := by rw [beq_iff_eq]; omega
      have HU : Hid (-1 - ((rn / 2 : Nat) : Int) = uz rn) := Lib.hid (by unfold uz; rw [if_pos h]; omega)
      clear h
      go_enter Tryd.func145, Tryd.ntmps145
      go_wp2_with fail
      refine (readNum_any s a rn rnext 0 _ hs ha hR).mono ?_
      rintro e w1 ⟨rfl, hb⟩
      rw [errV_0]
      go_wp2_with fail
      go_ret3
      exact ⟨by rw [← HU.out]; rfl, hb⟩
  · go_enter Tryd.func145, Tryd.ntmps145
    go_wp2_with fail
    refine (readNum_any s a 0 0 3 _ hs ha hR).mono ?_
    rintro e w1 ⟨rfl, hb⟩
    rw [errV_3]
    go_wp2_with fail
    go_ret3
    exact ⟨rfl, hb⟩
set_option maxRecDepth 100000 in
set_option maxHeartbeats 800000 in
theorem readInt_bad_any (s : ByteArray) (a : Int) (w : World) (hs : s.size ≤ 1000000) (ha : a < 0 ∨ (s.size : Int) < a) :
    Calls Tryd.prog 145 #[.string s, .int .i64 a] w fun e w' => e = .returned (.tuple #[.int .i64 0, .int .i64 0, errV 2]) ∧ Below w.heap.size w w' := by
  have HB := Lib.hid ha
  clear ha
  go_enter Tryd.func145, Tryd.ntmps145
  go_wp2_with fail
  refine (readNum_bad_any s a _ hs HB.out).mono ?_
  rintro e w1 ⟨rfl, hb⟩
  rw [errV_2]
  go_wp2_with fail
  go_ret3
  exact ⟨rfl, hb⟩

end Go.Proofs.YtjdihgmngiplkaaDoor
