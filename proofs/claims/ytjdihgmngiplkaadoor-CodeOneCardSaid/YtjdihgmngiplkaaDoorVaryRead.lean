/-
  The walk of package vary's ReadNum.
-/
import Derived.Test.YtjdihgmngiplkaaDoorVaryNum
import Derived.Test.YtjdihgmngiplkaaDoorVaryRD
import Derived.Deep.RegionWith
namespace Go.Proofs.YtjdihgmngiplkaaDoor
open Go.RowKit

set_option maxRecDepth 100000 in
set_option maxHeartbeats 800000 in
theorem readNum_bad_any (s : ByteArray) (a : Int) (w : World) (_hs : s.size ≤ 1000000) (ha : a < 0 ∨ (s.size : Int) < a) :
    Calls Tryd.prog 100 #[.string s, .int .i64 a] w fun e w' => e = .returned (.tuple #[.int .u64 0, .int .i64 0, errV 2]) ∧ Below w.heap.size w w' := by
  rw [errV_2]
  rcases ha with ha | ha
  · go_enter Tryd.func100, Tryd.ntmps100
    go_wp2_with fail
    go_ret3
    exact ⟨rfl, Below.refl _ _⟩
  · have h0 : ¬ a < 0 := by omega
    go_enter Tryd.func100, Tryd.ntmps100
    go_wp2_with fail
    go_ret3
    exact ⟨rfl, Below.refl _ _⟩

theorem run_min10 (n a : Nat) (h : a ≤ n) : ∃ m : Nat, m ≤ 10 ∧ a + m ≤ n ∧ (m = 10 ∨ a + m = n) ∧
    ∀ W : World, (Builtin.min_ #[3, 3] 3 #[.int .i64 10, .int .i64 ((n : Int) - (a : Int))]).run Tryd.prog W = .ok (.int .i64 m) W := by
  refine ⟨min 10 (n - a), by omega, by omega, by omega, fun W => ?_⟩
  simp [Builtin.min_, Builtin.min2]
  omega

set_option maxRecDepth 100000 in
set_option maxHeartbeats 1600000 in
theorem readNum_any (s : ByteArray) (a rn rnext re : Nat) (w : World) (hs : s.size ≤ 1000000) (ha : a ≤ s.size) (hR : RN ((bs s).drop a) a rn rnext re) :
    Calls Tryd.prog 100 #[.string s, .int .i64 a] w fun e w' => e = .returned (.tuple #[.int .u64 rn, .int .i64 rnext, errV re]) ∧ Below w.heap.size w w' := by
  have HR := Lib.hid hR
  clear hR
  have hneg : decide ((a : Int) < 0) = false := by simp
  have hgt : decide (s.size < a) = false := by simpa using ha
  have hll : ((bs s).drop a).length = s.size - a := by rw [List.length_drop, bs_length]
  have HBY : Hid (Crc.Bytes ((bs s).drop a)) := Lib.hid fun b hb => bs_bytes s b (List.mem_of_mem_drop hb)
  obtain ⟨M, hM1, hM2, hM3, hmin⟩ := run_min10 s.size a ha
  go_enter Tryd.func100, Tryd.ntmps100
  go_wp2_with fail
  clear hmin
  go_loopw [7, 24] (fun v i wr => ∃ k : Nat, k ≤ M ∧ i = .int .i64 k ∧ v = .int .u64 (Vy.val (((bs s).drop a).take k) : Nat) ∧ Big ((bs s).drop a) k ∧ Below w.heap.size w wr) (fun _ i _ => 12 - (intOf i).toNat)
  case atStart => exact ⟨0, by omega, rfl, rfl, Big.zero _, Below.refl _ _⟩
  case round =>
    obtain ⟨k, hkM, rfl, rfl, hbig, hb⟩ := hrel
    by_cases hk : k < M
    · have hak : a + k < s.size := by omega
      have hget : ((bs s).drop a).getD k 0 = s[a + k].toNat := by rw [← bs_getD s (a + k) hak]; simp [List.getD_eq_getElem?_getD]
      have hkl : k < ((bs s).drop a).length := by omega
      have hc : s[a + k].toNat < 256 := s[a + k].toNat_lt
      by_cases hk9 : k = 9
      · subst hk9
        by_cases h9 : 1 < s[a + 9].toNat
        · have HN : Hid (rn = 0 ∧ rnext = 0 ∧ re = 3) := by
            by_cases h128 : s[a + 9].toNat < 128
            · exact Lib.hid (HR.out.bad hbig hkl (by rw [hget]; exact h128) (Or.inl ⟨rfl, by rw [hget]; exact h9⟩))
            · exact Lib.hid (HR.out.none (hbig.succ (by rw [hget]; omega)) (Or.inl (by omega)))
          have h92i : (1 : Int) < (s[a + 9].toNat : Int) := by omega
          clear hget hkl hbig hll
          go_wp2_with fail
          go_ret3
          exact ⟨by rw [HN.out.1, HN.out.2.1, HN.out.2.2]; rfl, hb⟩
        · have hor := acc_u64 ((bs s).drop a) 9 s[a + 9].toNat hkl hget hc (by omega) (by omega)
          by_cases hz : s[a + 9].toNat = 0
          · have HN := Lib.hid (HR.out.bad hbig hkl (by rw [hget]; omega) (Or.inr ⟨by rw [hget]; exact hz, by omega⟩))
            generalize hv : Vy.val (((bs s).drop a).take 9) = v at *
            clear hor hbig hget hkl hll hv
            go_wp2_with fail
            go_ret3
            exact ⟨by rw [HN.out.1, HN.out.2.1, HN.out.2.2]; rfl, hb⟩
          · have hz1 : s[a + 9].toNat = 1 := by omega
            have HN := Lib.hid (HR.out.ok HBY.out hbig hkl (by omega) (by rw [hget]; omega) (by rw [hget]; omega) (by rw [hget]; omega))
            rw [hz1] at hor
            generalize hv2 : Vy.val (((bs s).drop a).take (9 + 1)) = v2 at *
            generalize hv : Vy.val (((bs s).drop a).take 9) = v at *
            have hor2 : bits .or .u64 (v : Int) 9223372036854775808 = (v2 : Int) := hor
            clear hbig hget hkl hll hv hv2 hor
            go_wp2_with fail
            go_ret3
            exact ⟨by rw [HN.out.1, HN.out.2.1, HN.out.2.2]; rfl, hb⟩
      · have hk9i : ¬ (k : Int) = 9 := by omega
        have hor := acc_u64 ((bs s).drop a) k s[a + k].toNat hkl hget hc (by omega) (by omega)
        by_cases h128 : 128 ≤ s[a + k].toNat
        · have HBS := Lib.hid (hbig.succ (by rw [hget]; exact h128))
          generalize hv : Vy.val (((bs s).drop a).take k) = v at *
          have HOR := Lib.hid hor
          clear hor hbig hget hkl hll hv
          go_wp2_with fail
          go_roundw
          case rel => exact ⟨k + 1, by omega, by go_num, by rw [← HOR.out], HBS.out, hb⟩
          case measure => simp [intOf]; omega
        · by_cases hz : s[a + k].toNat = 0 ∧ 0 < k
          · have HN := Lib.hid (HR.out.bad hbig hkl (by rw [hget]; omega) (Or.inr ⟨by rw [hget]; exact hz.1, hz.2⟩))
            obtain ⟨hz0, hz1⟩ := hz
            generalize hv : Vy.val (((bs s).drop a).take k) = v at *
            clear hor hbig hget hkl hll hv
            go_wp2_with fail
            go_ret3
            exact ⟨by rw [HN.out.1, HN.out.2.1, HN.out.2.2]; rfl, hb⟩
          · have HN := Lib.hid (HR.out.ok HBY.out hbig hkl (by omega) (by rw [hget]; omega) (by rw [hget]; omega) (by rw [hget]; omega))
            generalize hv2 : Vy.val (((bs s).drop a).take (k + 1)) = v2 at *
            generalize hv : Vy.val (((bs s).drop a).take k) = v at *
            clear hbig hget hkl hll hv hv2
            go_wp2_with fail
            all_goals (go_ret3; exact ⟨by rw [HN.out.1, HN.out.2.1, HN.out.2.2]; rfl, hb⟩)
    · have HN := Lib.hid (HR.out.none hbig (show 10 ≤ k ∨ ((bs s).drop a).length ≤ k by omega))
      clear hbig hll
      go_wp2_with fail
      go_ret3
      exact ⟨by rw [HN.out.1, HN.out.2.1, HN.out.2.2]; rfl, hb⟩
end Go.Proofs.YtjdihgmngiplkaaDoor
