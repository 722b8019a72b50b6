/-
  The walks of the reference's chapter 2, second part: ReadNum.
-/
import Derived.Test.YtdjhbepocleehaaDoorRefVary1
import Derived.Test.YtdjhbepocleehaaDoorVaryD
import Derived.Deep.RegionWith
namespace Go.Proofs.YtdjhbepocleehaaDoor
open Go.RowKit

set_option maxRecDepth 100000 in
set_option maxHeartbeats 1600000 in
theorem refReadNum_any (s : ByteArray) (a rn rnext re : Nat) (w : World) (hs : s.size ≤ 1000000) (ha : a ≤ s.size) (hR : RN ((bs s).drop a) a rn rnext re) :
    Calls Tryd.prog 12 #[.string s, .int .i64 a] w fun e w' => e = .returned (.tuple #[.int .u64 rn, .int .i64 rnext, .int .i64 re]) ∧ Below w.heap.size w w' := by
  have HR := Lib.hid hR
  clear hR
  have hneg : decide ((a : Int) < 0) = false := by simp
  have hgt : decide (s.size < a) = false := by simpa using ha
  go_enter Tryd.func12, Tryd.ntmps12
  go_wp2_with fail
  go_loopw [7] (fun i wr => ∃ k : Nat, k ≤ 10 ∧ a + k ≤ s.size ∧ i = .int .i64 ((k : Int) + 1) ∧ Big ((bs s).drop a) k ∧ Below w.heap.size w wr) (fun i _ => 12 - (intOf i).toNat)
  case atStart => exact ⟨0, by omega, by omega, rfl, Big.zero _, Below.refl _ _⟩
  case round =>
    obtain ⟨k, hk10, hka, rfl, hbig, hb⟩ := hrel
    have HB := Lib.hid hbig
    clear hbig
    have hll : ((bs s).drop a).length = s.size - a := by rw [List.length_drop, bs_length]
    by_cases hk : k < 10
    · by_cases hk2 : a + k < s.size
      · have hget : ((bs s).drop a).getD k 0 = s[a + k].toNat := by rw [← bs_getD s (a + k) hk2]; simp [List.getD_eq_getElem?_getD]
        have HG := Lib.hid hget
        clear hget hll
        by_cases hbyte : 128 ≤ s[a + k].toNat
        · have HBS := Lib.hid (HB.out.succ (by rw [HG.out]; exact hbyte))
          go_wp2_with fail
          go_roundw
          case rel =>
            exact ⟨k + 1, by omega, by omega, by go_num, HBS.out, hb⟩
          case measure => simp [intOf]; omega
        · have hlen : (((bs s).drop a).take (k + 1)).length = k + 1 := by rw [List.length_take, List.length_drop, bs_length]; omega
          have HLEN := Lib.hid hlen
          clear hlen
          go_wp2_with fail
          obtain ⟨wo, hwo⟩ : ∃ wo : World, wo = wr := ⟨_, rfl⟩
          clear hwo
          go_loop [8, 9] (fun v i => ∃ (j : Nat) (x : Int), j ≤ k + 1 ∧ x + 1 = (a : Int) + (j : Int) ∧ i = .int .i64 x ∧ v = .int .u64 ((Vy.val ((((bs s).drop a).take (k + 1)).drop j) % 2 ^ 64 : Nat) : Int)) (fun _ i => (intOf i + 1 - a).toNat)
          case atStart => exact ⟨k + 1, _, Nat.le_refl _, by omega, rfl, by rw [List.drop_of_length_le (by rw [HLEN.out]; exact Nat.le_refl _)]; rfl⟩
          case round =>
            obtain ⟨j, x, hj, hx, rfl, rfl⟩ := hrel
            by_cases hj0 : 0 < j
            · obtain ⟨i, rfl⟩ : ∃ i, j = i + 1 := ⟨j - 1, by omega⟩
              obtain rfl : x = ((a + i : Nat) : Int) := by omega
              clear hx
              generalize hve : Vy.val ((((bs s).drop a).take (k + 1)).drop (i + 1)) % 2 ^ 64 = v
              have hi2 : a + i < s.size := by omega
              have HV := Lib.hid (val_step (((bs s).drop a).take (k + 1)) i v hve (by rw [HLEN.out]; omega))
              have hgi : (((bs s).drop a).take (k + 1)).getD i 0 = s[a + i].toNat := by
                rw [← bs_getD s (a + i) hi2]; simp [List.getD_eq_getElem?_getD, show i < k + 1 by omega]
              rw [hgi] at HV
              clear hve hgi
              go_wp2_with fail
              go_round
              case rel => exact ⟨i, _, by omega, by omega, rfl, by rw [← HV.out]⟩
              case measure => simp [intOf]; omega
            · obtain rfl : j = 0 := by omega
              obtain rfl : x = (a : Int) - 1 := by omega
              clear hx
              have hnn : Vy.val ((((bs s).drop a).take (k + 1)).drop 0) % 2 ^ 64 < 2 ^ 64 := Nat.mod_lt _ (by decide)
              have HF := Lib.hid (RN.found HR.out HB.out (by rw [HG.out]; omega) (show Vy.val (((bs s).drop a).take (k + 1)) % 2 ^ 64 = Vy.val ((((bs s).drop a).take (k + 1)).drop 0) % 2 ^ 64 by rw [List.drop_zero]))
              generalize Vy.val ((((bs s).drop a).take (k + 1)).drop 0) % 2 ^ 64 = nn at *
              have hbx : bs (s.extract a (a + (k + 1))) = ((bs s).drop a).take (k + 1) := by
                rw [bs_extract, List.drop_take]; congr 1; omega
              have hkl := HLEN.out
              rcases HF.out with ⟨he, h1, h2, h3⟩ | ⟨he, h1, h2, h3⟩
              · have hst : ((txt (Vy.enc nn)).toList == (s.extract a (a + (k + 1))).toList) = true := by
                  rw [beq_iff_eq, show txt (Vy.enc nn) = s.extract a (a + (k + 1)) from bs_inj (by rw [bs_txt _ (Vy.enc_bytes nn), hbx, he])]
                have HO : Hid (rn = nn ∧ rnext = a + (k + 1) ∧ re = 0) := Lib.hid ⟨h1, by rw [h2, he, hkl], h3⟩
                clear he h1 h2 h3 hbx hkl
                have hb1 : (a : Int) + ((k : Int) + 1) ≤ (s.size : Int) := by omega
                have hb0 : (a : Int) ≤ (a : Int) + ((k : Int) + 1) := by omega
                have hb3 : (0 : Int) ≤ (a : Int) + ((k : Int) + 1) := by omega
                have hb4 : (0 : Int) ≤ (k : Int) + 1 := by omega
                have hw1 : IntKind.i64.wrap ((a : Int) + ((k : Int) + 1)) = (a : Int) + ((k : Int) + 1) := IntWalk.i64_in _ (by omega)
                have hw2 : ((a : Int) + ((k : Int) + 1)).toNat = a + (k + 1) := by omega
                go_wp2_with fail
                go_region_with (go_at_call 11; refine (refNum_any nn _ hnn).mono ?_; rintro e w' ⟨rfl, hb2⟩)
                clear hw1 hw2
                go_wp2_with fail
                go_ret3
                exact ⟨by rw [HO.out.1, HO.out.2.1, HO.out.2.2]; rfl, hb.drew.trans (hb2.mono hb.size)⟩
              · have hst : ((txt (Vy.enc nn)).toList == (s.extract a (a + (k + 1))).toList) = false := by
                  rw [beq_eq_false_iff_ne]
                  intro hq
                  apply he
                  rw [← bs_txt _ (Vy.enc_bytes nn), ← hbx]
                  congr 1
                  rw [ByteArray.toList_eq, ByteArray.toList_eq] at hq
                  exact ByteArray.ext (Array.toList_inj.1 hq)
                have HO : Hid (rn = 0 ∧ rnext = 0 ∧ re = 3) := Lib.hid ⟨h1, h2, h3⟩
                clear he h1 h2 h3 hbx hkl
                have hb1 : (a : Int) + ((k : Int) + 1) ≤ (s.size : Int) := by omega
                have hb0 : (a : Int) ≤ (a : Int) + ((k : Int) + 1) := by omega
                have hb3 : (0 : Int) ≤ (a : Int) + ((k : Int) + 1) := by omega
                have hb4 : (0 : Int) ≤ (k : Int) + 1 := by omega
                have hw1 : IntKind.i64.wrap ((a : Int) + ((k : Int) + 1)) = (a : Int) + ((k : Int) + 1) := IntWalk.i64_in _ (by omega)
                have hw2 : ((a : Int) + ((k : Int) + 1)).toNat = a + (k + 1) := by omega
                go_wp2_with fail
                go_region_with (go_at_call 11; refine (refNum_any nn _ hnn).mono ?_; rintro e w' ⟨rfl, hb2⟩)
                clear hw1 hw2
                go_wp2_with fail
                go_ret3
                exact ⟨by rw [HO.out.1, HO.out.2.1, HO.out.2.2]; rfl, hb.drew.trans (hb2.mono hb.size)⟩
      · have HN := Lib.hid (HR.out.none HB.out (Or.inr (by rw [hll]; omega)))
        clear hll
        go_wp2_with fail
        go_ret3
        exact ⟨by rw [HN.out.1, HN.out.2.1, HN.out.2.2]; rfl, hb⟩
    · have HN := Lib.hid (HR.out.none HB.out (Or.inl (by omega)))
      clear hll
      go_wp2_with fail
      go_ret3
      exact ⟨by rw [HN.out.1, HN.out.2.1, HN.out.2.2]; rfl, hb⟩

set_option maxRecDepth 100000 in
set_option maxHeartbeats 800000 in
theorem refReadNum_bad (s : ByteArray) (a : Int) (w : World) (ha : a < 0 ∨ (s.size : Int) < a) :
    Calls Tryd.prog 12 #[.string s, .int .i64 a] w fun e w' => e = .returned (.tuple #[.int .u64 0, .int .i64 0, .int .i64 2]) ∧ w = w' := by
  rcases ha with ha | ha
  · go_enter Tryd.func12, Tryd.ntmps12
    go_wp2_with fail
    go_ret3
    exact ⟨rfl, rfl⟩
  · have h0 : ¬ a < 0 := by omega
    go_enter Tryd.func12, Tryd.ntmps12
    go_wp2_with fail
    go_ret3
    exact ⟨rfl, rfl⟩
end Go.Proofs.YtdjhbepocleehaaDoor
