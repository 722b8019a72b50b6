/-
  The walk of the law VaryShort: seven bits a byte, and no more bytes of a smaller number.
-/
import Derived.Test.YtdjhbepocleehaaVaryApartW
namespace Go.Proofs.Ytdjhbepocleehaa
open Go.RowKit

theorem enc_mono (a b : Nat) (h : a ≤ b) : (Vy.enc a).length ≤ (Vy.enc b).length := by
  induction b using Nat.strongRecOn generalizing a with
  | ind b ih =>
    by_cases h1 : a < 128
    · rw [Vy.enc_small h1]; exact Vy.enc_len_pos b
    · rw [Vy.enc_big h1, Vy.enc_big (show ¬ b < 128 by omega), List.length_cons, List.length_cons]
      have := ih (b / 128) (by omega) (a / 128) (Nat.div_le_div_right h)
      omega
theorem enc_len_step (m : Nat) (h : 0 < m) : (Vy.enc m).length = 1 + (if m / 128 = 0 then 0 else (Vy.enc (m / 128)).length) := by
  by_cases h1 : m < 128
  · rw [if_pos (by omega), Vy.enc_small h1]; rfl
  · rw [if_neg (by omega), Vy.enc_big h1, List.length_cons]; omega

set_option maxRecDepth 100000 in
set_option maxHeartbeats 1600000 in
theorem varyShort_of (C : VaryC) (a b : Nat) (w : World) (ha : a < 2 ^ 64) (hb : b < 2 ^ 64) :
    Calls Try.prog 6 #[.int .u64 a, .int .u64 b] w fun e w' => e = .returned (.bool true) ∧ Below w.heap.size w w' := by
  have HC := Lib.hid C
  have hl10 := Vy.enc_len10 a ha
  obtain ⟨L, hL⟩ : ∃ L, L = (Vy.enc a).length := ⟨_, rfl⟩
  rw [← hL] at hl10
  have HSt : Hid (L = 1 + (if a / 128 = 0 then 0 else (Vy.enc (a / 128)).length)) := Lib.hid (by
    rw [hL]
    rcases Nat.eq_zero_or_pos a with rfl | h
    · rw [Vy.enc_small (by decide)]; rfl
    · exact enc_len_step a h)
  have HLa : Hid ((txt (Vy.enc a)).size = L) := Lib.hid (by rw [txt_size, hL])
  have HLb : Hid (a ≤ b → L ≤ (txt (Vy.enc b)).size) := Lib.hid (fun h => by rw [txt_size, hL]; exact enc_mono a b h)
  have HMb := Lib.hid (txt_enc_max b hb)
  clear hL
  go_enter Try.func6, Try.ntmps6
  go_wp2_with fail
  refine (varied_any HC.out _).mono ?_
  rintro e w1 ⟨rfl, hb1⟩
  go_wp2_with fail
  go_loop [5, 6] (fun k n => ∃ j m : Nat, n = .int .u64 m ∧ k = .int .i64 j ∧ m < 2 ^ 64 ∧ L = j + (if m = 0 then 0 else (Vy.enc m).length)) (fun _ n => (intOf n).toNat)
  case atStart => exact ⟨1, a / 128, rfl, rfl, by omega, HSt.out⟩
  case round =>
    obtain ⟨j, m, rfl, rfl, hm, hrel⟩ := hrel
    by_cases h0 : 0 < m
    · have hj : j < 10 := by
        rw [if_neg (by omega)] at hrel
        have := Vy.enc_len_pos m
        omega
      have HN : Hid (L = j + 1 + (if m / 128 = 0 then 0 else (Vy.enc (m / 128)).length)) := Lib.hid (by
        rw [if_neg (by omega), enc_len_step m h0] at hrel
        omega)
      clear hrel
      go_wp2_with fail
      go_round
      case rel => exact ⟨j + 1, m / 128, by go_num, by go_num, by omega, HN.out⟩
      case measure => simp [intOf]; omega
    · obtain rfl : j = L := by rw [if_pos (by omega)] at hrel; omega
      clear hrel HSt
      obtain ⟨t, ht⟩ : ∃ t, t = txt (Vy.enc a) := ⟨_, rfl⟩
      rw [← ht] at HLa
      obtain ⟨u, hu⟩ : ∃ u, u = txt (Vy.enc b) := ⟨_, rfl⟩
      rw [← hu] at HLb HMb
      have HT := Lib.hid ht
      have HU := Lib.hid hu
      clear ht hu
      have htq : (((t.size : Nat) : Int) == (j : Int)) = true := by rw [HLa.out]; simp
      have htq2 : t.size = j := HLa.out
      by_cases hab : b < a
      · have hai : (b : Int) < (a : Int) := by omega
        go_wp2_with fail
        refine (HC.out.num a _ ha).mono ?_
        rintro e w2 ⟨rfl, hb2⟩
        rw [← HT.out]
        go_wp2_with fail
        go_ret
        exact ⟨rfl, hb1.trans (hb2.mono hb1.size)⟩
      · have hle := HLb.out (by omega)
        have hai : ¬ (b : Int) < (a : Int) := by omega
        have hub := HMb.out
        unfold maxLen at hub
        have hji : (j : Int) ≤ (u.size : Int) := by omega
        go_wp2_with fail
        refine (HC.out.num a _ ha).mono ?_
        rintro e w2 ⟨rfl, hb2⟩
        rw [← HT.out]
        go_wp2_with fail
        refine (HC.out.num b _ hb).mono ?_
        rintro e w3 ⟨rfl, hb3⟩
        rw [← HU.out]
        go_wp2_with fail
        go_ret
        exact ⟨rfl, (hb1.trans (hb2.mono hb1.size)).trans (hb3.mono (Nat.le_trans hb1.size hb2.size))⟩
end Go.Proofs.Ytdjhbepocleehaa
