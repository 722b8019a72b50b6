/-
  The walks of the reference's chapter 2, third part: Int, ReadInt, Text, ReadText.
-/
import Derived.Test.YtdjhbepocleehaaDoorRefVary2
namespace Go.Proofs.YtdjhbepocleehaaDoor
open Go.RowKit

set_option maxRecDepth 100000 in
set_option maxHeartbeats 800000 in
theorem refInt_any (n : Int) (w : World) (h1 : -9223372036854775808 ≤ n) (h2 : n ≤ 9223372036854775807) :
    Calls Tryd.prog 16 #[.int .i64 n] w fun e w' => e = .returned (.string (txt (Vy.enc (zz n)))) ∧ Below w.heap.size w w' := by
  have HZ := Lib.hid (zz_lt n h1 h2)
  by_cases hn : 0 ≤ n
  · go_enter Tryd.func16, Tryd.ntmps16
    go_wp2_with fail
    rw [show (2 * n : Int) = ((zz n : Nat) : Int) by unfold zz; rw [if_pos hn]; omega]
    refine (refNum_any (zz n) _ HZ.out).mono ?_
    rintro e w1 ⟨rfl, hb⟩
    go_wp2_with fail
    go_ret
    exact ⟨rfl, hb⟩
  · go_enter Tryd.func16, Tryd.ntmps16
    go_wp2_with fail
    rw [show (2 * -(n + 1) + 1 : Int) = ((zz n : Nat) : Int) by unfold zz; rw [if_neg (by omega)]; omega]
    refine (refNum_any (zz n) _ HZ.out).mono ?_
    rintro e w1 ⟨rfl, hb⟩
    go_wp2_with fail
    go_ret
    exact ⟨rfl, hb⟩

set_option maxRecDepth 100000 in
set_option maxHeartbeats 800000 in
theorem refText_any (s : ByteArray) (w : World) (hs : s.size ≤ 1000000) :
    Calls Tryd.prog 20 #[.string s] w fun e w' => e = .returned (.string (txt (Vy.enc s.size) ++ s)) ∧ Below w.heap.size w w' := by
  have ht : (txt (Vy.enc s.size)).size ≤ 10 := by rw [txt_size]; exact Vy.enc_len10 _ (by omega)
  go_enter Tryd.func20, Tryd.ntmps20
  go_wp2_with fail
  refine (refNum_any s.size _ (by omega)).mono ?_
  rintro e w1 ⟨rfl, hb⟩
  generalize hte : txt (Vy.enc s.size) = t at *
  have HTE := Lib.hid hte
  clear hte
  go_wp2_with fail
  go_ret
  exact ⟨by rw [HTE.out]; rfl, hb⟩

set_option maxRecDepth 100000 in
set_option maxHeartbeats 800000 in
theorem refReadInt_any (s : ByteArray) (a rn rnext re : Nat) (w : World) (hs : s.size ≤ 1000000) (ha : a ≤ s.size) (hR : RN ((bs s).drop a) a rn rnext re) (hn : rn < 2 ^ 64) :
    Calls Tryd.prog 17 #[.string s, .int .i64 a] w fun e w' => e = .returned (.tuple #[.int .i64 (uz rn), .int .i64 rnext, .int .i64 re]) ∧ Below w.heap.size w w' := by
  rcases Nat.mod_two_eq_zero_or_one rn with h | h
  · have ht : ((rn : Int) % 2 == 1) = false := by rw [beq_eq_false_iff_ne]; omega
    have HU : Hid (((rn / 2 : Nat) : Int) = uz rn) := Lib.hid (by unfold uz; rw [if_neg (by omega)])
    clear h
    go_enter Tryd.func17, Tryd.ntmps17
    go_wp2_with fail
    refine (refReadNum_any s a rn rnext re _ hs ha hR).mono ?_
    rintro e w1 ⟨rfl, hb⟩
    go_wp2_with fail
    go_ret3
    exact ⟨by rw [← HU.out]; rfl, hb⟩
  · have ht : ((rn : Int) % 2 == 1) = true := by rw [beq_iff_eq]; omega
    have HU : Hid (-((rn / 2 : Nat) : Int) - 1 = uz rn) := Lib.hid (by unfold uz; rw [if_pos h])
    clear h
    go_enter Tryd.func17, Tryd.ntmps17
    go_wp2_with fail
    refine (refReadNum_any s a rn rnext re _ hs ha hR).mono ?_
    rintro e w1 ⟨rfl, hb⟩
    go_wp2_with fail
    go_ret3
    exact ⟨by rw [← HU.out]; rfl, hb⟩

set_option maxRecDepth 100000 in
set_option maxHeartbeats 1600000 in
theorem refReadText_any (s t : ByteArray) (a rnext re : Nat) (w : World) (hs : s.size ≤ 1000000) (ha : a ≤ s.size) (hR : RT s a t rnext re) :
    Calls Tryd.prog 21 #[.string s, .int .i64 a] w fun e w' => e = .returned (.tuple #[.string t, .int .i64 rnext, .int .i64 re]) ∧ Below w.heap.size w w' := by
  have hll : ((bs s).drop a).length = s.size - a := by rw [List.length_drop, bs_length]
  rcases hR with ⟨n, hr, hn, rfl, rfl, rfl⟩ | ⟨hno, rfl, rfl, rfl⟩
  · have hl := hr.len
    rw [hll] at hl
    have HRN : Hid (RN ((bs s).drop a) a n (a + (Vy.enc n).length) 0) := Lib.hid (Or.inl ⟨hr, rfl, rfl⟩)
    generalize (Vy.enc n).length = L at *
    obtain ⟨q, hq⟩ : ∃ q, q = a + L := ⟨_, rfl⟩
    rw [← hq] at HRN hn ⊢
    have hq2 : q ≤ s.size := by omega
    have hnq : q + n ≤ s.size := by omega
    clear hr hl hq hll
    go_enter Tryd.func21, Tryd.ntmps21
    go_wp2_with fail
    refine (refReadNum_any s a n q 0 _ hs ha HRN.out).mono ?_
    rintro e w1 ⟨rfl, hb⟩
    go_wp2_with fail
    go_ret3
    exact ⟨rfl, hb⟩
  · by_cases hex : ∃ n, Reads ((bs s).drop a) n
    · obtain ⟨n, hr⟩ := hex
      have hn := hno n hr
      have hl := hr.len
      rw [hll] at hl
      have HRN : Hid (RN ((bs s).drop a) a n (a + (Vy.enc n).length) 0) := Lib.hid (Or.inl ⟨hr, rfl, rfl⟩)
      have hnlt := hr.1
      generalize (Vy.enc n).length = L at *
      obtain ⟨q, hq⟩ : ∃ q, q = a + L := ⟨_, rfl⟩
      rw [← hq] at HRN hn
      have hq2 : q ≤ s.size := by omega
      clear hr hl hq hll hno
      by_cases hbig : 2147483647 < n
      · have hbi : (2147483647 : Int) < (n : Int) := by omega
        go_enter Tryd.func21, Tryd.ntmps21
        go_wp2_with fail
        refine (refReadNum_any s a n q 0 _ hs ha HRN.out).mono ?_
        rintro e w1 ⟨rfl, hb⟩
        go_wp2_with fail
        go_ret3
        exact ⟨rfl, hb⟩
      · have hbi : ¬ (2147483647 : Int) < (n : Int) := by omega
        have hgt : (s.size : Int) - (q : Int) < (n : Int) := by omega
        clear hnlt
        go_enter Tryd.func21, Tryd.ntmps21
        go_wp2_with fail
        refine (refReadNum_any s a n q 0 _ hs ha HRN.out).mono ?_
        rintro e w1 ⟨rfl, hb⟩
        go_wp2_with fail
        go_ret3
        exact ⟨rfl, hb⟩
    · have HRN : Hid (RN ((bs s).drop a) a 0 0 3) := Lib.hid (Or.inr ⟨fun n h => hex ⟨n, h⟩, rfl, rfl, rfl⟩)
      clear hex hno hll
      go_enter Tryd.func21, Tryd.ntmps21
      go_wp2_with fail
      refine (refReadNum_any s a 0 0 3 _ hs ha HRN.out).mono ?_
      rintro e w1 ⟨rfl, hb⟩
      go_wp2_with fail
      go_ret3
      exact ⟨rfl, hb⟩

set_option maxRecDepth 100000 in
set_option maxHeartbeats 800000 in
theorem refReadInt_bad (s : ByteArray) (a : Int) (w : World) (ha : a < 0 ∨ (s.size : Int) < a) :
    Calls Tryd.prog 17 #[.string s, .int .i64 a] w fun e w' => e = .returned (.tuple #[.int .i64 0, .int .i64 0, .int .i64 2]) ∧ w = w' := by
  have HB := Lib.hid ha
  clear ha
  go_enter Tryd.func17, Tryd.ntmps17
  go_wp2_with fail
  refine (refReadNum_bad s a _ HB.out).mono ?_
  rintro e w1 ⟨rfl, rfl⟩
  go_wp2_with fail
  go_ret3
  exact ⟨rfl, rfl⟩
set_option maxRecDepth 100000 in
set_option maxHeartbeats 800000 in
theorem refReadText_bad (s : ByteArray) (a : Int) (w : World) (ha : a < 0 ∨ (s.size : Int) < a) :
    Calls Tryd.prog 21 #[.string s, .int .i64 a] w fun e w' => e = .returned (.tuple #[.string (txt []), .int .i64 0, .int .i64 2]) ∧ w = w' := by
  have HB := Lib.hid ha
  clear ha
  go_enter Tryd.func21, Tryd.ntmps21
  go_wp2_with fail
  refine (refReadNum_bad s a _ HB.out).mono ?_
  rintro e w1 ⟨rfl, rfl⟩
  go_wp2_with fail
  go_ret3
  exact ⟨rfl, rfl⟩
end Go.Proofs.YtdjhbepocleehaaDoor
