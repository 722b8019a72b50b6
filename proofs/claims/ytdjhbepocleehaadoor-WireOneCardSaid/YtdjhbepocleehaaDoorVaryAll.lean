/-
  The walk of package vary's ReadText; and all of the package's contracts in one bundle.
-/
import Derived.Test.YtdjhbepocleehaaDoorVaryRest
namespace Go.Proofs.YtdjhbepocleehaaDoor
open Go.RowKit

set_option maxRecDepth 100000 in
set_option maxHeartbeats 1600000 in
theorem readText_any (s t : ByteArray) (a rnext re : Nat) (w : World) (hs : s.size ≤ 1000000) (ha : a ≤ s.size) (hR : RT s a t rnext re) :
    Calls Tryd.prog 22 #[.string s, .int .i64 a] w fun e w' => e = .returned (.tuple #[.string t, .int .i64 rnext, errV re]) ∧ Below w.heap.size w w' := by
  have hll : ((bs s).drop a).length = s.size - a := by rw [List.length_drop, bs_length]
  rcases hR with ⟨n, hr, hn, rfl, rfl, rfl⟩ | ⟨hno, rfl, rfl, rfl⟩
  · have hl := hr.len
    rw [hll] at hl
    have HRN : Hid (RN ((bs s).drop a) a n (a + (Vy.enc n).length) 0) := Lib.hid (Or.inl ⟨hr, rfl, rfl⟩)
    generalize (Vy.enc n).length = L at *
    obtain ⟨q, hq⟩ : ∃ q, q = a + L := ⟨_, rfl⟩
    rw [← hq] at HRN hn ⊢
    have hq2 : q ≤ s.size := by omega
    have hnq : q + n ≤ s.size := by omega
    have hng : ¬ (s.size : Int) - (q : Int) < (n : Int) := by omega
    clear hr hl hq hll
    have hx : (s.extract q (q + n)).size ≤ 1000000 := by rw [ByteArray.size_extract]; omega
    go_enter Tryd.func22, Tryd.ntmps22
    go_wp2_with fail
    refine (readNum_any s a n q 0 _ hs ha HRN.out).mono ?_
    rintro e w1 ⟨rfl, hb⟩
    rw [errV_0]
    go_wp2_with fail
    refine (clone_any (s.extract q (q + n)) _ hx).mono ?_
    rintro e w2 ⟨rfl, hb2⟩
    go_wp2_with fail
    go_ret3
    exact ⟨rfl, hb.trans (hb2.mono hb.size)⟩
  · by_cases hex : ∃ n, Reads ((bs s).drop a) n
    · obtain ⟨n, hr⟩ := hex
      have hn := hno n hr
      have hl := hr.len
      rw [hll] at hl
      have HRN : Hid (RN ((bs s).drop a) a n (a + (Vy.enc n).length) 0) := Lib.hid (Or.inl ⟨hr, rfl, rfl⟩)
      have hnlt := hr.1
      generalize (Vy.enc n).length = L at *
      obtain ⟨q, hq⟩ : ∃ q, q = a + L := ⟨_, rfl⟩
      rw [← hq] at HRN hn
      have hq2 : q ≤ s.size := by omega
      have hgt : (s.size : Int) - (q : Int) < (n : Int) := by omega
      clear hr hl hq hll hno
      go_enter Tryd.func22, Tryd.ntmps22
      go_wp2_with fail
      refine (readNum_any s a n q 0 _ hs ha HRN.out).mono ?_
      rintro e w1 ⟨rfl, hb⟩
      rw [errV_0]
      go_wp2_with fail
      go_ret3
      exact ⟨rfl, hb⟩
    · have HRN : Hid (RN ((bs s).drop a) a 0 0 3) := Lib.hid (Or.inr ⟨fun n h => hex ⟨n, h⟩, rfl, rfl, rfl⟩)
      clear hex hno hll
      go_enter Tryd.func22, Tryd.ntmps22
      go_wp2_with fail
      refine (readNum_any s a 0 0 3 _ hs ha HRN.out).mono ?_
      rintro e w1 ⟨rfl, hb⟩
      rw [errV_3]
      go_wp2_with fail
      go_ret3
      exact ⟨rfl, hb⟩

set_option maxRecDepth 100000 in
set_option maxHeartbeats 800000 in
theorem readText_bad_any (s : ByteArray) (a : Int) (w : World) (hs : s.size ≤ 1000000) (ha : a < 0 ∨ (s.size : Int) < a) :
    Calls Tryd.prog 22 #[.string s, .int .i64 a] w fun e w' => e = .returned (.tuple #[.string (txt []), .int .i64 0, errV 2]) ∧ Below w.heap.size w w' := by
  have HB := Lib.hid ha
  clear ha
  go_enter Tryd.func22, Tryd.ntmps22
  go_wp2_with fail
  refine (readNum_bad_any s a _ hs HB.out).mono ?_
  rintro e w1 ⟨rfl, hb⟩
  rw [errV_2]
  go_wp2_with fail
  go_ret3
  exact ⟨rfl, hb⟩

theorem varyC : VaryC where
  num := num_any
  readNum := readNum_any
  readNum_bad := fun s a w h1 _ _ h2 => readNum_bad_any s a w h1 h2
  int := int_any
  readInt := readInt_any
  readInt_bad := fun s a w h1 _ _ h2 => readInt_bad_any s a w h1 h2
  text := text_any
  readText := readText_any
  readText_bad := fun s a w h1 _ _ h2 => readText_bad_any s a w h1 h2
end Go.Proofs.YtdjhbepocleehaaDoor
