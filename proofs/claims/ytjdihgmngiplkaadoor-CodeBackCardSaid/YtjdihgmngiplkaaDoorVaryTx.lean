/-
  The walks of package vary's Text and ReadText.
-/
import Derived.Test.YtjdihgmngiplkaaDoorVaryRead
import Derived.Test.YtjdihgmngiplkaaDoorShelf
namespace Go.Proofs.YtjdihgmngiplkaaDoor
open Go.RowKit

set_option maxRecDepth 100000 in
set_option maxHeartbeats 800000 in
theorem text_any (s : ByteArray) (w : World) (hs : s.size ≤ 1000000) :
    Calls Tryd.prog 67 #[.string s] w fun e w' => e = .returned (.string (txt (Vy.enc s.size) ++ s)) ∧ Below w.heap.size w w' := by
  have ht : (txt (Vy.enc s.size)).size ≤ 10 := by rw [txt_size]; exact Vy.enc_len10 _ (by omega)
  go_enter Tryd.func67, Tryd.ntmps67
  go_wp2_with fail
  refine (num_any s.size _ (by omega)).mono ?_
  rintro e w1 ⟨rfl, hb⟩
  generalize hte : txt (Vy.enc s.size) = t at *
  have HTE := Lib.hid hte
  clear hte
  go_wp2_with fail
  go_ret
  exact ⟨by rw [HTE.out]; rfl, hb⟩

set_option maxRecDepth 100000 in
set_option maxHeartbeats 800000 in
theorem clone_any (s : ByteArray) (w : World) (hs : s.size ≤ 1000000) :
    Calls Tryd.prog 144 #[.string s] w fun e w' => e = .returned (.string s) ∧ Below w.heap.size w w' := by
  go_enter Tryd.func144, Tryd.ntmps144
  go_wp2_with fail
  refine (Tryd.stringslite_Clone s _ (by omega)).mono ?_
  rintro e w1 ⟨rfl, hb⟩
  go_wp2_with fail
  go_ret
  exact ⟨rfl, hb⟩
set_option maxRecDepth 100000 in
set_option maxHeartbeats 1600000 in
theorem readText_any (s t : ByteArray) (a rnext re : Nat) (w : World) (hs : s.size ≤ 1000000) (ha : a ≤ s.size) (hR : RT s a t rnext re) :
    Calls Tryd.prog 121 #[.string s, .int .i64 a] w fun e w' => e = .returned (.tuple #[.string t, .int .i64 rnext, errV re]) ∧ Below w.heap.size w w' := by
  have hll : ((bs s).drop a).length = s.size - a := by rw [List.length_drop, bs_length]
  rcases hR with ⟨n, hr, hn, rfl, rfl, rfl⟩ | ⟨hno, rfl, rfl, rfl⟩
  · have hl := hr.len
    rw [hll] at hl
    have HRN : Hid (RN ((bs s).drop a) a n (a + (Vy.enc n).length) 0) := Lib.hid (Or.inl ⟨hr, rfl, rfl⟩)
    generalize (Vy.enc n).length = L at *
    obtain ⟨q, hq⟩ : ∃ q, q = a + L := ⟨_, rfl⟩
    rw [← hq] at HRN hn ⊢
    have hq2 : q ≤ s.size := by omega
    have hnq : q + n ≤ s.size := by omega
    have hng : ¬ (s.size : Int) - (q : Int) < (n : Int) := by omega
    clear hr hl hq hll
    have hx : (s.extract q (q + n)).size ≤ 1000000 := by rw [ByteArray.size_extract]; omega
    go_enter Tryd.func121, Tryd.ntmps121
    go_wp2_with fail
    refine (readNum_any s a n q 0 _ hs ha HRN.out).mono ?_
    rintro e w1 ⟨rfl, hb⟩
    rw [errV_0]
    go_wp2_with fail
    refine (clone_any (s.extract q (q + n)) _ hx).mono ?_
    rintro e w2 ⟨rfl, hb2⟩
    go_wp2_with fail
    go_ret3
    exact ⟨rfl, hb.trans (hb2.mono hb.size)⟩
  · by_cases hex : ∃ n, Reads ((bs s).drop a) n
    · obtain ⟨n, hr⟩ := hex
      have hn := hno n hr
      have hl := hr.len
      rw [hll] at hl
      have HRN : Hid (RN ((bs s).drop a) a n (a + (Vy.enc n).length) 0) := Lib.hid (Or.inl ⟨hr, rfl, rfl⟩)
      have hnlt := hr.1
      generalize (Vy.enc n).length = L at *
      obtain ⟨q, hq⟩ : ∃ q, q = a + L := ⟨_, rfl⟩
      rw [← hq] at HRN hn
      have hq2 : q ≤ s.size := by omega
      have hgt : (s.size : Int) - (q : Int) < (n : Int) := by omega
      clear hr hl hq hll hno
      go_enter Tryd.func121, Tryd.ntmps121
      go_wp2_with fail
      refine (readNum_any s a n q 0 _ hs ha HRN.out).mono ?_
      rintro e w1 ⟨rfl, hb⟩
      rw [errV_0]
      go_wp2_with fail
      go_ret3
      exact ⟨rfl, hb⟩
    · have HRN : Hid (RN ((bs s).drop a) a 0 0 3) := Lib.hid (Or.inr ⟨fun n h => hex ⟨n, h⟩, rfl, rfl, rfl⟩)
      clear hex hno hll
      go_enter Tryd.func121, Tryd.ntmps121
      go_wp2_with fail
      refine (readNum_any s a 0 0 3 _ hs ha HRN.out).mono ?_
      rintro e w1 ⟨rfl, hb⟩
      rw [errV_3]
      go_wp2_with fail
      go_ret3
      exact ⟨rfl, hb⟩

end Go.Proofs.YtjdihgmngiplkaaDoor
