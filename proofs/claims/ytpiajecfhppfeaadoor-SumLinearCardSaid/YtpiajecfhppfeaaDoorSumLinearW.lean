/-
  The walk of the law SumLinear: of three texts of one length the sum of all three together is their sums together.
-/
import Derived.Test.YtpiajecfhppfeaaDoorSumThreeW
import Derived.Test.YtpiajecfhppfeaaDoorBytes
import Derived.Deep.QuietTactic
import Derived.BigQuiet
import Derived.RegionTactic
import Derived.ChangeAlike
import Derived.Test.YtpiajecfhppfeaaDoorSumBackW
namespace Go.Proofs.YtpiajecfhppfeaaDoor
open Go.RowKit

theorem zip2_take_succ (a b : List Nat) (k n : Nat) (h1 : k < a.length) (h2 : k < b.length) (hn : a.length = n) (hm : b.length = n) :
    ((Crc.zip2 a b).take k ++ zerosL (n - k)).set k (a.getD k 0 ^^^ b.getD k 0) = (Crc.zip2 a b).take (k + 1) ++ zerosL (n - (k + 1)) := by
  have hl : ((Crc.zip2 a b).take k).length = k := by simp [Crc.zip2]; omega
  rw [List.set_append_right _ _ (by omega), hl, Nat.sub_self]
  rw [show zerosL (n - k) = 0 :: zerosL (n - (k + 1)) by unfold zerosL; rw [show n - k = (n - (k + 1)) + 1 by omega, List.replicate_succ]]
  rw [List.set_cons_zero, List.take_succ_eq_append_getElem (by simp [Crc.zip2]; omega), List.append_assoc]
  simp [Crc.zip2, h1, h2]

theorem xor8 (a b : Nat) (ha : a < 256) (hb : b < 256) : bits .xor .u8 (a : Int) (b : Int) = ((a ^^^ b : Nat) : Int) := u8_xor_nat a b ha hb
theorem bs_getD (s : ByteArray) (k : Nat) (h : k < s.size) : (bs s).getD k 0 = s[k].toNat := by
  have hd : k < s.data.size := h
  unfold bs
  rw [List.getD_eq_getElem?_getD, List.getElem?_map, Array.getElem?_toList, Array.getElem?_eq_getElem hd]
  rfl

set_option maxHeartbeats 800000 in
theorem together_any (a b : ByteArray) (w : World) (ha : a.size ≤ 140737488351232) (hab : a.size = b.size) :
    Calls Tryd.prog 18 #[.string a, .string b] w fun e w' => e = .returned (.string (txt (Crc.zip2 (bs a) (bs b)))) ∧ Below w.heap.size w w' := by
  obtain ⟨n, hn⟩ : ∃ n, n = a.size := ⟨_, rfl⟩
  have hn2 : b.size = n := by omega
  have hn1 : a.size = n := hn.symm
  clear hn
  have hnl : n ≤ 140737488351232 := by omega
  clear ha hab
  have hmk := make_bytes n hnl
  go_enter Tryd.func18, Tryd.ntmps18
  go_wp2_with fail
  go_loopw [7] (fun i wr => ∃ k : Nat, k ≤ n ∧ i = .int .i64 k ∧ wr.heap[w.heap.size]? = some (.cells (rowV ((Crc.zip2 (bs a) (bs b)).take k ++ zerosL (n - k))) 5 (0, 0)) ∧ Below w.heap.size w wr) (fun i _ => n - (intOf i).toNat)
  case atStart => exact ⟨0, by omega, rfl, heap_alloc_new _ _, (Below.refl _ _).alloc (Nat.le_refl _) _⟩
  case round =>
    obtain ⟨k, hk, rfl, h1, hb⟩ := hrel
    clear hmk
    by_cases hlt : k < n
    · have hla : k < a.size := by omega
      have hlb : k < b.size := by omega
      have hc := cell_of_row wr w.heap.size k _ _ _ h1
      have hfr := frozen_of_row wr w.heap.size k _ _ h1
      rw [rowV_get _ _ (by simp [Crc.zip2, bs_length, zerosL]; omega)] at hc
      obtain ⟨old, hold⟩ : ∃ old, old = ((Crc.zip2 (bs a) (bs b)).take k ++ zerosL (n - k)).getD k 0 := ⟨_, rfl⟩
      rw [← hold] at hc
      clear hold
      have HS := Lib.hid (zip2_take_succ (bs a) (bs b) k n (by rw [bs_length]; omega) (by rw [bs_length]; omega) (by rw [bs_length]; omega) (by rw [bs_length]; omega))
      rw [bs_getD a k hla, bs_getD b k hlb] at HS
      have hx := xor8 a[k].toNat b[k].toNat a[k].toNat_lt b[k].toNat_lt
      have H1 := Lib.hid h1
      clear h1
      go_wp2_with fail
      go_region
      go_wp2_with fail
      go_roundw
      case rel =>
        refine ⟨k + 1, by omega, by go_num, ?_, (hb.setCell (Nat.le_refl _) _).drew⟩
        rw [heap_drew, heap_setCell_same _ _ _ _ _ _ H1.out, rowV_set, HS.out]
      case measure => simp [intOf]; omega
    · have ek : (Crc.zip2 (bs a) (bs b)).take k ++ zerosL (n - k) = Crc.zip2 (bs a) (bs b) := by
        rw [show n - k = 0 by omega, List.take_of_length_le (by simp [Crc.zip2, bs_length]; omega)]; simp [zerosL]
      rw [ek] at h1
      have hcv := text_of_row h1 (n := n) (by simp [Crc.zip2, bs_length]; omega)
      clear ek h1
      go_wp2_with fail
      go_ret
      exact ⟨rfl, hb⟩

theorem run_min4 (ts : Array TypeId) (t : TypeId) (a b c : Nat) : ∃ n : Nat, n ≤ a ∧ n ≤ b ∧ n ≤ c ∧ n ≤ 300 ∧
    ∀ W : World, (Builtin.min_ ts t #[.int .i64 a, .int .i64 b, .int .i64 c, .int .i64 300]).run Tryd.prog W = .ok (.int .i64 n) W := by
  refine ⟨min (min (min a b) c) 300, by omega, by omega, by omega, by omega, fun W => ?_⟩
  simp [Builtin.min_, Builtin.min2]
  omega

set_option maxHeartbeats 800000 in
theorem sumLinear_any (a b c : ByteArray) (w : World) (_ha : a.size ≤ maxLen) (_hb : b.size ≤ maxLen) (_hc : c.size ≤ maxLen) (hL : Leaves w) :
    Calls Tryd.prog 5 #[.string a, .string b, .string c] w fun e w' => e = .returned (.bool true) ∧ Below w.heap.size w w' := by
  have hp := leaves_pos hL
  have HL := Lib.hid hL; clear hL
  unfold maxLen at _ha _hb _hc
  obtain ⟨n, hna, hnb, hnc, hn3, hmin⟩ := run_min4 #[3, 3, 3, 3] 3 a.size b.size c.size
  go_enter Tryd.func5, Tryd.ntmps5
  go_wp2_with (first | (go_at_call 17; refine (summed_any _ HL.out).mono ?_; rintro e w1 ⟨rfl, hb1⟩; have HL1 := Lib.hid (leaves_below HL.out hb1 hp)))
  go_region
  have hu : (a.extract 0 n).size = n := by rw [ByteArray.size_extract]; omega
  have hv : (b.extract 0 n).size = n := by rw [ByteArray.size_extract]; omega
  have hx : (c.extract 0 n).size = n := by rw [ByteArray.size_extract]; omega
  clear hna hnb hnc hmin _ha _hb _hc
  generalize a.extract 0 n = u at *
  generalize b.extract 0 n = v at *
  generalize c.extract 0 n = x at *
  have HL2 : Hid (Leaves w1.drew) := HL1
  have hb2 : Below w.heap.size w w1.drew := hb1.drew
  clear hb1 HL1
  generalize w1.drew = w2 at *
  have HU := Lib.hid hu
  have HV := Lib.hid hv
  have HXs := Lib.hid hx
  have hum : u.size ≤ maxLen := by unfold maxLen; omega
  have hvm : v.size ≤ maxLen := by unfold maxLen; omega
  have hxm : x.size ≤ maxLen := by unfold maxLen; omega
  have HE := Lib.hid (Crc.linear (bs u) (bs v) (bs x) (bs_bytes _) (bs_bytes _) (bs_bytes _) (by rw [bs_length, bs_length]; omega) (by rw [bs_length, bs_length]; omega))
  have hbz := Crc.bytes_zip2 (bs u) (bs v) (bs_bytes _) (bs_bytes _)
  have hz : (txt (Crc.zip2 (bs u) (bs v))).size = n := by rw [txt_size]; simp [Crc.zip2, bs_length]; omega
  have HZ := Lib.hid hz
  have HBz := Lib.hid (bs_txt _ hbz)
  have hz2 : (txt (Crc.zip2 (bs (txt (Crc.zip2 (bs u) (bs v)))) (bs x))).size ≤ maxLen := by rw [txt_size]; simp [Crc.zip2, bs_length]; unfold maxLen; omega
  have HB2 := Lib.hid (bs_txt _ (Crc.bytes_zip2 (bs (txt (Crc.zip2 (bs u) (bs v)))) (bs x) (bs_bytes _) (bs_bytes _)))
  have h1 := Crc.more_lt (bs u) (bs_bytes _) 0 (by omega)
  have h2 := Crc.more_lt (bs v) (bs_bytes _) 0 (by omega)
  have h3 := Crc.more_lt (bs x) (bs_bytes _) 0 (by omega)
  have hxor1 := xor32 _ _ h1 h2
  have hxor2 := xor32 _ _ (Nat.xor_lt_two_pow h1 h2) h3
  clear hu hv hx hz hbz h1 h2 h3
  go_wp2_with fail
  refine (together_any u v _ (by have := HU.out; omega) (by have := HU.out; have := HV.out; omega)).mono ?_
  rintro e w3 ⟨rfl, hb3⟩
  have HL3 := Lib.hid (leaves_below HL2.out hb3 (leaves_pos HL2.out))
  generalize txt (Crc.zip2 (bs u) (bs v)) = y at *
  go_wp2_with fail
  refine (together_any y x _ (by have := HZ.out; omega) (by have := HZ.out; have := HXs.out; omega)).mono ?_
  rintro e w4 ⟨rfl, hb4⟩
  have HL4 := Lib.hid (leaves_below HL3.out hb4 (leaves_pos HL3.out))
  generalize txt (Crc.zip2 (bs y) (bs x)) = z at *
  have HQ : Hid (Crc.more 0 (bs z) = Crc.more 0 (bs u) ^^^ Crc.more 0 (bs v) ^^^ Crc.more 0 (bs x)) := Lib.hid (by rw [HB2.out, HBz.out]; exact HE.out)
  have ht := cast_beq_true HQ.out
  go_wp2_with fail
  refine (sum_any z _ hz2 HL4.out).mono ?_
  rintro e w' ⟨rfl, rfl⟩
  go_wp2_with fail
  refine (sum_any u _ hum HL4.out).mono ?_
  rintro e w' ⟨rfl, rfl⟩
  go_wp2_with fail
  refine (sum_any v _ hvm HL4.out).mono ?_
  rintro e w' ⟨rfl, rfl⟩
  go_wp2_with fail
  refine (sum_any x _ hxm HL4.out).mono ?_
  rintro e w' ⟨rfl, rfl⟩
  go_wp2_with fail
  go_ret
  exact ⟨rfl, (hb2.trans (hb3.mono hb2.size)).trans (hb4.mono (Nat.le_trans hb2.size hb3.size))⟩
end Go.Proofs.YtpiajecfhppfeaaDoor
