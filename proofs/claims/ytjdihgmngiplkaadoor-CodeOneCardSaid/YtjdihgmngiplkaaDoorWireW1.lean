/-
  The walks of package wire, first part: a sum as a text, a text with its sum, whether a sum fits.
-/
import Derived.Test.YtjdihgmngiplkaaDoorWireM2
import Derived.Test.YtjdihgmngiplkaaDoorSumW1
import Derived.RegionTactic
import Derived.ChangeAlike
import Derived.Deep.RegionWith
namespace Go.Proofs.YtjdihgmngiplkaaDoor
open Go.RowKit

theorem below_alloc2 (w : World) (o : Obj) : Below w.heap.size w (w.alloc o) := (Below.refl _ _).alloc (Nat.le_refl _) _
theorem new_text4 {w : World} (a b c d : Nat) : (convert 53 9 (.slice (some ⟨w.heap.size, 0, none⟩) 4 4)).run Tryd.prog (w.alloc (.cells #[.int .u8 (a : Int), .int .u8 (b : Int), .int .u8 (c : Int), .int .u8 (d : Int)] 5)) = .ok (.string (txt [a, b, c, d])) (w.alloc (.cells #[.int .u8 (a : Int), .int .u8 (b : Int), .int .u8 (c : Int), .int .u8 (d : Int)] 5)) :=
  text_of_row (l := [a, b, c, d]) (heap_alloc_new _ _) rfl

theorem wleaves_below {w w' : World} {B : Nat} (h : Leaves w) (hb : Below B w w') (hB : 8 < B) : Leaves w' := fun n hn => by
  rw [hb.cell (p := ⟨8, n, none⟩) hB]; exact h n hn
theorem leaves_lt {w : World} (h : Leaves w) : 8 < w.heap.size := World.block_lt_of_cell? _ _ (h 0 (by decide))
theorem Leaves.next {w w' : World} (h : Leaves w) (hb : Below w.heap.size w w') : Leaves w' := wleaves_below h hb (leaves_lt h)

set_option maxRecDepth 100000 in
set_option maxHeartbeats 800000 in
theorem wsum_any (s : ByteArray) (w : World) (hs : s.size ≤ 1000000) (hL : Leaves w) :
    Calls Tryd.prog 116 #[.string s] w fun e w' => e = .returned (.int .u32 (Crc.more 0 (bs s) : Nat)) ∧ w = w' := by
  have HL := Lib.hid hL; clear hL
  have HS : Hid (s.size ≤ maxLen) := Lib.hid (by unfold maxLen; omega)
  go_enter Tryd.func116, Tryd.ntmps116
  go_wp2_with (go_at_call 140; refine (more_any 0 _ _ (by decide) HS.out HL.out).mono ?_; rintro e w' ⟨rfl, rfl⟩)
  go_ret
  exact ⟨rfl, rfl⟩

set_option maxRecDepth 100000 in
set_option maxHeartbeats 800000 in
theorem sumText_any (s : ByteArray) (w : World) (hs : s.size ≤ 1000000) (hL : Leaves w) :
    Calls Tryd.prog 96 #[.string s] w fun e w' => e = .returned (.string (txt (four (Crc.more 0 (bs s))))) ∧ Below w.heap.size w w' := by
  have hc := Crc.more_lt (bs s) (bs_bytes s) 0 (by decide)
  have HL := Lib.hid hL
  clear hL
  go_enter Tryd.func96, Tryd.ntmps96
  go_wp2_with fail
  refine (wsum_any s _ (by omega) HL.out).mono ?_
  rintro e w1 ⟨rfl, rfl⟩
  generalize hce : Crc.more 0 (bs s) = c at *
  have HCE := Lib.hid hce
  clear hce
  have HT : Hid (txt [c % 256, c / 256 % 256, c / 65536 % 256, c / 16777216] = txt (four c)) := Lib.hid (by unfold four; rw [show c / 16777216 % 256 = c / 16777216 by omega])
  have hcv : (convert 53 9 (.slice (some ⟨w.heap.size, 0, none⟩) 4 4)).run Tryd.prog (w.alloc (.cells #[.int .u8 ((c : Int) % 256), .int .u8 ((c : Int) / 256 % 256), .int .u8 ((c : Int) / 65536 % 256), .int .u8 ((c : Int) / 16777216)] 5)) = .ok (.string (txt [c % 256, c / 256 % 256, c / 65536 % 256, c / 16777216])) (w.alloc (.cells #[.int .u8 ((c : Int) % 256), .int .u8 ((c : Int) / 256 % 256), .int .u8 ((c : Int) / 65536 % 256), .int .u8 ((c : Int) / 16777216)] 5)) :=
    new_text4 (c % 256) (c / 256 % 256) (c / 65536 % 256) (c / 16777216)
  go_wp2_with fail
  go_ret
  exact ⟨by rw [HCE.out, ← HT.out]; rfl, (Below.refl _ _).alloc (Nat.le_refl _) _⟩

set_option maxRecDepth 100000 in
set_option maxHeartbeats 800000 in
theorem withSum_any (s : ByteArray) (w : World) (hs : s.size ≤ 1000000) (hL : Leaves w) :
    Calls Tryd.prog 66 #[.string s] w fun e w' => e = .returned (.string (txt (sealed (bs s)))) ∧ Below w.heap.size w w' := by
  have HL := Lib.hid hL
  have ht : (txt (four (Crc.more 0 (bs s)))).size = 4 := by rw [txt_size]; rfl
  have HT : Hid (s ++ txt (four (Crc.more 0 (bs s))) = txt (sealed (bs s))) := Lib.hid (by
    apply bs_inj
    rw [bs_append, bs_txt _ (four_bytes _), bs_txt _ (sealed_bytes (bs_bytes s))]; rfl)
  clear hL
  go_enter Tryd.func66, Tryd.ntmps66
  go_wp2_with fail
  refine (sumText_any s _ hs HL.out).mono ?_
  rintro e w1 ⟨rfl, hb⟩
  generalize txt (four (Crc.more 0 (bs s))) = t at *
  go_wp2_with fail
  go_ret
  exact ⟨by rw [← HT.out]; rfl, hb⟩

theorem toList_beq_txt (s : ByteArray) (l : List Nat) (hl : Crc.Bytes l) : (s.toList == (txt l).toList) = decide (bs s = l) := by
  rw [Bool.eq_iff_iff, beq_iff_eq, decide_eq_true_eq, ByteArray.toList_eq, ByteArray.toList_eq]
  constructor
  · intro h
    rw [show s = txt l from ByteArray.ext (Array.toList_inj.1 h), bs_txt l hl]
  · intro h
    rw [← h, txt_bs]
set_option maxRecDepth 100000 in
set_option maxHeartbeats 800000 in
theorem sumFits_any (s : ByteArray) (a b : Nat) (f : Bool) (w : World) (hs : s.size ≤ 1000000) (hab : a ≤ b) (hb4 : b + 4 ≤ s.size) (hf : f = true ↔ Fits s a b) (hL : Leaves w) :
    Calls Tryd.prog 71 #[.string s, .int .i64 a, .int .i64 b] w fun e w' => e = .returned (.bool f) ∧ Below w.heap.size w w' := by
  have HL := Lib.hid hL
  have hx : (s.extract a b).size ≤ 1000000 := by rw [ByteArray.size_extract]; omega
  have HF : Hid (((s.extract b (b + 4)).toList == (txt (four (Crc.more 0 (bs (s.extract a b))))).toList) = f) := Lib.hid (by
    rw [Bool.eq_iff_iff, toList_beq_txt _ _ (four_bytes _), decide_eq_true_eq, hf]; rfl)
  clear hL hf
  have hb1 : (b : Int) + 4 ≤ (s.size : Int) := by omega
  have hb0 : (b : Int) ≤ (b : Int) + 4 := by omega
  have hb3 : (0 : Int) ≤ (b : Int) + 4 := by omega
  have hb5 : (a : Int) ≤ (b : Int) := by omega
  have hb6 : (b : Int) ≤ (s.size : Int) := by omega
  have hw1 : IntKind.i64.wrap ((b : Int) + 4) = (b : Int) + 4 := IntWalk.i64_in _ (by omega)
  have hw2 : ((b : Int) + 4).toNat = b + 4 := by omega
  go_enter Tryd.func71, Tryd.ntmps71
  go_wp2_with fail
  go_region_with (go_at_call 96; refine (sumText_any (s.extract a b) _ hx (by exact HL.out)).mono ?_; rintro e w' ⟨rfl, hb2⟩)
  go_wp2_with fail
  go_ret
  exact ⟨by rw [← HF.out]; rfl, (Below.refl _ w).drew.trans (hb2.mono (Nat.le_refl _))⟩
end Go.Proofs.YtjdihgmngiplkaaDoor
