/-
  The walk of the law WireOpens: the parts of any text are the document's; also of one whose last four bytes are its sum.
-/
import Derived.Test.YtdjhbepocleehaaDoorRefOpen
import Derived.Test.YtdjhbepocleehaaDoorBareRe
namespace Go.Proofs.YtdjhbepocleehaaDoor
open Go.RowKit

theorem two_kept {w W : World} (o : Obj) (x y : Value) (t : TypeId) (h : Below ((w.alloc o).alloc (.cells #[x, y] t)).heap.size ((w.alloc o).alloc (.cells #[x, y] t)) W) :
    W.cell? ⟨w.heap.size + 1, 0, none⟩ = some x ∧ W.cell? ⟨w.heap.size + 1, 1, none⟩ = some y := by
  have hlt : w.heap.size + 1 < ((w.alloc o).alloc (.cells #[x, y] t)).heap.size := by simp
  have h0 := cell_two_new2 w o x y t 0 x rfl
  have h1 := cell_two_new2 w o x y t 1 y rfl
  rw [h.cell (p := ⟨w.heap.size + 1, 0, none⟩) hlt, h.cell (p := ⟨w.heap.size + 1, 1, none⟩) hlt]
  exact ⟨h0, h1⟩

set_option maxRecDepth 100000 in
set_option maxHeartbeats 3200000 in
theorem wireOpens_any (s : ByteArray) (w : World) (_hs : s.size ≤ maxLen) (hLE : Leaves w ∧ ErrT w) :
    Calls Tryd.prog 7 #[.string s] w fun e w' => e = .returned (.bool true) ∧ Below w.heap.size w w' := by
  have HL := Lib.hid hLE.1
  have HE := Lib.hid hLE.2
  have hpe : 0 < w.heap.size := block_lt_of_cell hLE.2
  clear hLE
  unfold maxLen at _hs
  by_cases h4 : 400 < s.size
  · have h4i : (400 : Int) < (s.size : Int) := by omega
    go_enter Tryd.func7, Tryd.ntmps7
    go_wp2_with fail
    go_ret
    exact ⟨rfl, Below.refl _ _⟩
  · have h4i : ¬ (400 : Int) < (s.size : Int) := by omega
    have HPE := Lib.hid hpe
    go_enter Tryd.func7, Tryd.ntmps7
    go_wp2_with fail
    refine (refSum_any s _ (by omega)).mono ?_
    rintro e w1 ⟨rfl, hb1⟩
    have hc := Crc.more_lt (bs s) (bs_bytes s) 0 (by decide)
    generalize Crc.more 0 (bs s) = c at *
    have hts : (txt [c % 256, c / 256 % 256, c / 65536 % 256, c / 16777216]).size = 4 := by rw [txt_size]; rfl
    have hcv : (convert 55 9 (.slice (some ⟨w1.heap.size, 0, none⟩) 4 4)).run Tryd.prog (w1.alloc (.cells #[.int .u8 ((c : Int) % 256), .int .u8 ((c : Int) / 256 % 256), .int .u8 ((c : Int) / 65536 % 256), .int .u8 ((c : Int) / 16777216)] 5)) = .ok (.string (txt [c % 256, c / 256 % 256, c / 65536 % 256, c / 16777216])) (w1.alloc (.cells #[.int .u8 ((c : Int) % 256), .int .u8 ((c : Int) / 256 % 256), .int .u8 ((c : Int) / 65536 % 256), .int .u8 ((c : Int) / 16777216)] 5)) :=
      new_text4 (c % 256) (c / 256 % 256) (c / 65536 % 256) (c / 16777216)
    generalize txt [c % 256, c / 256 % 256, c / 65536 % 256, c / 16777216] = q at *
    have hsq : (s ++ q).size ≤ 404 := by rw [ByteArray.size_append]; omega
    have HW : Hid (∀ W, Below ((w1.alloc (.cells #[.int .u8 ((c : Int) % 256), .int .u8 ((c : Int) / 256 % 256), .int .u8 ((c : Int) / 65536 % 256), .int .u8 ((c : Int) / 16777216)] 5)).alloc (.cells #[.string s, .string (s ++ q)] 9)).heap.size
        ((w1.alloc (.cells #[.int .u8 ((c : Int) % 256), .int .u8 ((c : Int) / 256 % 256), .int .u8 ((c : Int) / 65536 % 256), .int .u8 ((c : Int) / 16777216)] 5)).alloc (.cells #[.string s, .string (s ++ q)] 9)) W →
        W.cell? ⟨w1.heap.size + 1, 0, none⟩ = some (.string s) ∧ W.cell? ⟨w1.heap.size + 1, 1, none⟩ = some (.string (s ++ q))) := Lib.hid fun W h => two_kept _ _ _ _ h
    have HBW : Hid (Below w.heap.size w ((w1.alloc (.cells #[.int .u8 ((c : Int) % 256), .int .u8 ((c : Int) / 256 % 256), .int .u8 ((c : Int) / 65536 % 256), .int .u8 ((c : Int) / 16777216)] 5)).alloc (.cells #[.string s, .string (s ++ q)] 9))) :=
      Lib.hid ((hb1.alloc hb1.size _).alloc (by have := hb1.size; simp; omega) _)
    go_wp2_with fail
    clear hcv
    generalize (w1.alloc (.cells #[.int .u8 ((c : Int) % 256), .int .u8 ((c : Int) / 256 % 256), .int .u8 ((c : Int) / 65536 % 256), .int .u8 ((c : Int) / 16777216)] 5)).alloc (.cells #[.string s, .string (s ++ q)] 9) = W0 at *
    go_loopw [35] (fun i wr => ∃ j : Nat, j ≤ 2 ∧ i = .int .i64 j ∧ Below W0.heap.size W0 wr) (fun i _ => 2 - (intOf i).toNat)
    case atStart => exact ⟨0, by omega, rfl, Below.refl _ _⟩
    case round =>
      obtain ⟨j, hj, rfl, hb⟩ := hrel
      have hb0 : Below w.heap.size w wr := HBW.out.trans (hb.mono HBW.out.size)
      by_cases hj2 : j < 2
      · obtain ⟨U, hU, hcell⟩ : ∃ U : ByteArray, U.size ≤ 404 ∧ wr.cell? ⟨w1.heap.size + 1, j, none⟩ = some (.string U) := by
          obtain ⟨g0, g1⟩ := HW.out wr hb
          match j, hj2 with
          | 0, _ => exact ⟨s, by omega, g0⟩
          | 1, _ => exact ⟨s ++ q, hsq, g1⟩
        obtain ⟨k, ps, re, hO⟩ := OP.exists U
        have HO := Lib.hid hO
        have hji : (0 : Int) ≤ (j : Int) ∧ (j : Int) < 2 := by omega
        have hji2 : (j : Int) < 2 := by omega
        clear hO
        go_wp2_with fail
        refine (refOpen_any U k ps re _ (by omega) HO.out).mono ?_
        rintro e w5 ⟨v1, rfl, hpa1, hb5⟩
        have hb05 : Below w.heap.size w w5 := hb0.trans (hb5.mono hb0.size)
        have HPA1 := Lib.hid hpa1
        have HL5 := Lib.hid (Leaves.next HL.out hb05)
        clear hpa1
        go_wp2_with fail
        refine (open_any U k ps re _ (by omega) HO.out HL5.out).mono ?_
        rintro e w6 ⟨v2, rfl, hpa2, hb6⟩
        have hb06 : Below w.heap.size w w6 := hb05.trans (hb6.mono hb05.size)
        have HPA2 := Lib.hid hpa2
        have HPA16 := Lib.hid (HPA1.out.below hb6 (Nat.le_refl _))
        have HE6 := Lib.hid (HE.out.below hb06 HPE.out)
        clear hpa2
        go_wp2_with fail
        refine (bare_re re _ HE6.out).mono ?_
        rintro e w7 ⟨rfl, hb7⟩
        have hb67 := hb7
        have HPA27 := Lib.hid (HPA2.out.below hb7 (Nat.le_refl _))
        have HPA17 := Lib.hid (HPA16.out.below hb7 (Nat.le_refl _))
        go_wp2_with fail
        refine (sameParts_any v2 v1 ps _ HPA27.out HPA17.out).mono ?_
        rintro e w8 ⟨rfl, hb8⟩
        go_wp2_with fail
        go_roundw
        case rel =>
          refine ⟨j + 1, by omega, by go_num, ?_⟩
          have c5 := hb.trans (hb5.mono hb.size)
          have c6 := c5.trans (hb6.mono c5.size)
          have c7 := c6.trans (hb67.mono c6.size)
          exact c7.trans (hb8.mono c7.size)
        case measure => simp [intOf]; omega
      · obtain rfl : j = 2 := by omega
        go_wp2_with fail
        go_ret
        exact ⟨rfl, hb0⟩
end Go.Proofs.YtdjhbepocleehaaDoor
