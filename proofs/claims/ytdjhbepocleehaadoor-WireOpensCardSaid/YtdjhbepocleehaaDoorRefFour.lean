/-
  The walks of the reference's 'four' and of the laws' 'sameParts'.
-/
import Derived.Test.YtdjhbepocleehaaDoorWireW2
import Derived.Test.YtdjhbepocleehaaDoorRefMore
namespace Go.Proofs.YtdjhbepocleehaaDoor
open Go.RowKit

theorem new_text1b {w : World} (d : Nat) : (convert 55 9 (.slice (some ⟨w.heap.size, 0, none⟩) 1 1)).run Tryd.prog (w.alloc (.cells #[.int .u8 (d : Int)] 5)) = .ok (.string (txt [d])) (w.alloc (.cells #[.int .u8 (d : Int)] 5)) :=
  text_of_row (l := [d]) (heap_alloc_new _ _) rfl
/-- Where the loop of 'four' stands. -/
def FourAt (c j m : Nat) (o : ByteArray) : Prop := bs o = (four c).take j ∧ m = c / 256 ^ j
theorem four_take (c j : Nat) (h : j < 4) : (four c).take (j + 1) = (four c).take j ++ [c / 256 ^ j % 256] := by
  match j, h with
  | 0, _ => simp [four]
  | 1, _ => simp [four]
  | 2, _ => simp [four]
  | 3, _ => simp [four]
theorem FourAt.step {c j m : Nat} {o : ByteArray} (h : FourAt c j m o) (hj : j < 4) : FourAt c (j + 1) (m / 256) (o ++ txt [m % 256]) := by
  obtain ⟨h1, h2⟩ := h
  have hb : bs (txt [m % 256]) = [m % 256] := bs_txt _ (by intro b hb; rw [List.mem_singleton.1 hb]; omega)
  refine ⟨by rw [bs_append, h1, hb, four_take c j hj, h2], ?_⟩
  rw [h2, Nat.div_div_eq_div_mul, Nat.pow_succ]
theorem FourAt.le {c j m : Nat} {o : ByteArray} (h : FourAt c j m o) : m ≤ c := by rw [h.2]; exact Nat.div_le_self _ _
theorem FourAt.fin {c m : Nat} {o : ByteArray} (h : FourAt c 4 m o) : o = txt (four c) := by
  have : bs o = four c := h.1
  rw [← this, txt_bs]
theorem FourAt.size {c j m : Nat} {o : ByteArray} (h : FourAt c j m o) : o.size ≤ 4 := by
  rw [← bs_length, h.1, List.length_take, four_length]; omega

set_option maxRecDepth 100000 in
set_option maxHeartbeats 1600000 in
theorem refFour_any (c : Nat) (w : World) (hc : c < 2 ^ 32) :
    Calls Tryd.prog 35 #[.int .u32 (c : Int)] w fun e w' => e = .returned (.string (txt (four c))) ∧ Below w.heap.size w w' := by
  go_enter Tryd.func35, Tryd.ntmps35
  go_wp2_with fail
  go_loopw [0, 3, 4] (fun n s i wr => ∃ (m j : Nat) (o : ByteArray), j ≤ 4 ∧ n = .int .u32 (m : Int) ∧ s = .string o ∧ i = .int .i64 (j : Int) ∧ FourAt c j m o ∧ Below w.heap.size w wr) (fun _ _ i _ => 4 - (intOf i).toNat)
  case atStart => exact ⟨c, 0, { data := #[] }, by omega, rfl, rfl, rfl, ⟨rfl, (Nat.div_one c).symm⟩, Below.refl _ _⟩
  case round =>
    obtain ⟨m, j, o, hj, rfl, rfl, rfl, hat, hb⟩ := hrel
    have hos := hat.size
    have hmc := hat.le
    by_cases hj4 : j < 4
    · have HS := Lib.hid (hat.step hj4)
      have hcv : (convert 55 9 (.slice (some ⟨wr.heap.size, 0, none⟩) 1 1)).run Tryd.prog (wr.alloc (.cells #[.int .u8 ((m : Int) % 256)] 5)) = .ok (.string (txt [m % 256])) (wr.alloc (.cells #[.int .u8 ((m : Int) % 256)] 5)) := new_text1b (m % 256)
      have hts : (txt [m % 256]).size = 1 := by rw [txt_size]; rfl
      generalize txt [m % 256] = t at *
      clear hat
      go_wp2_with fail
      go_roundw
      case rel => exact ⟨m / 256, j + 1, _, by omega, by go_num, rfl, by go_num, HS.out, hb.alloc hb.size _⟩
      case measure => simp [intOf]; omega
    · obtain rfl : j = 4 := by omega
      go_wp2_with fail
      go_ret
      exact ⟨by rw [← hat.fin]; rfl, hb⟩

set_option maxRecDepth 100000 in
set_option maxHeartbeats 1600000 in
theorem sameParts_any (v u : Value) (ps : List WPart) (w : World) (hv : PartsAt w v ps) (hu : PartsAt w u ps) :
    Calls Tryd.prog 29 #[v, u] w fun e w' => e = .returned (.bool true) ∧ Below w.heap.size w w' := by
  obtain ⟨ao, n, cap, rfl, hn, hnc, hcm, hx, -⟩ := hv
  obtain ⟨ao2, n2, cap2, rfl, hn2, hnc2, hcm2, hx2, -⟩ := hu
  obtain rfl : n2 = n := by omega
  unfold maxLen at hcm hcm2
  have HX := Lib.hid hx
  have HX2 := Lib.hid hx2
  clear hx hx2 hn hn2
  go_enter Tryd.func29, Tryd.ntmps29
  go_wp2_with fail
  go_loopw [5] (fun i wr => ∃ k : Nat, k ≤ n2 ∧ i = .int .i64 k ∧ Below w.heap.size w wr) (fun i _ => n2 - (intOf i).toNat)
  case atStart => exact ⟨0, Nat.zero_le _, rfl, Below.refl _ _⟩
  case round =>
    obtain ⟨k, hk, rfl, hb⟩ := hrel
    by_cases hkn : k < n2
    · obtain ⟨b, o, rfl, hbl, hcell⟩ := HX.out (by omega)
      obtain ⟨b2, o2, rfl, hbl2, hcell2⟩ := HX2.out (by omega)
      obtain ⟨hc1, hc2⟩ := hcell k hkn
      obtain ⟨hd1, hd2⟩ := hcell2 k hkn
      rw [← hb.cell (p := ⟨b, o + k * 2, none⟩) hbl] at hc1
      rw [← hb.cell (p := ⟨b, o + k * 2 + 1, none⟩) hbl] at hc2
      rw [← hb.cell (p := ⟨b2, o2 + k * 2, none⟩) hbl2] at hd1
      rw [← hb.cell (p := ⟨b2, o2 + k * 2 + 1, none⟩) hbl2] at hd2
      have hi1 : (0 : Int) ≤ (k : Int) ∧ (k : Int) < (n2 : Int) := by omega
      have hi2 : (k : Int) < (n2 : Int) := by omega
      clear hcell hcell2
      generalize pb ps k = x at *
      generalize pt ps k = t at *
      go_wp2_with fail
      go_quiet (fail)
      go_wp2_with fail
      go_roundw
      case rel => exact ⟨k + 1, by omega, by go_num, below_drewN hb _⟩
      case measure => simp [intOf]; omega
    · obtain rfl : k = n2 := by omega
      go_wp2_with fail
      go_ret
      exact ⟨rfl, hb⟩
end Go.Proofs.YtdjhbepocleehaaDoor
