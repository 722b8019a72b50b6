/-
  The walk of slices.Equal at parts that are the same.
-/
import Derived.Test.YtdjhbepocleehaaDoorWireW2
namespace Go.Proofs.YtdjhbepocleehaaDoor
open Go.RowKit

set_option maxRecDepth 100000 in
set_option maxHeartbeats 1600000 in
theorem equal_any (v u : Value) (ps : List WPart) (w : World) (hv : PartsAt w v ps) (hu : PartsAt w u ps) :
    Calls Tryd.prog 32 #[v, u] w fun e w' => e = .returned (.bool true) ∧ Below w.heap.size w w' := by
  obtain ⟨ao, n, cap, rfl, hn, hnc, hcm, hx, -⟩ := hv
  obtain ⟨ao2, n2, cap2, rfl, hn2, hnc2, hcm2, hx2, -⟩ := hu
  obtain rfl : n2 = n := by omega
  unfold maxLen at hcm hcm2
  have HX := Lib.hid hx
  have HX2 := Lib.hid hx2
  clear hx hx2 hn hn2
  go_enter Tryd.func32, Tryd.ntmps32
  go_wp2_with fail
  go_loopw [13] (fun i wr => ∃ k : Nat, k ≤ n2 ∧ i = .int .i64 k ∧ Below w.heap.size w wr) (fun i _ => n2 - (intOf i).toNat)
  case atStart => exact ⟨0, Nat.zero_le _, rfl, Below.refl _ _⟩
  case round =>
    obtain ⟨k, hk, rfl, hb⟩ := hrel
    by_cases hkn : k < n2
    · obtain ⟨b, o, rfl, hbl, hcell⟩ := HX.out (by omega)
      obtain ⟨b2, o2, rfl, hbl2, hcell2⟩ := HX2.out (by omega)
      obtain ⟨hc1, hc2⟩ := hcell k hkn
      obtain ⟨hd1, hd2⟩ := hcell2 k hkn
      rw [← hb.cell (p := ⟨b, o + k * 2, none⟩) hbl] at hc1
      rw [← hb.cell (p := ⟨b, o + k * 2 + 1, none⟩) hbl] at hc2
      rw [← hb.cell (p := ⟨b2, o2 + k * 2, none⟩) hbl2] at hd1
      rw [← hb.cell (p := ⟨b2, o2 + k * 2 + 1, none⟩) hbl2] at hd2
      have hi1 : (0 : Int) ≤ (k : Int) ∧ (k : Int) < (n2 : Int) := by omega
      have hi2 : (k : Int) < (n2 : Int) := by omega
      clear hcell hcell2
      generalize pb ps k = x at *
      generalize pt ps k = t at *
      go_wp2_with fail
      go_quiet (fail)
      go_wp2_with fail
      go_roundw
      case rel => exact ⟨k + 1, by omega, by go_num, below_drewN hb _⟩
      case measure => simp [intOf]; omega
    · obtain rfl : k = n2 := by omega
      go_wp2_with fail
      go_ret
      exact ⟨rfl, hb⟩
end Go.Proofs.YtdjhbepocleehaaDoor
