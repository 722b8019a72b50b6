/-
  The fact that the laws of package vary ask first ('varied').
-/
import Derived.Test.YtdjhbepocleehaaVaryC
import Derived.Deep.RegionWith
namespace Go.Proofs.Ytdjhbepocleehaa
open Go.RowKit

theorem enc_300 : Vy.enc 300 = [172, 2] := by rw [Vy.enc_big (by decide), Vy.enc_small (by decide)]
theorem num_300 (C : VaryC) (w : World) : Calls Try.prog 10 #[.int .u64 300] w fun e w' => e = .returned (.string { data := #[172, 2] }) ∧ Below w.heap.size w w' :=
  (C.num 300 w (by decide)).mono fun _ _ ⟨he, hb⟩ => ⟨by rw [he, enc_300]; rfl, hb⟩
theorem int_m2 (C : VaryC) (w : World) : Calls Try.prog 12 #[.int .i64 (-2)] w fun e w' => e = .returned (.string { data := #[3] }) ∧ Below w.heap.size w w' :=
  (C.int (-2) w (by decide) (by decide)).mono fun _ _ ⟨he, hb⟩ => ⟨by rw [he, show zz (-2) = 3 from rfl, Vy.enc_small (by decide)]; rfl, hb⟩
theorem text_ab (C : VaryC) (w : World) : Calls Try.prog 14 #[.string { data := #[97, 98] }] w fun e w' => e = .returned (.string { data := #[2, 97, 98] }) ∧ Below w.heap.size w w' :=
  (C.text { data := #[97, 98] } w (by decide)).mono fun _ _ ⟨he, hb⟩ => ⟨by rw [he, show (ByteArray.size { data := #[97, 98] }) = 2 from rfl, Vy.enc_small (by decide)]; rfl, hb⟩
theorem read_300 (C : VaryC) (w : World) : Calls Try.prog 9 #[.string { data := #[120, 172, 2] }, .int .i64 1] w fun e w' => e = .returned (.tuple #[.int .u64 300, .int .i64 3, .nilIface]) ∧ Below w.heap.size w w' :=
  (C.readNum { data := #[120, 172, 2] } 1 300 3 0 w (by decide) (by decide) (Or.inl ⟨⟨by decide, by rw [enc_300]; exact ⟨[], rfl⟩⟩, by rw [enc_300]; rfl, rfl⟩))

set_option maxRecDepth 100000 in
set_option maxHeartbeats 800000 in
theorem varied_any (C : VaryC) (w : World) : Calls Try.prog 8 #[] w fun e w' => e = .returned (.bool true) ∧ Below w.heap.size w w' := by
  have HC := Lib.hid C
  go_enter Try.func8, Try.ntmps8
  go_wp2_with fail
  refine (read_300 HC.out _).mono ?_
  rintro e w1 ⟨rfl, hb1⟩
  go_wp2_with fail
  refine (num_300 HC.out _).mono ?_
  rintro e w2 ⟨rfl, hb2⟩
  go_wp2_with fail
  refine (int_m2 HC.out _).mono ?_
  rintro e w3 ⟨rfl, hb3⟩
  go_wp2_with fail
  refine (text_ab HC.out _).mono ?_
  rintro e w4 ⟨rfl, hb4⟩
  go_wp2_with fail
  go_ret
  exact ⟨rfl, ((hb1.trans (hb2.mono hb1.size)).trans (hb3.mono (Nat.le_trans hb1.size hb2.size))).trans (hb4.mono (Nat.le_trans (Nat.le_trans hb1.size hb2.size) hb3.size))⟩
end Go.Proofs.Ytdjhbepocleehaa
