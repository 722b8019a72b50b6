/-
  What package ring does at texts (by ringgen.py, out of those at numbers), said of the things alone.
-/
import Derived.Test.YthdckapgpibmiaaDoorRingS2
namespace Go.Proofs.YthdckapgpibmiaaDoor
open Go.RowKit

section
variable {rb sb n : Nat} {l : List ByteArray} {w : World}
theorem lpushS_ok (h : RingL eS w rb sb n l) (hl : l.length < n) (x : ByteArray) : Calls Tryd.prog 37 #[.pointer (some ⟨rb, 0, none⟩), eS x] w fun e w' =>
    e = .returned .nilIface ∧ RingL eS w' rb sb n (l ++ [x]) ∧ Keeps (Two rb sb) w w' := by
  obtain ⟨row, f, rfl, h⟩ := h
  exact (pushS_ok w h hl x).mono fun _ _ ⟨he, hr, hk⟩ => ⟨he, ⟨_, _, by simp, hr⟩, hk⟩
theorem lpushS_full (h : RingL eS w rb sb n l) (hl : l.length = n) (x : ByteArray) : Calls Tryd.prog 37 #[.pointer (some ⟨rb, 0, none⟩), eS x] w fun e w' =>
    e = .returned (.iface 29 (.int .i64 12)) ∧ RingL eS w' rb sb n l ∧ Keeps (Two rb sb) w w' := by
  obtain ⟨row, f, rfl, h⟩ := h
  refine (pushS_full w h hl x).mono ?_
  rintro e w' ⟨rfl, m, rfl⟩
  exact ⟨rfl, ⟨_, _, rfl, h.drewN m⟩, keeps_drewN (Keeps.refl _ _) m⟩
theorem lpopS_ok {x : ByteArray} (h : RingL eS w rb sb n (x :: l)) : Calls Tryd.prog 39 #[.pointer (some ⟨rb, 0, none⟩)] w fun e w' =>
    e = .returned (.tuple #[eS x, .nilIface]) ∧ RingL eS w' rb sb n l ∧ Keeps (Two rb sb) w w' := by
  obtain ⟨row, f, rfl, h⟩ := h
  exact (popS_ok w h).mono fun _ _ ⟨he, hr, hk⟩ => ⟨he, ⟨_, _, by simp, hr⟩, hk⟩
theorem lpopS_none (h : RingL eS w rb sb n []) : Calls Tryd.prog 39 #[.pointer (some ⟨rb, 0, none⟩)] w fun e w' =>
    e = .returned (.tuple #[eS ByteArray.empty, .iface 29 (.int .i64 8)]) ∧ RingL eS w' rb sb n [] ∧ Keeps (Two rb sb) w w' := by
  obtain ⟨row, f, rfl, h⟩ := h
  refine (popS_none w h).mono ?_
  rintro e w' ⟨rfl, rfl⟩
  exact ⟨rfl, ⟨_, _, rfl, h⟩, Keeps.refl _ _⟩
theorem llenS (h : RingL eS w rb sb n l) : Calls Tryd.prog 40 #[.pointer (some ⟨rb, 0, none⟩)] w fun e w' => e = .returned (.int .i64 l.length) ∧ w = w' := by
  obtain ⟨row, f, rfl, h⟩ := h
  exact lenS_any w h
theorem lsizeS (h : RingL eS w rb sb n l) : Calls Tryd.prog 41 #[.pointer (some ⟨rb, 0, none⟩)] w fun e w' => e = .returned (.int .i64 n) ∧ w = w' := by
  obtain ⟨row, f, rfl, h⟩ := h
  exact sizeS_any w h
end
end Go.Proofs.YthdckapgpibmiaaDoor
