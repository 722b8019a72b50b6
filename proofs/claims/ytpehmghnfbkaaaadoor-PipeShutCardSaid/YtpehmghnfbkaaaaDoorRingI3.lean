/-
  What package ring does at numbers, said of the things alone.
-/
import Derived.Test.YtpehmghnfbkaaaaDoorRingI2
namespace Go.Proofs.YtpehmghnfbkaaaaDoor
open Go.RowKit

section
variable {rb sb n : Nat} {l : List Int} {w : World}
theorem lpushI_ok (h : RingL eI w rb sb n l) (hl : l.length < n) (x : Int) : Calls Tryd.prog 61 #[.pointer (some ⟨rb, 0, none⟩), eI x] w fun e w' =>
    e = .returned .nilIface ∧ RingL eI w' rb sb n (l ++ [x]) ∧ Keeps (Two rb sb) w w' := by
  obtain ⟨row, f, rfl, h⟩ := h
  exact (pushI_ok w h hl x).mono fun _ _ ⟨he, hr, hk⟩ => ⟨he, ⟨_, _, by simp, hr⟩, hk⟩
theorem lpushI_full (h : RingL eI w rb sb n l) (hl : l.length = n) (x : Int) : Calls Tryd.prog 61 #[.pointer (some ⟨rb, 0, none⟩), eI x] w fun e w' =>
    e = .returned (.iface 35 (.int .i64 12)) ∧ RingL eI w' rb sb n l ∧ Keeps (Two rb sb) w w' := by
  obtain ⟨row, f, rfl, h⟩ := h
  refine (pushI_full w h hl x).mono ?_
  rintro e w' ⟨rfl, m, rfl⟩
  exact ⟨rfl, ⟨_, _, rfl, h.drewN m⟩, keeps_drewN (Keeps.refl _ _) m⟩
theorem lpopI_ok {x : Int} (h : RingL eI w rb sb n (x :: l)) : Calls Tryd.prog 60 #[.pointer (some ⟨rb, 0, none⟩)] w fun e w' =>
    e = .returned (.tuple #[eI x, .nilIface]) ∧ RingL eI w' rb sb n l ∧ Keeps (Two rb sb) w w' := by
  obtain ⟨row, f, rfl, h⟩ := h
  exact (popI_ok w h).mono fun _ _ ⟨he, hr, hk⟩ => ⟨he, ⟨_, _, by simp, hr⟩, hk⟩
theorem lpopI_none (h : RingL eI w rb sb n []) : Calls Tryd.prog 60 #[.pointer (some ⟨rb, 0, none⟩)] w fun e w' =>
    e = .returned (.tuple #[eI 0, .iface 35 (.int .i64 8)]) ∧ RingL eI w' rb sb n [] ∧ Keeps (Two rb sb) w w' := by
  obtain ⟨row, f, rfl, h⟩ := h
  refine (popI_none w h).mono ?_
  rintro e w' ⟨rfl, rfl⟩
  exact ⟨rfl, ⟨_, _, rfl, h⟩, Keeps.refl _ _⟩
theorem llenI (h : RingL eI w rb sb n l) : Calls Tryd.prog 41 #[.pointer (some ⟨rb, 0, none⟩)] w fun e w' => e = .returned (.int .i64 l.length) ∧ w = w' := by
  obtain ⟨row, f, rfl, h⟩ := h
  exact lenI_any w h
theorem lsizeI (h : RingL eI w rb sb n l) : Calls Tryd.prog 54 #[.pointer (some ⟨rb, 0, none⟩)] w fun e w' => e = .returned (.int .i64 n) ∧ w = w' := by
  obtain ⟨row, f, rfl, h⟩ := h
  exact sizeI_any w h
end
end Go.Proofs.YtpehmghnfbkaaaaDoor
