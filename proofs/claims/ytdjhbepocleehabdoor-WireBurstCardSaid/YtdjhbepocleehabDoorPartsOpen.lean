/-
  A slice of parts that came in: what a walk is told of it.
-/
import Derived.Test.YtdjhbepocleehabDoorWireW2
import Derived.OpenShut
import Derived.ProofKit
import Derived.Deep.SlicePairs
namespace Go.Proofs.YtdjhbepocleehabDoor
open Go.RowKit Go.ChangeShapes Go.WideShapes Go.ChangeAt

def tagOf : Value → Nat
  | .int _ n => n.toNat
  | _ => 0
def bodyOf : Value → ByteArray
  | .string s => s
  | _ => ByteArray.empty
theorem partsAt_open {H : Type} {enc : TypeId × Value → H} {W : World} {base : Nat} {spare : Nat → Bool} {held : Bool} {ao : Option Addr} {len cap : Nat} {d : DataW H} {p : List MemPlace}
    (h : DataW.Trod enc Tryd.prog W base spare held 22 (.slice ao len cap) d p) : ∃ ps, PartsAt W (.slice ao len cap) ps := by
  obtain ⟨fuel, hf⟩ := h
  rcases Go.Deep.open_slice_pairs Tryd.underlying22 Tryd.underlying37 (by kernel_rfl) rfl rfl (by kernel_rfl) (by kernel_rfl) hf with ⟨hcs, _⟩ | ⟨a, l, c, m, n, V0, V1, D0, D1, P0, P1, hcs, _, hl, hm, hmm, _, hcell⟩
  · simp [Value.cells] at hcs
    obtain ⟨rfl, rfl, rfl⟩ := hcs
    exact ⟨[], none, 0, 0, rfl, rfl, Nat.le_refl _, Nat.zero_le _, fun h => absurd h (Nat.lt_irrefl _), fun p hp => by cases hp⟩
  · simp [Value.cells] at hcs
    obtain ⟨rfl, rfl, rfl⟩ := hcs
    have hlm : len ≤ m := by rw [hmm]; split <;> omega
    have key : ∀ i, i < len → V0 i = .int .u8 (tagOf (V0 i) : Int) ∧ tagOf (V0 i) < 256 ∧ V1 i = .string (bodyOf (V1 i)) := fun i hi => by
      obtain ⟨_, _, h0, h1⟩ := hcell i (by omega)
      obtain ⟨n0, e0, _, wf⟩ := DataW.trod_int Tryd.underlying5 h0
      obtain ⟨s0, e1, _, _⟩ := DataW.trod_string Tryd.underlying9 h1
      have e0' : V0 i = .int .u8 n0 := by simpa using e0
      have e1' : V1 i = .string s0 := by simpa using e1
      have hb := bounds_u8 wf
      rw [e0', e1']
      refine ⟨?_, ?_, rfl⟩
      · show Value.int .u8 n0 = .int .u8 ((n0.toNat : Nat) : Int)
        rw [Int.toNat_of_nonneg hb.1]
      · show n0.toNat < 256
        omega
    have hlen : ((List.range len).map fun i => (tagOf (V0 i), bodyOf (V1 i))).length = len := by simp
    have hget : ∀ i, i < len → ((List.range len).map fun i => (tagOf (V0 i), bodyOf (V1 i))).getD i (0, txt []) = (tagOf (V0 i), bodyOf (V1 i)) := fun i hi => by
      rw [List.getD_eq_getElem?_getD, List.getElem?_map, List.getElem?_range hi]; rfl
    refine ⟨(List.range len).map fun i => (tagOf (V0 i), bodyOf (V1 i)), some a, len, cap, rfl, hlen.symm, hl, hm, fun h0 => ?_, fun p hp => ?_⟩
    · obtain ⟨b, o, sp⟩ := a
      have h1 := (hcell 0 (by omega)).1
      have hspot : sp = none := by simpa [Addr.add] using World.cell?_spot h1
      subst hspot
      refine ⟨b, o, rfl, World.block_lt_of_cell? _ _ h1, fun i hi => ?_⟩
      obtain ⟨g0, g1, _, _⟩ := hcell i (by omega)
      rw [add_plain] at g0 g1
      obtain ⟨k0, _, k1⟩ := key i hi
      unfold pt pb
      rw [hget i hi]
      exact ⟨by rw [g0, ← k0], by rw [show o + i * 2 + 1 = o + (i * 2 + 1) by omega, g1, ← k1]⟩
    · obtain ⟨i, hi, rfl⟩ := List.mem_map.1 hp
      exact (key i (List.mem_range.1 hi)).2.1
end Go.Proofs.YtdjhbepocleehabDoor
