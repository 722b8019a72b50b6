/-
  A slice of a ring's operations that came in: what a walk is told of it.
-/
import Derived.Test.YthdckapgpibmiaaDoorRows
import Derived.WalkKit
import Derived.Below
import Derived.OpenShut
import Derived.ProofKit
import Derived.Deep.SlicePairs
namespace Go.Proofs.YthdckapgpibmiaaDoor
open Go.RowKit Go.ChangeShapes Go.WideShapes Go.ChangeAt

/-- The slice's cells: what, and a number, of each. -/
def RopsAt (w : World) (v : Value) (ps : List (Int × Int)) : Prop :=
  ∃ ao n cap, v = .slice ao n cap ∧ n = ps.length ∧ n ≤ cap ∧ cap ≤ maxLen ∧
    (0 < n → ∃ b o, ao = some ⟨b, o, none⟩ ∧ b < w.heap.size ∧ ∀ i, i < n → w.cell? ⟨b, o + i * 2, none⟩ = some (.int .i64 (ps.getD i (0, 0)).1) ∧ w.cell? ⟨b, o + i * 2 + 1, none⟩ = some (.int .i64 (ps.getD i (0, 0)).2)) ∧
    ∀ p ∈ ps, (Lit.int .i64 p.1).wf = true ∧ (Lit.int .i64 p.2).wf = true
def numOf : Value → Int
  | .int _ n => n
  | _ => 0
theorem ropsAt_open {H : Type} {enc : TypeId × Value → H} {W : World} {base : Nat} {spare : Nat → Bool} {held : Bool} {ao : Option Addr} {len cap : Nat} {d : DataW H} {p : List MemPlace}
    (h : DataW.Trod enc Tryd.prog W base spare held 22 (.slice ao len cap) d p) : ∃ ps, RopsAt W (.slice ao len cap) ps := by
  obtain ⟨fuel, hf⟩ := h
  rcases Go.Deep.open_slice_pairs Tryd.underlying22 Tryd.underlying32 (by kernel_rfl) rfl rfl (by kernel_rfl) (by kernel_rfl) hf with ⟨hcs, _⟩ | ⟨a, l, c, m, n, V0, V1, D0, D1, P0, P1, hcs, _, hl, hm, hmm, _, hcell⟩
  · simp [Value.cells] at hcs
    obtain ⟨rfl, rfl, rfl⟩ := hcs
    exact ⟨[], none, 0, 0, rfl, rfl, Nat.le_refl _, Nat.zero_le _, fun h => absurd h (Nat.lt_irrefl _), fun p hp => by cases hp⟩
  · simp [Value.cells] at hcs
    obtain ⟨rfl, rfl, rfl⟩ := hcs
    have hlm : len ≤ m := by rw [hmm]; split <;> omega
    have key : ∀ i, i < len → V0 i = .int .i64 (numOf (V0 i)) ∧ V1 i = .int .i64 (numOf (V1 i)) ∧ (Lit.int .i64 (numOf (V0 i))).wf = true ∧ (Lit.int .i64 (numOf (V1 i))).wf = true := fun i hi => by
      obtain ⟨_, _, h0, h1⟩ := hcell i (by omega)
      obtain ⟨n0, e0, _, wf0⟩ := DataW.trod_int Tryd.underlying3 h0
      obtain ⟨n1, e1, _, wf1⟩ := DataW.trod_int Tryd.underlying3 h1
      have e0' : V0 i = .int .i64 n0 := by simpa using e0
      have e1' : V1 i = .int .i64 n1 := by simpa using e1
      rw [e0', e1']
      exact ⟨rfl, rfl, wf0, wf1⟩
    have hlen : ((List.range len).map fun i => (numOf (V0 i), numOf (V1 i))).length = len := by simp
    have hget : ∀ i, i < len → ((List.range len).map fun i => (numOf (V0 i), numOf (V1 i))).getD i (0, 0) = (numOf (V0 i), numOf (V1 i)) := fun i hi => by
      rw [List.getD_eq_getElem?_getD, List.getElem?_map, List.getElem?_range hi]; rfl
    refine ⟨(List.range len).map fun i => (numOf (V0 i), numOf (V1 i)), some a, len, cap, rfl, hlen.symm, hl, hm, fun h0 => ?_, fun p hp => ?_⟩
    · obtain ⟨b, o, sp⟩ := a
      have h1 := (hcell 0 (by omega)).1
      have hspot : sp = none := by simpa [Addr.add] using World.cell?_spot h1
      subst hspot
      refine ⟨b, o, rfl, World.block_lt_of_cell? _ _ h1, fun i hi => ?_⟩
      obtain ⟨g0, g1, _, _⟩ := hcell i (by omega)
      rw [add_plain] at g0 g1
      obtain ⟨k0, k1, _⟩ := key i hi
      rw [hget i hi]
      exact ⟨by rw [g0, ← k0], by rw [show o + i * 2 + 1 = o + (i * 2 + 1) by omega, g1, ← k1]⟩
    · obtain ⟨i, hi, rfl⟩ := List.mem_map.1 hp
      exact (key i (List.mem_range.1 hi)).2.2
end Go.Proofs.YthdckapgpibmiaaDoor
