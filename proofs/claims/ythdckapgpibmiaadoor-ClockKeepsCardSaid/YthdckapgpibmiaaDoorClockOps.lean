/-
  A slice of a clock's operations that came in: what a walk is told of it.
-/
import Derived.Test.YthdckapgpibmiaaDoorRows
import Derived.WalkKit
import Derived.Below
import Derived.OpenShut
import Derived.ProofKit
import Derived.Deep.SlicePairs
namespace Go.Proofs.YthdckapgpibmiaaDoor
open Go.RowKit Go.ChangeShapes Go.WideShapes Go.ChangeAt

/-- The slice's cells: what, when, and an id, of each. -/
def CopsAt (w : World) (v : Value) (ps : List (Int × Int × Int)) : Prop :=
  ∃ ao n cap, v = .slice ao n cap ∧ n = ps.length ∧ n ≤ cap ∧ cap ≤ maxLen ∧
    (0 < n → ∃ b o, ao = some ⟨b, o, none⟩ ∧ b < w.heap.size ∧ ∀ i, i < n → w.cell? ⟨b, o + i * 3, none⟩ = some (.int .i64 (ps.getD i (0, 0, 0)).1) ∧ w.cell? ⟨b, o + i * 3 + 1, none⟩ = some (.int .i64 (ps.getD i (0, 0, 0)).2.1) ∧ w.cell? ⟨b, o + i * 3 + 2, none⟩ = some (.int .i64 (ps.getD i (0, 0, 0)).2.2)) ∧
    ∀ p ∈ ps, (Lit.int .i64 p.1).wf = true ∧ (Lit.int .i64 p.2.1).wf = true ∧ (Lit.int .i64 p.2.2).wf = true
set_option maxRecDepth 100000 in
theorem copsAt_open {H : Type} {enc : TypeId × Value → H} {W : World} {base : Nat} {spare : Nat → Bool} {held : Bool} {ao : Option Addr} {len cap : Nat} {d : DataW H} {p : List MemPlace}
    (h : DataW.Trod enc Tryd.prog W base spare held 47 (.slice ao len cap) d p) : ∃ ps, CopsAt W (.slice ao len cap) ps := by
  obtain ⟨fuel, hf⟩ := h
  have ce : Tryd.prog.cellsOf 59 = 3 := by kernel_rfl
  have ci : Tryd.prog.cellsOf 3 = 1 := by kernel_rfl
  rcases Go.Deep.open_slice Tryd.underlying47 hf with ⟨hcs, _⟩ | ⟨a, l, c, m, n, D, Pl, hcs, _, hl, hm, hmm, _, hx⟩
  · simp [Value.cells] at hcs
    obtain ⟨rfl, rfl, rfl⟩ := hcs
    exact ⟨[], none, 0, 0, rfl, rfl, Nat.le_refl _, Nat.zero_le _, fun h => absurd h (Nat.lt_irrefl _), fun p hp => by cases hp⟩
  · simp [Value.cells] at hcs
    obtain ⟨rfl, rfl, rfl⟩ := hcs
    have hlm : len ≤ m := by rw [hmm]; split <;> omega
    have key : ∀ i, i < len → ∃ q : Int × Int × Int, W.cell? (a.add (i * 3)) = some (.int .i64 q.1) ∧ W.cell? (a.add (i * 3 + 1)) = some (.int .i64 q.2.1) ∧ W.cell? (a.add (i * 3 + 2)) = some (.int .i64 q.2.2) ∧
        (Lit.int .i64 q.1).wf = true ∧ (Lit.int .i64 q.2.1).wf = true ∧ (Lit.int .i64 q.2.2).wf = true := by
      intro i hi
      obtain ⟨cs', h1, h2⟩ := hx i (by omega)
      rw [ce] at h1
      obtain ⟨_, hlen, hcell⟩ := World.cells?_some h1
      obtain ⟨xs, k, hk, hxy, _, hxl, hfs⟩ := DataW.trod_struct Tryd.underlying59 h2
      match xs, hxl, cs', hlen with
      | [y0, y1, y2], _, [v0, v1, v2], _ =>
        have g0 := hfs 0 _ rfl
        have g1 := hfs 1 _ rfl
        have g2 := hfs 2 _ rfl
        simp [ci] at g0 g1 g2
        have e0 := hcell 0 (by omega)
        have e1 := hcell 1 (by omega)
        have e2 := hcell 2 (by omega)
        rw [Go.Deep.add_add] at e0 e1 e2
        obtain ⟨n0, f0, _, w0⟩ := DataW.trod_int Tryd.underlying3 g0
        obtain ⟨n1, f1, _, w1⟩ := DataW.trod_int Tryd.underlying3 g1
        obtain ⟨n2, f2, _, w2⟩ := DataW.trod_int Tryd.underlying3 g2
        have f0' : v0 = .int .i64 n0 := by simpa using f0
        have f1' : v1 = .int .i64 n1 := by simpa using f1
        have f2' : v2 = .int .i64 n2 := by simpa using f2
        subst f0' f1' f2'
        exact ⟨(n0, n1, n2), by simpa using e0, by simpa using e1, by simpa using e2, w0, w1, w2⟩
    obtain ⟨q, hq⟩ := Go.Deep.choose_lt key
    have hlen : ((List.range len).map q).length = len := by simp
    have hget : ∀ i, i < len → ((List.range len).map q).getD i (0, 0, 0) = q i := fun i hi => by
      rw [List.getD_eq_getElem?_getD, List.getElem?_map, List.getElem?_range hi]; rfl
    refine ⟨(List.range len).map q, some a, len, cap, rfl, hlen.symm, hl, hm, fun h0 => ?_, fun p hp => ?_⟩
    · obtain ⟨b, o, sp⟩ := a
      have h1 := (hq 0 (by omega)).1
      have hspot : sp = none := by simpa [Addr.add] using World.cell?_spot h1
      subst hspot
      refine ⟨b, o, rfl, World.block_lt_of_cell? _ _ h1, fun i hi => ?_⟩
      obtain ⟨g0, g1, g2, _⟩ := hq i hi
      rw [add_plain] at g0 g1 g2
      rw [hget i hi]
      exact ⟨g0, by rw [Nat.add_assoc]; exact g1, by rw [Nat.add_assoc]; exact g2⟩
    · obtain ⟨i, hi, rfl⟩ := List.mem_map.1 hp
      exact (hq i (List.mem_range.1 hi)).2.2.2
end Go.Proofs.YthdckapgpibmiaaDoor
