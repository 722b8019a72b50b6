/-
  Deals that came in: what a walk is told of them.
-/
import Derived.Test.YtpehmghnfbkaaaaPipeND
import Derived.WalkKit
import Derived.OpenShut
import Derived.ProofKit
import Derived.Deep.SlicePairs
namespace Go.Proofs.Ytpehmghnfbkaaaa
open Go.RowKit Go.ChangeShapes Go.WideShapes Go.ChangeAt Pp

instance : Inhabited Tk := ⟨⟨0, 0, 0⟩⟩
instance : Inhabited De := ⟨⟨[], 0⟩⟩
set_option maxRecDepth 100000 in
theorem talksC_open {H : Type} {enc : TypeId × Value → H} {W : World} {base : Nat} {spare : Nat → Bool} {held : Bool} {fuel : Nat} {cs : List Value} {x : DataW H × List MemPlace}
    (hf : DataW.trod enc Try.prog W base spare held fuel 36 cs = some x) : ∃ v tk, cs = [v] ∧ TalksAt W v tk := by
  have ce : Try.prog.cellsOf 61 = 3 := by kernel_rfl
  have ci : Try.prog.cellsOf 3 = 1 := by kernel_rfl
  rcases Go.Deep.open_slice Try.underlying36 hf with ⟨hcs, _⟩ | ⟨a, len, cap, m, n, D, Pl, hcs, _, hl, hm, hmm, _, hx⟩
  · exact ⟨_, [], hcs, none, 0, 0, rfl, rfl, Nat.le_refl _, Nat.zero_le _, fun h => absurd h (Nat.lt_irrefl _)⟩
  · have hlm : len ≤ m := by rw [hmm]; split <;> omega
    have key : ∀ i, i < len → ∃ q : Tk, W.cell? (a.add (i * 3)) = some (.int .i64 q.what) ∧ W.cell? (a.add (i * 3 + 1)) = some (.int .i64 q.chan) ∧ W.cell? (a.add (i * 3 + 2)) = some (.int .i64 q.n) := by
      intro i hi
      obtain ⟨cs', h1, h2⟩ := hx i (by omega)
      rw [ce] at h1
      obtain ⟨_, hlen, hcell⟩ := World.cells?_some h1
      obtain ⟨xs, k, hk, hxy, _, hxl, hfs⟩ := DataW.trod_struct Try.underlying61 h2
      match xs, hxl, cs', hlen with
      | [y0, y1, y2], _, [v0, v1, v2], _ =>
        have g0 := hfs 0 _ rfl
        have g1 := hfs 1 _ rfl
        have g2 := hfs 2 _ rfl
        simp [ci] at g0 g1 g2
        have e0 := hcell 0 (by omega)
        have e1 := hcell 1 (by omega)
        have e2 := hcell 2 (by omega)
        rw [Go.Deep.add_add] at e0 e1 e2
        obtain ⟨n0, f0, _, w0⟩ := DataW.trod_int Try.underlying3 g0
        obtain ⟨n1, f1, _, w1⟩ := DataW.trod_int Try.underlying3 g1
        obtain ⟨n2, f2, _, w2⟩ := DataW.trod_int Try.underlying3 g2
        have f0' : v0 = .int .i64 n0 := by simpa using f0
        have f1' : v1 = .int .i64 n1 := by simpa using f1
        have f2' : v2 = .int .i64 n2 := by simpa using f2
        subst f0' f1' f2'
        exact ⟨⟨n0, n1, n2⟩, by simpa using e0, by simpa using e1, by simpa using e2⟩
    obtain ⟨q, hq⟩ := Go.Deep.choose_lt key
    refine ⟨_, (List.range len).map q, hcs, some a, len, cap, rfl, by simp, hl, hm, fun h0 => ?_⟩
    obtain ⟨b, o, sp⟩ := a
    have h1 := (hq 0 (by omega)).1
    have hspot : sp = none := by simpa [Addr.add] using World.cell?_spot h1
    subst hspot
    refine ⟨b, o, rfl, World.block_lt_of_cell? _ _ h1, fun i x hi => ?_⟩
    rw [List.getElem?_map] at hi
    obtain ⟨j, hj, rfl⟩ := Option.map_eq_some_iff.1 hi
    have hil := (List.getElem?_eq_some_iff.1 hj).1
    rw [List.length_range] at hil
    rw [List.getElem?_range hil] at hj
    cases hj
    obtain ⟨g0, g1, g2⟩ := hq i hil
    rw [add_plain] at g0 g1 g2
    exact ⟨g0, by rw [Nat.add_assoc]; exact g1, by rw [Nat.add_assoc]; exact g2⟩
set_option maxRecDepth 100000 in
theorem dealsAt_open {H : Type} {enc : TypeId × Value → H} {W : World} {base : Nat} {spare : Nat → Bool} {held : Bool} {ao : Option Addr} {len cap : Nat} {d : DataW H} {p : List MemPlace}
    (h : DataW.Trod enc Try.prog W base spare held 53 (.slice ao len cap) d p) : ∃ l, DealsAt W (.slice ao len cap) l := by
  obtain ⟨fuel, hf⟩ := h
  have ce : Try.prog.cellsOf 83 = 2 := by kernel_rfl
  have ci : Try.prog.cellsOf 3 = 1 := by kernel_rfl
  have ct : Try.prog.cellsOf 36 = 1 := by kernel_rfl
  rcases Go.Deep.open_slice Try.underlying53 hf with ⟨hcs, _⟩ | ⟨a, l, c, m, n, D, Pl, hcs, _, hl, hm, hmm, _, hx⟩
  · simp [Value.cells] at hcs
    obtain ⟨rfl, rfl, rfl⟩ := hcs
    exact ⟨[], none, 0, 0, rfl, rfl, Nat.le_refl _, Nat.zero_le _, fun h => absurd h (Nat.lt_irrefl _)⟩
  · simp [Value.cells] at hcs
    obtain ⟨rfl, rfl, rfl⟩ := hcs
    have hlm : len ≤ m := by rw [hmm]; split <;> omega
    have key : ∀ i, i < len → ∃ q : De, ∃ vt, W.cell? (a.add (i * 2)) = some vt ∧ W.cell? (a.add (i * 2 + 1)) = some (.int .i64 q.draw) ∧ TalksAt W vt q.talks ∧ (Lit.int .i64 q.draw).wf = true := by
      intro i hi
      obtain ⟨cs', h1, h2⟩ := hx i (by omega)
      rw [ce] at h1
      obtain ⟨_, hlen, hcell⟩ := World.cells?_some h1
      obtain ⟨xs, k, hk, hxy, _, hxl, hfs⟩ := DataW.trod_struct Try.underlying83 h2
      match xs, hxl, cs', hlen with
      | [y0, y1], _, [v0, v1], _ =>
        have g0 := hfs 0 _ rfl
        have g1 := hfs 1 _ rfl
        simp [ci, ct] at g0 g1
        have e0 := hcell 0 (by omega)
        have e1 := hcell 1 (by omega)
        rw [Go.Deep.add_add] at e0 e1
        obtain ⟨v, tk, f0, ht⟩ := talksC_open g0
        obtain ⟨n1, f1, _, w1⟩ := DataW.trod_int Try.underlying3 g1
        have f0' : v0 = v := by simpa using f0
        have f1' : v1 = .int .i64 n1 := by simpa using f1
        subst f0' f1'
        exact ⟨⟨tk, n1⟩, v0, by simpa using e0, by simpa using e1, ht, w1⟩
    obtain ⟨q, hq⟩ := Go.Deep.choose_lt key
    refine ⟨(List.range len).map q, some a, len, cap, rfl, by simp, hl, hm, fun h0 => ?_⟩
    obtain ⟨b, o, sp⟩ := a
    obtain ⟨_, h1, _⟩ := hq 0 (by omega)
    have hspot : sp = none := by simpa [Addr.add] using World.cell?_spot h1
    subst hspot
    refine ⟨b, o, rfl, World.block_lt_of_cell? _ _ h1, fun i x hi => ?_⟩
    rw [List.getElem?_map] at hi
    obtain ⟨j, hj, rfl⟩ := Option.map_eq_some_iff.1 hi
    have hil := (List.getElem?_eq_some_iff.1 hj).1
    rw [List.length_range] at hil
    rw [List.getElem?_range hil] at hj
    cases hj
    obtain ⟨vt, g0, g1, g2, g3⟩ := hq i hil
    rw [add_plain] at g0 g1
    exact ⟨vt, g0, by rw [Nat.add_assoc]; exact g1, g2, bounds_i64 g3⟩
end Go.Proofs.Ytpehmghnfbkaaaa
