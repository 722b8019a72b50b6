/-
  A program of instructions that came in: what a walk is told of it.
-/
import Derived.Test.YtlfcfaceeloedaaDoorCodeAt
import Derived.WalkKit
import Derived.OpenShut
import Derived.ProofKit
import Derived.Deep.SlicePairs
namespace Go.Proofs.YtlfcfaceeloedaaDoor
open Go.RowKit Go.ChangeShapes Go.WideShapes Go.ChangeAt Cd

set_option maxRecDepth 100000 in
theorem insC_open {H : Type} {enc : TypeId × Value → H} {W : World} {base : Nat} {spare : Nat → Bool} {held : Bool} {fuel : Nat} {cs : List Value} {x : DataW H × List MemPlace}
    (hf : DataW.trod enc Tryd.prog W base spare held fuel 45 cs = some x) : ∃ v l, cs = [v] ∧ InsAt W v l := by
  have ce : Tryd.prog.cellsOf 37 = 2 := by kernel_rfl
  have ci : Tryd.prog.cellsOf 3 = 1 := by kernel_rfl
  rcases Go.Deep.open_slice Tryd.underlying45 hf with ⟨hcs, _⟩ | ⟨a, len, cap, m, n, D, Pl, hcs, _, hl, hm, hmm, _, hx⟩
  · exact ⟨_, [], hcs, insAt_nil W⟩
  · have hlm : len ≤ m := by rw [hmm]; split <;> omega
    have key : ∀ i, i < len → ∃ q : In, W.cell? (a.add (i * 2)) = some (.int .i64 q.1) ∧ W.cell? (a.add (i * 2 + 1)) = some (.int .i64 q.2) := by
      intro i hi
      obtain ⟨cs', h1, h2⟩ := hx i (by omega)
      rw [ce] at h1
      obtain ⟨_, hlen, hcell⟩ := World.cells?_some h1
      obtain ⟨xs, k, hk, hxy, _, hxl, hfs⟩ := DataW.trod_struct Tryd.underlying37 h2
      match xs, hxl, cs', hlen with
      | [y0, y1], _, [v0, v1], _ =>
        have g0 := hfs 0 _ rfl
        have g1 := hfs 1 _ rfl
        simp [ci] at g0 g1
        have e0 := hcell 0 (by omega)
        have e1 := hcell 1 (by omega)
        rw [Go.Deep.add_add] at e0 e1
        obtain ⟨n0, f0, _, w0⟩ := DataW.trod_int Tryd.underlying3 g0
        obtain ⟨n1, f1, _, w1⟩ := DataW.trod_int Tryd.underlying3 g1
        have f0' : v0 = .int .i64 n0 := by simpa using f0
        have f1' : v1 = .int .i64 n1 := by simpa using f1
        subst f0' f1'
        exact ⟨(n0, n1), by simpa using e0, by simpa using e1⟩
    obtain ⟨q, hq⟩ := Go.Deep.choose_lt key
    refine ⟨_, (List.range len).map q, hcs, some a, len, cap, rfl, by simp, hl, hm, fun h0 => ?_⟩
    obtain ⟨b, o, sp⟩ := a
    have h1 := (hq 0 (by omega)).1
    have hspot : sp = none := by simpa [Addr.add] using World.cell?_spot h1
    subst hspot
    refine ⟨b, o, rfl, World.block_lt_of_cell? _ _ h1, fun i x hi => ?_⟩
    rw [List.getElem?_map] at hi
    obtain ⟨j, hj, rfl⟩ := Option.map_eq_some_iff.1 hi
    have hil := (List.getElem?_eq_some_iff.1 hj).1
    rw [List.length_range] at hil
    rw [List.getElem?_range hil] at hj
    cases hj
    obtain ⟨g0, g1⟩ := hq i hil
    rw [add_plain] at g0 g1
    exact ⟨g0, by rw [Nat.add_assoc]; exact g1⟩
set_option maxRecDepth 100000 in
theorem intsC_open {H : Type} {enc : TypeId × Value → H} {W : World} {base : Nat} {spare : Nat → Bool} {held : Bool} {fuel : Nat} {cs : List Value} {x : DataW H × List MemPlace}
    (hf : DataW.trod enc Tryd.prog W base spare held fuel 44 cs = some x) : ∃ v l, cs = [v] ∧ IntsAt W v l := by
  have ci : Tryd.prog.cellsOf 3 = 1 := by kernel_rfl
  rcases open_ints Tryd.underlying44 Tryd.underlying3 ci hf with ⟨hcs, _⟩ | ⟨a, len, cap, zs, hcs, _, hl, hm, hz, _, hcell, hwz⟩
  · exact ⟨_, [], hcs, intsAt_nil W⟩
  · have hlz : len ≤ zs.length := by rw [hz]; split <;> omega
    refine ⟨_, zs.take len, hcs, some a, len, cap, rfl, by rw [List.length_take]; omega, hl, hm, fun h0 => ?_⟩
    obtain ⟨b, o, sp⟩ := a
    have h1 := hcell 0 (by omega)
    have hspot : sp = none := by simpa [Addr.add] using World.cell?_spot h1
    subst hspot
    refine ⟨b, o, rfl, World.block_lt_of_cell? _ _ (hcell 0 (by omega)), fun i hi => ?_⟩
    have := hcell i (by omega)
    rw [add_plain] at this
    rw [this]
    simp [List.getD_eq_getElem?_getD, hi]
set_option maxRecDepth 100000 in
theorem fnsC_open {H : Type} {enc : TypeId × Value → H} {W : World} {base : Nat} {spare : Nat → Bool} {held : Bool} {fuel : Nat} {cs : List Value} {x : DataW H × List MemPlace}
    (hf : DataW.trod enc Tryd.prog W base spare held fuel 22 cs = some x) : ∃ v l, cs = [v] ∧ FnsAt W v l := by
  have ce : Tryd.prog.cellsOf 47 = 4 := by kernel_rfl
  have ci : Tryd.prog.cellsOf 3 = 1 := by kernel_rfl
  have cl : Tryd.prog.cellsOf 44 = 1 := by kernel_rfl
  have cn : Tryd.prog.cellsOf 45 = 1 := by kernel_rfl
  rcases Go.Deep.open_slice Tryd.underlying22 hf with ⟨hcs, _⟩ | ⟨a, len, cap, m, n, D, Pl, hcs, _, hl, hm, hmm, _, hx⟩
  · exact ⟨_, [], hcs, fnsAt_nil W⟩
  · have hlm : len ≤ m := by rw [hmm]; split <;> omega
    have key : ∀ i, i < len → ∃ q : FnV, W.cell? (a.add (i * 4)) = some (.int .i64 q.params) ∧ (∃ vl, W.cell? (a.add (i * 4 + 1)) = some vl ∧ IntsAt W vl q.locals) ∧ W.cell? (a.add (i * 4 + 2)) = some (.int .i64 q.kind) ∧ ∃ vc, W.cell? (a.add (i * 4 + 3)) = some vc ∧ InsAt W vc q.code := by
      intro i hi
      obtain ⟨cs', h1, h2⟩ := hx i (by omega)
      rw [ce] at h1
      obtain ⟨_, hlen, hcell⟩ := World.cells?_some h1
      obtain ⟨xs, k, hk, hxy, _, hxl, hfs⟩ := DataW.trod_struct Tryd.underlying47 h2
      match xs, hxl, cs', hlen with
      | [y0, y1, y2, y3], _, [v0, v1, v2, v3], _ =>
        have g0 := hfs 0 _ rfl
        have g1 := hfs 1 _ rfl
        have g2 := hfs 2 _ rfl
        have g3 := hfs 3 _ rfl
        simp [ci, cl, cn] at g0 g1 g2 g3
        have e0 := hcell 0 (by omega)
        have e1 := hcell 1 (by omega)
        have e2 := hcell 2 (by omega)
        have e3 := hcell 3 (by omega)
        rw [Go.Deep.add_add] at e0 e1 e2 e3
        obtain ⟨n0, f0, _, w0⟩ := DataW.trod_int Tryd.underlying3 g0
        obtain ⟨vl, ls, f1, hls⟩ := intsC_open g1
        obtain ⟨n2, f2, _, w2⟩ := DataW.trod_int Tryd.underlying3 g2
        obtain ⟨vc, is, f3, his⟩ := insC_open g3
        have f0' : v0 = .int .i64 n0 := by simpa using f0
        have f1' : v1 = vl := by simpa using f1
        have f2' : v2 = .int .i64 n2 := by simpa using f2
        have f3' : v3 = vc := by simpa using f3
        subst f0' f1' f2' f3'
        exact ⟨⟨n0, ls, n2, is⟩, by simpa using e0, ⟨v1, by simpa using e1, hls⟩, by simpa using e2, v3, by simpa using e3, his⟩
    obtain ⟨q, hq⟩ := Go.Deep.choose_lt key
    refine ⟨_, (List.range len).map q, hcs, some a, len, cap, rfl, by simp, hl, hm, fun h0 => ?_⟩
    obtain ⟨b, o, sp⟩ := a
    have h1 := (hq 0 (by omega)).1
    have hspot : sp = none := by simpa [Addr.add] using World.cell?_spot h1
    subst hspot
    refine ⟨b, o, rfl, World.block_lt_of_cell? _ _ h1, fun i x hi => ?_⟩
    rw [List.getElem?_map] at hi
    obtain ⟨j, hj, rfl⟩ := Option.map_eq_some_iff.1 hi
    have hil := (List.getElem?_eq_some_iff.1 hj).1
    rw [List.length_range] at hil
    rw [List.getElem?_range hil] at hj
    cases hj
    obtain ⟨g0, ⟨vl, g1, g1'⟩, g2, vc, g3, g3'⟩ := hq i hil
    rw [add_plain] at g0 g1 g2 g3
    exact ⟨g0, ⟨vl, by rw [Nat.add_assoc]; exact g1, g1'⟩, by rw [Nat.add_assoc]; exact g2, vc, by rw [Nat.add_assoc]; exact g3, g3'⟩
set_option maxRecDepth 100000 in
theorem progAt_open {H : Type} {enc : TypeId × Value → H} {W : World} {base : Nat} {spare : Nat → Bool} {held : Bool} {v : Value} {d : DataW H} {p : List MemPlace}
    (hw : ∃ cs, v = .agg cs ∧ cs.size = Tryd.prog.cellsOf 24) (h : DataW.Trod enc Tryd.prog W base spare held 24 v d p) : ∃ (g : Int) (vf : Value) (q : Pg), v = .agg #[.int .i64 g, vf] ∧ ProgAt W (.agg #[.int .i64 g, vf]) q := by
  have cp : Tryd.prog.cellsOf 24 = 2 := by kernel_rfl
  have ci : Tryd.prog.cellsOf 3 = 1 := by kernel_rfl
  have cf : Tryd.prog.cellsOf 22 = 1 := by kernel_rfl
  obtain ⟨cs, rfl, hsz⟩ := hw
  rw [cp] at hsz
  obtain ⟨fuel, hf⟩ := h
  obtain ⟨xs, k, hk, hxy, _, hxl, hfs⟩ := DataW.trod_struct Tryd.underlying24 hf
  obtain ⟨l⟩ := cs
  match xs, hxl, l, hsz with
  | [y0, y1], _, [v0, v1], _ =>
    have g0 := hfs 0 _ rfl
    have g1 := hfs 1 _ rfl
    simp [ci, cf, Value.cells] at g0 g1
    obtain ⟨n0, f0, _, w0⟩ := DataW.trod_int Tryd.underlying3 g0
    obtain ⟨vf, fs, f1, hfs'⟩ := fnsC_open g1
    have f0' : v0 = .int .i64 n0 := by simpa using f0
    have f1' : v1 = vf := by simpa using f1
    subst f0' f1'
    exact ⟨n0, v1, ⟨n0, fs⟩, rfl, _, rfl, hfs'⟩
set_option maxRecDepth 100000 in
theorem fnV_open {H : Type} {enc : TypeId × Value → H} {W : World} {base : Nat} {spare : Nat → Bool} {held : Bool} {v : Value} {d : DataW H} {p : List MemPlace}
    (hw : ∃ cs, v = .agg cs ∧ cs.size = Tryd.prog.cellsOf 47) (h : DataW.Trod enc Tryd.prog W base spare held 47 v d p) : ∃ (f : FnV) (pa : Int) (vl : Value) (ki : Int) (vc : Value), v = .agg #[.int .i64 pa, vl, .int .i64 ki, vc] ∧ pa = f.params ∧ ki = f.kind ∧ IntsAt W vl f.locals ∧ InsAt W vc f.code := by
  have cp : Tryd.prog.cellsOf 47 = 4 := by kernel_rfl
  have ci : Tryd.prog.cellsOf 3 = 1 := by kernel_rfl
  have cf : Tryd.prog.cellsOf 44 = 1 := by kernel_rfl
  have cg : Tryd.prog.cellsOf 45 = 1 := by kernel_rfl
  obtain ⟨cs, rfl, hsz⟩ := hw
  rw [cp] at hsz
  obtain ⟨fuel, hf⟩ := h
  obtain ⟨xs, k, hk, hxy, _, hxl, hfs⟩ := DataW.trod_struct Tryd.underlying47 hf
  obtain ⟨l⟩ := cs
  match xs, hxl, l, hsz with
  | [y0, y1, y2, y3], _, [v0, v1, v2, v3], _ =>
    have g0 := hfs 0 _ rfl
    have g1 := hfs 1 _ rfl
    have g2 := hfs 2 _ rfl
    have g3 := hfs 3 _ rfl
    simp [ci, cf, cg, Value.cells] at g0 g1 g2 g3
    obtain ⟨n0, f0, _, w0⟩ := DataW.trod_int Tryd.underlying3 g0
    obtain ⟨vl, ls, f1, hls⟩ := intsC_open g1
    obtain ⟨n2, f2, _, w2⟩ := DataW.trod_int Tryd.underlying3 g2
    obtain ⟨vc, is, f3, his⟩ := insC_open g3
    have f0' : v0 = .int .i64 n0 := by simpa using f0
    have f1' : v1 = vl := by simpa using f1
    have f2' : v2 = .int .i64 n2 := by simpa using f2
    have f3' : v3 = vc := by simpa using f3
    subst f0' f1' f2' f3'
    exact ⟨⟨n0, ls, n2, is⟩, n0, v1, n2, v3, rfl, rfl, rfl, hls, his⟩
set_option maxRecDepth 100000 in
theorem insV_open {H : Type} {enc : TypeId × Value → H} {W : World} {base : Nat} {spare : Nat → Bool} {held : Bool} {v : Value} {d : DataW H} {p : List MemPlace}
    (hw : ∃ cs, v = .agg cs ∧ cs.size = Tryd.prog.cellsOf 37) (h : DataW.Trod enc Tryd.prog W base spare held 37 v d p) : ∃ (a b : Int), v = .agg #[.int .i64 a, .int .i64 b] := by
  have cp : Tryd.prog.cellsOf 37 = 2 := by kernel_rfl
  have ci : Tryd.prog.cellsOf 3 = 1 := by kernel_rfl
  obtain ⟨cs, rfl, hsz⟩ := hw
  rw [cp] at hsz
  obtain ⟨fuel, hf⟩ := h
  obtain ⟨xs, k, hk, hxy, _, hxl, hfs⟩ := DataW.trod_struct Tryd.underlying37 hf
  obtain ⟨l⟩ := cs
  match xs, hxl, l, hsz with
  | [y0, y1], _, [v0, v1], _ =>
    have g0 := hfs 0 _ rfl
    have g1 := hfs 1 _ rfl
    simp [ci, Value.cells] at g0 g1
    obtain ⟨n0, f0, _, w0⟩ := DataW.trod_int Tryd.underlying3 g0
    obtain ⟨n1, f1, _, w1⟩ := DataW.trod_int Tryd.underlying3 g1
    have f0' : v0 = .int .i64 n0 := by simpa using f0
    have f1' : v1 = .int .i64 n1 := by simpa using f1
    subst f0' f1'
    exact ⟨n0, n1, rfl⟩
end Go.Proofs.YtlfcfaceeloedaaDoor
