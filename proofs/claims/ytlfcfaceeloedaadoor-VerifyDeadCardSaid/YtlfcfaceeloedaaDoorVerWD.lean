/-
  The walk of package verify's Shapes.
-/
import Derived.Test.YtlfcfaceeloedaaDoorVerWC
import Derived.Test.YtlfcfaceeloedaaDoorLate
namespace Go.Proofs.YtlfcfaceeloedaaDoor
open Go.RowKit Go.Shelf Cd Ve

/-- A shape, as it is told. -/
abbrev Sh := Bool × List Int
def shOf (l : List Sd) : List Sh := l.map fun d => (d.isSome, kindsI (d.getD []))
/-- A slice that reads as these shapes, none of which lies in S. -/
def ShpsAt (S : Nat → Prop) (w : World) (v : Value) (ss : List Sh) : Prop :=
  ∃ ao n cap, v = .slice ao n cap ∧ n = ss.length ∧ n ≤ cap ∧ cap ≤ maxLen ∧ ∀ (i : Nat) (s : Sh), ss[i]? = some s → ∃ b o kv, ao = some ⟨b, o, none⟩ ∧ ¬ S b ∧ w.cell? ⟨b, o + i * 2, none⟩ = some (.bool s.1) ∧ w.cell? ⟨b, o + i * 2 + 1, none⟩ = some kv ∧ IntsAt w kv s.2 ∧ Off kv S
theorem ShpsAt.keeps {S S' : Nat → Prop} {w w' : World} {v : Value} {ss : List Sh} (h : ShpsAt S w v ss) (hk : Keeps S' w w') (hS : ∀ b, S' b → S b) : ShpsAt S w' v ss := by
  obtain ⟨ao, n, cap, h1, h2, h3, h4, h5⟩ := h
  refine ⟨ao, n, cap, h1, h2, h3, h4, fun i s hi => ?_⟩
  obtain ⟨b, o, kv, q1, q2, q3, q4, q5, q6⟩ := h5 i s hi
  exact ⟨b, o, kv, q1, q2, hk.cell_of q3 (fun e => q2 (hS _ e)), hk.cell_of q4 (fun e => q2 (hS _ e)), q5.keeps hk (fun c hc e => q6 c hc (hS _ e)), q6⟩
theorem ShpsAt.mono {S S' : Nat → Prop} {w : World} {v : Value} {ss : List Sh} (h : ShpsAt S w v ss) (hS : ∀ b, S' b → S b) : ShpsAt S' w v ss := by
  obtain ⟨ao, n, cap, h1, h2, h3, h4, h5⟩ := h
  refine ⟨ao, n, cap, h1, h2, h3, h4, fun i s hi => ?_⟩
  obtain ⟨b, o, kv, q1, q2, q3, q4, q5, q6⟩ := h5 i s hi
  exact ⟨b, o, kv, q1, fun e => q2 (hS _ e), q3, q4, q5, fun c hc e => q6 c hc (hS _ e)⟩
/-- A slice of slices that reads as these shapes. -/
def TellsAt (w : World) (v : Value) (l : List (List Sh)) : Prop :=
  ∃ ao n cap, v = .slice ao n cap ∧ n = l.length ∧ n ≤ cap ∧ cap ≤ maxLen ∧ ∀ (i : Nat) (ss : List Sh), l[i]? = some ss → ∃ b o sv, ao = some ⟨b, o, none⟩ ∧ w.cell? ⟨b, o + i, none⟩ = some sv ∧ ShpsAt (fun _ => False) w sv ss
theorem TellsAt.below {w w' : World} {v : Value} {l : List (List Sh)} (h : TellsAt w v l) (hb : Below w.heap.size w w') : TellsAt w' v l := by
  obtain ⟨ao, n, cap, h1, h2, h3, h4, h5⟩ := h
  refine ⟨ao, n, cap, h1, h2, h3, h4, fun i ss hi => ?_⟩
  obtain ⟨b, o, sv, q1, q2, q3⟩ := h5 i ss hi
  exact ⟨b, o, sv, q1, (keeps_none hb).cell_of q2 id, q3.keeps (keeps_none hb) fun _ e => e⟩
theorem info_shapes : (Tryd.prog.info? 43).map (fun i => (i.zero, i.size, i.bytes)) = some (some (.slice none 0 0), 1, 24) := by kernel_rfl
theorem info_shape : (Tryd.prog.info? 49).map (fun i => (i.zero, i.size, i.bytes)) = some (some (.agg #[.bool false, .slice none 0 0]), 2, 32) := by kernel_rfl
theorem make_shapes (n : Nat) (h : n ≤ 100000) : ∃ cs : Array Value, cs.toList = List.replicate n (.slice none 0 0) ∧ ∀ W : World,
    (Instr.makeSlice 39 (.int .i64 n) (.int .i64 n)).run Tryd.prog W = .ok (.slice (some ⟨W.heap.size, 0, none⟩) n n) (W.alloc (.cells cs 43)) := by
  obtain ⟨i0, hi, hz0, hz1, hz2⟩ := info_parts info_shapes
  refine ⟨madeCells (Value.cells (.slice none 0 0)) (n * 1), ?_, fun W => ?_⟩
  · apply List.ext_getElem
    · simp [size_madeCells]
    · intro i h1 h2
      simp [madeCells, Value.cells, Nat.mod_one]
  · have := run_make (P := Tryd.prog) W 39 43 i0 (.slice none 0 0) Tryd.underlying39 hi hz0 .i64 .i64 n n (by omega) (by omega) (by rw [hz2]; omega) (by omega)
    rw [this]
    simp only [Int.toNat_natCast, hz1]
/-- A row of shapes that is under way. -/
abbrev Rw := Bool × Value × List Int
def rwC (r : Rw) : List Value := [.bool r.1, r.2.1]
structure RowJ (B : Nat) (w : World) (v : Value) (row : List Rw) : Prop where
  own : w.ownsRow B 49 2 v row.length (row.flatMap rwC)
  each : ∀ r ∈ row, OwnI w B r.2.1 r.2.2 ∧ ∀ c, r.2.1.ownBlock = some c → v.ownBlock ≠ some c
theorem rowJ_nil (B : Nat) (w : World) : RowJ B w (.slice none 0 0) [] := ⟨World.ownsRow_nil _ _ _ _, fun r h => by cases h⟩
theorem rwC_get : ∀ (row : List Rw) (i : Nat) (r : Rw), row[i]? = some r → (row.flatMap rwC)[i * 2]? = some (.bool r.1) ∧ (row.flatMap rwC)[i * 2 + 1]? = some r.2.1
  | [], _, _, h => by simp at h
  | e :: l, 0, r, h => by cases h; exact ⟨rfl, rfl⟩
  | e :: l, k + 1, r, h => by
    obtain ⟨h1, h2⟩ := rwC_get l k r (by simpa using h)
    rw [List.flatMap_cons, show (k + 1) * 2 = k * 2 + 1 + 1 by omega]
    exact ⟨by simpa [rwC] using h1, by simpa [rwC] using h2⟩
theorem addr_add (b j : Nat) : (⟨b, 0, none⟩ : Addr).add j = ⟨b, j, none⟩ := by unfold Addr.add; split <;> simp_all
/-- What was made is told. -/
theorem RowJ.done {S : Nat → Prop} {B : Nat} {w : World} {v : Value} {row : List Rw} (h : RowJ B w v row) (hS : ∀ b, S b → b < B) : ShpsAt S w v (row.map fun r => (r.1, r.2.2)) := by
  have ho := h.own
  rcases h.own.2 with ⟨rfl, h0⟩ | ⟨g, cap, cur, rfl, h3, h4, h5, h6, h7, h8⟩
  · obtain rfl : row = [] := List.eq_nil_of_length_eq_zero h0
    exact ⟨none, 0, 0, rfl, rfl, Nat.le_refl _, Nat.zero_le _, fun i s hi => by simp at hi⟩
  · refine ⟨_, _, _, rfl, by rw [List.length_map], h5, h6, fun i s hi => ?_⟩
    rw [List.getElem?_map] at hi
    obtain ⟨r, hr, rfl⟩ := Option.map_eq_some_iff.1 hi
    obtain ⟨g1, g2⟩ := rwC_get row i r hr
    have e1 := World.ownsRow.cells ho (g := g) rfl _ _ g1
    have e2 := World.ownsRow.cells ho (g := g) rfl _ _ g2
    rw [addr_add] at e1 e2
    have k1 := (h.each r (List.mem_of_getElem? hr)).1
    exact ⟨g, 0, r.2.1, rfl, fun e => by have := hS _ e; omega, by rw [Nat.zero_add]; exact e1, by rw [Nat.zero_add]; exact e2, k1.ints, fun c hc e => by have := hS _ e; have := k1.le c hc; omega⟩
end Go.Proofs.YtlfcfaceeloedaaDoor
