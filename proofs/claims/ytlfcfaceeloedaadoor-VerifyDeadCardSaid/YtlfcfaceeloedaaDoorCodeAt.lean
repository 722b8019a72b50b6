/-
  Programs of instructions as they lie in memory: to be read.
-/
import Derived.Test.YtlfcfaceeloedaaDoorCodeM2
import Derived.Test.YtlfcfaceeloedaaDoorOwnI
namespace Go.Proofs.YtlfcfaceeloedaaDoor
open Go.RowKit Cd

/-- A slice that reads as these instructions. -/
def InsAt (w : World) (v : Value) (l : List In) : Prop :=
  ∃ ao n cap, v = .slice ao n cap ∧ n = l.length ∧ n ≤ cap ∧ cap ≤ maxLen ∧ (0 < n → ∃ b o, ao = some ⟨b, o, none⟩ ∧ b < w.heap.size ∧ ∀ i x, l[i]? = some x → w.cell? ⟨b, o + i * 2, none⟩ = some (.int .i64 x.1) ∧ w.cell? ⟨b, o + i * 2 + 1, none⟩ = some (.int .i64 x.2))
theorem insAt_nil (w : World) : InsAt w (.slice none 0 0) [] := ⟨none, 0, 0, rfl, rfl, Nat.le_refl _, Nat.zero_le _, fun h => absurd h (Nat.lt_irrefl _)⟩
theorem InsAt.keeps {S : Nat → Prop} {w w' : World} {v : Value} {l : List In} (h : InsAt w v l) (hk : Keeps S w w') (ho : Off v S) : InsAt w' v l := by
  obtain ⟨ao, n, cap, hv, hn, hc, hm, hx⟩ := h
  refine ⟨ao, n, cap, hv, hn, hc, hm, fun h0 => ?_⟩
  obtain ⟨b, o, h1, h2, h3⟩ := hx h0
  have hs : ¬ S b := ho b (by rw [hv, h1]; rfl)
  exact ⟨b, o, h1, Nat.lt_of_lt_of_le h2 hk.size, fun i x hi => ⟨hk.cell_of (h3 i x hi).1 hs, hk.cell_of (h3 i x hi).2 hs⟩⟩
theorem off_none (v : Value) : Off v fun _ => False := fun _ _ => id
theorem keeps_none {w w' : World} (h : Below w.heap.size w w') : Keeps (fun _ => False) w w' := Keeps.of_new h
theorem InsAt.below {w w' : World} {v : Value} {l : List In} (h : InsAt w v l) (hb : Below w.heap.size w w') : InsAt w' v l := h.keeps (keeps_none hb) (off_none _)
/-- A function, in four cells. -/
def FnAt (w : World) (b o : Nat) (f : FnV) : Prop :=
  w.cell? ⟨b, o, none⟩ = some (.int .i64 f.params) ∧ (∃ v, w.cell? ⟨b, o + 1, none⟩ = some v ∧ IntsAt w v f.locals) ∧ w.cell? ⟨b, o + 2, none⟩ = some (.int .i64 f.kind) ∧ ∃ v, w.cell? ⟨b, o + 3, none⟩ = some v ∧ InsAt w v f.code
theorem FnAt.below {w w' : World} {b o : Nat} {f : FnV} (h : FnAt w b o f) (hb : Below w.heap.size w w') : FnAt w' b o f := by
  obtain ⟨h1, ⟨v, h2, h3⟩, h4, u, h5, h6⟩ := h
  have k := keeps_none hb
  exact ⟨k.cell_of h1 id, ⟨v, k.cell_of h2 id, h3.below hb⟩, k.cell_of h4 id, u, k.cell_of h5 id, h6.below hb⟩
/-- A slice that reads as these functions. -/
def FnsAt (w : World) (v : Value) (l : List FnV) : Prop :=
  ∃ ao n cap, v = .slice ao n cap ∧ n = l.length ∧ n ≤ cap ∧ cap ≤ maxLen ∧ (0 < n → ∃ b o, ao = some ⟨b, o, none⟩ ∧ b < w.heap.size ∧ ∀ i f, l[i]? = some f → FnAt w b (o + i * 4) f)
theorem fnsAt_nil (w : World) : FnsAt w (.slice none 0 0) [] := ⟨none, 0, 0, rfl, rfl, Nat.le_refl _, Nat.zero_le _, fun h => absurd h (Nat.lt_irrefl _)⟩
theorem FnsAt.below {w w' : World} {v : Value} {l : List FnV} (h : FnsAt w v l) (hb : Below w.heap.size w w') : FnsAt w' v l := by
  obtain ⟨ao, n, cap, hv, hn, hc, hm, hx⟩ := h
  refine ⟨ao, n, cap, hv, hn, hc, hm, fun h0 => ?_⟩
  obtain ⟨b, o, h1, h2, h3⟩ := hx h0
  exact ⟨b, o, h1, Nat.lt_of_lt_of_le h2 hb.size, fun i x hi => (h3 i x hi).below hb⟩
/-- A program, as a value. -/
def ProgAt (w : World) (v : Value) (p : Pg) : Prop := ∃ vf, v = .agg #[.int .i64 p.globals, vf] ∧ FnsAt w vf p.fns
theorem ProgAt.below {w w' : World} {v : Value} {p : Pg} (h : ProgAt w v p) (hb : Below w.heap.size w w') : ProgAt w' v p := by
  obtain ⟨vf, h1, h2⟩ := h
  exact ⟨vf, h1, h2.below hb⟩
theorem progAt_zero (w : World) : ProgAt w (.agg #[.int .i64 0, .slice none 0 0]) ⟨0, []⟩ := ⟨_, rfl, fnsAt_nil w⟩
end Go.Proofs.YtlfcfaceeloedaaDoor
