/-
  A block and its first cells, which may be written. Of no chapter.
-/
import Derived.Test.YtlfcfaceeloedaaDoorKeeps
namespace Go.Proofs.YtlfcfaceeloedaaDoor
open Go.RowKit

/-- A block and its first cells, which may be written. -/
structure BlkO (w : World) (b : Nat) (vs : List Value) : Prop where
  at_ : ∀ j v, vs[j]? = some v → w.cell? ⟨b, j, none⟩ = some v
  free : ∀ j, w.frozen? ⟨b, j, none⟩ = false
  lt : b < w.heap.size
theorem BlkO.new (w : World) (xs : Array Value) (t : TypeId) : BlkO (w.alloc (.cells xs t)) w.heap.size xs.toList :=
  ⟨fun j v h => by rw [World.cell?_alloc_at _ _ _ _ rfl]; simpa using h, fun j => World.frozen?_alloc_new w _ _ _, by simp⟩
theorem BlkO.keeps {w w' : World} {S : Nat → Prop} {b : Nat} {vs : List Value} (h : BlkO w b vs) (hk : Keeps S w w') (hs : ¬ S b) : BlkO w' b vs :=
  ⟨fun j v hv => hk.cell_of (h.at_ j v hv) hs, fun j => by rw [hk.frozen (p := ⟨b, j, none⟩) h.lt hs]; exact h.free j, Nat.lt_of_lt_of_le h.lt hk.size⟩
theorem BlkO.below {w w' : World} {b : Nat} {vs : List Value} (h : BlkO w b vs) (hb : Below w.heap.size w w') : BlkO w' b vs := h.keeps (S := fun _ => False) (Keeps.of_new hb) id
theorem BlkO.set {w : World} {b : Nat} {vs : List Value} (h : BlkO w b vs) (i : Nat) (u : Value) (hi : i < vs.length) : BlkO (w.setCell ⟨b, i, none⟩ u) b (vs.set i u) := by
  refine ⟨fun j v hv => ?_, fun j => by rw [World.frozen?_setCell]; exact h.free j, by simpa [World.setCell] using h.lt⟩
  by_cases hij : i = j
  · subst hij
    rw [List.getElem?_set_self hi] at hv
    cases hv
    exact World.cell?_setCell_same _ _ _ (h.at_ i _ (List.getElem?_eq_getElem hi))
  · rw [List.getElem?_set_ne hij] at hv
    rw [World.cell?_setCell_other _ _ _ _ (by intro e; injection e with _ e2; exact hij e2)]
    exact h.at_ j v hv
theorem own_set (w : World) (b i : Nat) (u : Value) : Keeps (fun j => j = b) w (w.setCell ⟨b, i, none⟩ u) := (Keeps.refl (fun j => j = b) w).setCell (p := ⟨b, i, none⟩) (Or.inl rfl) u
end Go.Proofs.YtlfcfaceeloedaaDoor
