/-
  A variable that lies in a block of its own. Of no chapter.
-/
import Derived.Test.YtlfcfaceeloedaaDoorKeeps
import Derived.WalkKit
namespace Go.Proofs.YtlfcfaceeloedaaDoor
open Go.RowKit

/-- A variable of its own block. -/
structure Box (W : World) (b : Nat) (x : Value) : Prop where
  cell : W.cell? ⟨b, 0, none⟩ = some x
  free : W.frozen? ⟨b, 0, none⟩ = false
theorem Box.lt {W : World} {b : Nat} {x : Value} (h : Box W b x) : b < W.heap.size := block_lt_of_cell h.cell
theorem Box.keeps {S : Nat → Prop} {W W' : World} {b : Nat} {x : Value} (h : Box W b x) (hk : Keeps S W W') (hS : ¬ S b) : Box W' b x :=
  ⟨hk.cell_of h.cell hS, by rw [hk.frozen (p := ⟨b, 0, none⟩) h.lt hS]; exact h.free⟩
theorem Box.new (W : World) (x : Value) (t : TypeId) : Box (W.alloc (.cells #[x] t)) W.heap.size x :=
  ⟨by rw [World.cell?_alloc_at _ _ _ _ rfl]; rfl, by rw [World.frozen?_alloc_at _ _ _ _ rfl]⟩
theorem Box.new' (W : World) (x : Value) (t : TypeId) {b : Nat} (hb : b = W.heap.size) : Box (W.alloc (.cells #[x] t)) b x := hb ▸ Box.new W x t
theorem Box.alloc {W : World} {b : Nat} {x : Value} (h : Box W b x) (o : Obj) : Box (W.alloc o) b x := h.keeps ((Keeps.refl (fun _ => False) W).alloc o) id
theorem keeps_set (w : World) (a : Nat) (v : Value) : Keeps (fun k => k = a) w (w.setCell ⟨a, 0, none⟩ v) := (Keeps.refl (fun k => k = a) w).setCell (p := ⟨a, 0, none⟩) (Or.inl rfl) v
theorem two_boxes (W : World) (x y : Value) (t u : TypeId) : Box ((W.alloc (.cells #[x] t)).alloc (.cells #[y] u)) W.heap.size x ∧ Box ((W.alloc (.cells #[x] t)).alloc (.cells #[y] u)) (W.heap.size + 1) y ∧
    Keeps (fun _ => False) W ((W.alloc (.cells #[x] t)).alloc (.cells #[y] u)) ∧ ((W.alloc (.cells #[x] t)).alloc (.cells #[y] u)).heap.size = W.heap.size + 2 :=
  ⟨(Box.new W x t).alloc _, Box.new' _ _ _ (by simp), ((Keeps.refl _ W).alloc _).alloc _, by simp⟩
theorem Box.set {W : World} {b : Nat} {x : Value} (h : Box W b x) (y : Value) : Box (W.setCell ⟨b, 0, none⟩ y) b y :=
  ⟨World.cell?_setCell_same _ _ _ h.cell, by rw [World.frozen?_setCell]; exact h.free⟩
end Go.Proofs.YtlfcfaceeloedaaDoor
