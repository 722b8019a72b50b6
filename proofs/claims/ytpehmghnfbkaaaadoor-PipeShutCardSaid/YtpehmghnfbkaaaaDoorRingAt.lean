/-
  A ring in memory: its three fields, its slots. Of whatever things.
-/
import Derived.Test.YtpehmghnfbkaaaaDoorRows
import Derived.Test.YtpehmghnfbkaaaaDoorRingL
import Derived.Test.YtpehmghnfbkaaaaDoorKeeps
import Derived.WalkKit
import Derived.WalkSpells
import Derived.WalkLawsBesides
import Derived.Lib.Hide
import Derived.IntWalk
import Derived.Deep.Draws
namespace Go.Proofs.YtpehmghnfbkaaaaDoor
open Go.RowKit

structure RingAt {α : Type} (enc : α → Value) (w : World) (rb sb : Nat) (row : List α) (f : Nat) (l : List α) : Prop where
  c0 : w.cell? ⟨rb, 0, none⟩ = some (.slice (some ⟨sb, 0, none⟩) row.length row.length)
  c1 : w.cell? ⟨rb, 1, none⟩ = some (.int .i64 f)
  c2 : w.cell? ⟨rb, 2, none⟩ = some (.int .i64 l.length)
  z1 : w.frozen? ⟨rb, 1, none⟩ = false
  z2 : w.frozen? ⟨rb, 2, none⟩ = false
  ne : rb ≠ sb
  top : row.length ≤ 64
  fst : f < row.length ∨ (f = 0 ∧ row.length = 0)
  cnt : l.length ≤ row.length
  holds : Rg.Holds row f l
  cell : ∀ (j : Nat) (x : α), row[j]? = some x → w.cell? ⟨sb, j, none⟩ = some (enc x)
  free : ∀ j : Nat, j < row.length → w.frozen? ⟨sb, j, none⟩ = false

variable {α : Type} {enc : α → Value} {w w' : World} {rb sb : Nat} {row : List α} {f : Nat} {l : List α}
theorem RingAt.drewN (h : RingAt enc w rb sb row f l) (n : Nat) : RingAt enc (w.drewN n) rb sb row f l := ⟨h.c0, h.c1, h.c2, h.z1, h.z2, h.ne, h.top, h.fst, h.cnt, h.holds, h.cell, h.free⟩
theorem RingAt.lt (h : RingAt enc w rb sb row f l) : rb < w.heap.size := block_lt_of_cell h.c0
theorem RingAt.keeps {S : Nat → Prop} (h : RingAt enc w rb sb row f l) (k : Keeps S w w') (hr : ¬ S rb) (hs : ¬ S sb) : RingAt enc w' rb sb row f l :=
  ⟨k.cell_of h.c0 hr, k.cell_of h.c1 hr, k.cell_of h.c2 hr, by rw [k.frozen h.lt hr]; exact h.z1, by rw [k.frozen h.lt hr]; exact h.z2, h.ne, h.top, h.fst, h.cnt, h.holds,
    fun j x hx => k.cell_of (h.cell j x hx) hs,
    fun j hj => by
      have hc := h.cell j _ (List.getElem?_eq_getElem hj)
      rw [k.frozen (block_lt_of_cell hc) hs]; exact h.free j hj⟩

/-- A ring of n slots that holds these things. -/
def RingL (enc : α → Value) (w : World) (rb sb n : Nat) (l : List α) : Prop := ∃ row f, row.length = n ∧ RingAt enc w rb sb row f l
theorem RingL.keeps {S : Nat → Prop} {n : Nat} (h : RingL enc w rb sb n l) (k : Keeps S w w') (hr : ¬ S rb) (hs : ¬ S sb) : RingL enc w' rb sb n l := by
  obtain ⟨row, f, h1, h2⟩ := h
  exact ⟨row, f, h1, h2.keeps k hr hs⟩
theorem RingL.le {n : Nat} (h : RingL enc w rb sb n l) : l.length ≤ n := by obtain ⟨row, f, h1, h2⟩ := h; rw [← h1]; exact h2.cnt
theorem RingL.lt {n : Nat} (h : RingL enc w rb sb n l) : rb < w.heap.size := by obtain ⟨row, f, h1, h2⟩ := h; exact h2.lt
/-- The two blocks of a ring. -/
def Two (rb sb : Nat) (b : Nat) : Prop := b = rb ∨ b = sb
theorem keeps_drewN {S : Nat → Prop} {a w : World} (h : Keeps S a w) (n : Nat) : Keeps S a (w.drewN n) := ⟨h.os, h.tape, h.output, h.size, h.block⟩

theorem cell_set_same {w : World} {p : Addr} {u v : Value} (h : w.cell? p = some u) : (w.setCell p v).cell? p = some v := World.cell?_setCell_same _ _ _ h
theorem cell_set_other {w : World} {p q : Addr} {v : Value} (h : p ≠ q) : (w.setCell p v).cell? q = w.cell? q := World.cell?_setCell_other _ _ _ _ h
theorem slot_ne {a b : Nat} (h : a ≠ b) (x y : Nat) : (⟨a, x, none⟩ : Addr) ≠ ⟨b, y, none⟩ := fun e => h (by injection e)
theorem off_ne {x y : Nat} (h : x ≠ y) (a : Nat) : (⟨a, x, none⟩ : Addr) ≠ ⟨a, y, none⟩ := fun e => h (by injection e)
theorem slots_set {w : World} {sb j : Nat} (hj : j < row.length) (hc : ∀ (i : Nat) (x : α), row[i]? = some x → w.cell? ⟨sb, i, none⟩ = some (enc x)) (x : α) :
    ∀ (i : Nat) (y : α), (row.set j x)[i]? = some y → (w.setCell ⟨sb, j, none⟩ (enc x)).cell? ⟨sb, i, none⟩ = some (enc y) := fun i y hy => by
  by_cases e : j = i
  · subst e
    rw [List.getElem?_set_self hj] at hy
    cases hy
    exact cell_set_same (hc j _ (List.getElem?_eq_getElem hj))
  · rw [List.getElem?_set_ne e] at hy
    rw [cell_set_other (off_ne e sb)]
    exact hc i y hy
/-- A thing is put behind all others. -/
theorem RingAt.push (h : RingAt enc w rb sb row f l) (hl : l.length < row.length) (x : α) (j : Nat) (hje : (f + l.length) % row.length = j) :
    RingAt enc ((w.setCell ⟨sb, j, none⟩ (enc x)).setCell ⟨rb, 2, none⟩ (.int .i64 ((l.length : Int) + 1))) rb sb (row.set j x) f (l ++ [x]) := by
  have hf : f < row.length := by have := h.fst; omega
  have hj : j < row.length := by rw [← hje]; exact Nat.mod_lt _ (by omega)
  have n0 := slot_ne h.ne.symm
  have n1 := slot_ne h.ne
  refine ⟨?_, ?_, ?_, ?_, ?_, h.ne, ?_, ?_, ?_, ?_, ?_, ?_⟩
  · rw [cell_set_other (off_ne (by decide) _), cell_set_other (n0 _ _), List.length_set]; exact h.c0
  · rw [cell_set_other (off_ne (by decide) _), cell_set_other (n0 _ _)]; exact h.c1
  · rw [cell_set_same (u := .int .i64 l.length) (by rw [cell_set_other (n0 _ _)]; exact h.c2)]
    simp
  · simpa using h.z1
  · simpa using h.z2
  · simpa using h.top
  · rw [List.length_set]; exact h.fst
  · rw [List.length_set]; simp; omega
  · rw [← hje]; exact h.holds.push hf hl x
  · intro i y hy
    rw [cell_set_other (n1 _ _)]
    exact slots_set hj h.cell x i y hy
  · intro i hi
    rw [List.length_set] at hi
    simpa using h.free i hi
/-- The first one is taken out. -/
theorem RingAt.pop {x : α} (h : RingAt enc w rb sb row f (x :: l)) (z : α) (j : Nat) (hje : (f + 1) % row.length = j) :
    RingAt enc (((w.setCell ⟨sb, f, none⟩ (enc z)).setCell ⟨rb, 1, none⟩ (.int .i64 j)).setCell ⟨rb, 2, none⟩ (.int .i64 l.length)) rb sb (row.set f z) j l := by
  have hcn := h.cnt
  rw [List.length_cons] at hcn
  have hf : f < row.length := by have := h.fst; omega
  have hj : j < row.length := by rw [← hje]; exact Nat.mod_lt _ (by omega)
  have n0 := slot_ne h.ne.symm
  have n1 := slot_ne h.ne
  refine ⟨?_, ?_, ?_, ?_, ?_, h.ne, ?_, ?_, ?_, ?_, ?_, ?_⟩
  · rw [cell_set_other (off_ne (by decide) _), cell_set_other (off_ne (by decide) _), cell_set_other (n0 _ _), List.length_set]; exact h.c0
  · rw [cell_set_other (off_ne (by decide) _)]
    exact cell_set_same (u := .int .i64 f) (by rw [cell_set_other (n0 _ _)]; exact h.c1)
  · exact cell_set_same (u := .int .i64 (x :: l).length) (by rw [cell_set_other (off_ne (by decide) _), cell_set_other (n0 _ _)]; exact h.c2)
  · simpa using h.z1
  · simpa using h.z2
  · simpa using h.top
  · rw [List.length_set]; exact Or.inl hj
  · rw [List.length_set]; omega
  · rw [← hje]; exact h.holds.pop hf (by omega) z
  · intro i y hy
    rw [cell_set_other (n1 _ _), cell_set_other (n1 _ _)]
    exact slots_set hf h.cell z i y hy
  · intro i hi
    rw [List.length_set] at hi
    simpa using h.free i hi

theorem made_get (z : Value) (n j : Nat) (hj : j < n) : (madeCells #[z] n)[j]? = some z := by
  simp [madeCells, hj, Nat.mod_one]
/-- A ring that was just made. -/
theorem RingAt.new (enc : α → Value) (w : World) (z : α) (n : Nat) (hn : n ≤ 64) (t1 t2 : TypeId) :
    RingAt enc ((w.alloc (.cells (madeCells #[enc z] n) t1)).alloc (.cells #[.slice (some ⟨w.heap.size, 0, none⟩) n n, .int .i64 0, .int .i64 0] t2)) (w.heap.size + 1) w.heap.size (List.replicate n z) 0 ([] : List α) := by
  have hs : (w.alloc (.cells (madeCells #[enc z] n) t1)).heap.size = w.heap.size + 1 := by simp
  refine ⟨?_, ?_, ?_, ?_, ?_, by omega, ?_, ?_, ?_, Rg.holds_nil _ _, ?_, ?_⟩
  · rw [World.cell?_alloc_at _ _ _ _ hs.symm, List.length_replicate]; rfl
  · rw [World.cell?_alloc_at _ _ _ _ hs.symm]; rfl
  · rw [World.cell?_alloc_at _ _ _ _ hs.symm]; rfl
  · rw [World.frozen?_alloc_at _ _ _ _ hs.symm]
  · rw [World.frozen?_alloc_at _ _ _ _ hs.symm]
  · simpa using hn
  · rw [List.length_replicate]; omega
  · exact Nat.zero_le _
  · intro j x hx
    rw [List.getElem?_replicate] at hx
    split at hx
    · cases hx
      rw [World.cell?_alloc_past _ _ _ (by simp), World.cell?_alloc_at _ _ _ _ rfl]
      exact made_get _ n j ‹_›
    · cases hx
  · intro j _
    rw [World.frozen?_alloc_past _ _ _ (by simp), World.frozen?_alloc_at _ _ _ _ rfl]
end Go.Proofs.YtpehmghnfbkaaaaDoor
