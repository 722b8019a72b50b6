/-
  Texts of one proof, in build order: Plain mathematics: a ring's things in their slots. No program. | Keeps S w w': of what lay in w all blocks but those of S lie as they lay. Of no chapter. | A ring in memory: its three fields, its slots. Of whatever things. | The walks of package ring at numbers: slot, Len, Size, At. | The walks of package ring at numbers: Push, Pop, New. | What package ring does at numbers, said of the things alone. | A slice of numbers that came in: what a walk is told of it. Of no chapter. | Slices of numbers: read (IntsAt), and of the call's own, appended to (OwnI). Of no chapter. | Where something lies that is a part of a greater thing. | Channels in memory, and tasks that wait at them. Whose each block is a role tells: two blocks of two roles are two. | The walks of package pipe: may, channel, row, a channel's free, drawn. | The walks of package pipe: whether a channel is free, how many numbers it has. | The walk of slices.DeleteFunc at a row of those that wait: one task stands there no more. | The walks of slices.IndexFunc and slices.DeleteFunc at a row of those that wait. | The walk of slices.DeleteFunc at a row of those that wait. | What turns when a task goes on: the map of what is asked, a channel's rows. | The walk of package pipe's wake: a task goes on. | The walk of package pipe's send. | The walk of package pipe's recv. | The walks of package pipe: do, other. | The walk of package pipe's free: which talks can be done now. | The walks of slices.Clone at talks, and at rows of those that wait. | What turns when a task waits: the map is made, a row grows. | The walk of package pipe's wait.
-/
import Derived.Test.YtnjdmijcoadidaaGreatDoorR0
import Derived.WalkKit
import Derived.Below
import Derived.Maps.Own
import Derived.Maps.OwnSet
import Derived.Maps.Range
import Derived.Test.YtnjdmijcoadidaaGreatDoorRows
import Derived.WalkSpells
import Derived.WalkLawsBesides
import Derived.Lib.Hide
import Derived.IntWalk
import Derived.Deep.Draws
import Derived.Deep.QuietTactic
import Derived.BigQuiet
import Derived.RegionTactic
import Derived.ChangeAlike
import Derived.Deep.RegionWith
import Derived.Deep.RegionHeld3
import Derived.ProofKit
import Derived.Carry
import Derived.Deep.SlicePairs
import Derived.Maps.AppendAt
import Derived.Lib.BufferMore
import Derived.Lib.SliceRun
import Derived.StillTailTactics
import Derived.Deep.Cut
import Derived.OwnWalk
namespace Go.Proofs.YtnjdmijcoadidaaGreatDoor
namespace Rg
variable {α : Type}

theorem mod_lt2 {a n : Nat} (h : a < 2 * n) : a % n = if a < n then a else a - n := by
  split
  · exact Nat.mod_eq_of_lt ‹_›
  · rw [Nat.mod_eq_sub_mod (by omega), Nat.mod_eq_of_lt (by omega)]

/-- The slots hold these things, the first one at f. -/
def Holds (row : List α) (f : Nat) (l : List α) : Prop := ∀ k x, l[k]? = some x → row[(f + k) % row.length]? = some x

theorem holds_nil (row : List α) (f : Nat) : Holds row f [] := fun k x h => by simp at h

theorem Holds.push {row : List α} {f : Nat} {l : List α} (h : Holds row f l) (hf : f < row.length) (hl : l.length < row.length) (v : α) :
    Holds (row.set ((f + l.length) % row.length) v) f (l ++ [v]) := fun k x hk => by
  have hn : 0 < row.length := by omega
  have hm : (f + l.length) % row.length < row.length := Nat.mod_lt _ hn
  rw [List.length_set]
  by_cases e : k < l.length
  · rw [List.getElem?_append_left e] at hk
    have hne : (f + l.length) % row.length ≠ (f + k) % row.length := by
      rw [mod_lt2 (by omega), mod_lt2 (by omega)]
      split <;> split <;> omega
    rw [List.getElem?_set_ne hne]
    exact h k x hk
  · have hkl : k = l.length := by
      have := (List.getElem?_eq_some_iff.1 hk).1
      simp at this; omega
    subst hkl
    rw [List.getElem?_append_right (Nat.le_refl _)] at hk
    simp at hk
    subst hk
    rw [List.getElem?_set_self hm]

theorem Holds.head {row : List α} {f : Nat} {x : α} {l : List α} (h : Holds row f (x :: l)) (hf : f < row.length) : row[f]? = some x := by
  have := h 0 x rfl
  rwa [Nat.add_zero, Nat.mod_eq_of_lt hf] at this

theorem Holds.pop {row : List α} {f : Nat} {x : α} {l : List α} (h : Holds row f (x :: l)) (hf : f < row.length) (hl : l.length < row.length) (z : α) :
    Holds (row.set f z) ((f + 1) % row.length) l := fun k y hk => by
  have hkl := (List.getElem?_eq_some_iff.1 hk).1
  have := h (k + 1) y (by simpa using hk)
  rw [List.length_set]
  have e : ((f + 1) % row.length + k) % row.length = (f + (k + 1)) % row.length := by
    rw [Nat.mod_add_mod]; congr 1; omega
  rw [e, List.getElem?_set_ne (by
    rw [mod_lt2 (by omega)]
    split <;> omega)]
  exact this

theorem Holds.at {row : List α} {f : Nat} {l : List α} (h : Holds row f l) {k : Nat} (hk : k < l.length) : row[(f + k) % row.length]? = some l[k] := h k _ (List.getElem?_eq_getElem hk)
/-- All from the first slot on. -/
theorem holds_front {row l : List α} (hp : l <+: row) : Holds row 0 l := fun k x hk => by
  have hkl := (List.getElem?_eq_some_iff.1 hk).1
  obtain ⟨t, rfl⟩ := hp
  rw [Nat.zero_add, Nat.mod_eq_of_lt (by simp; omega), List.getElem?_append_left hkl]
  exact hk
end Rg
end Go.Proofs.YtnjdmijcoadidaaGreatDoor

namespace Go.Proofs.YtnjdmijcoadidaaGreatDoor
open Go.RowKit

structure Keeps (S : Nat → Prop) (w w' : World) : Prop where
  os : w'.os = w.os
  tape : w'.tape = w.tape
  output : w'.output = w.output
  size : w.heap.size ≤ w'.heap.size
  block : ∀ k, k < w.heap.size → ¬ S k → w'.heap[k]? = w.heap[k]?

namespace Keeps
variable {S : Nat → Prop} {a w w' : World}
theorem refl (S : Nat → Prop) (w : World) : Keeps S w w := ⟨rfl, rfl, rfl, Nat.le_refl _, fun _ _ _ => rfl⟩
theorem trans (h : Keeps S a w) (k : Keeps S w w') : Keeps S a w' :=
  ⟨k.os.trans h.os, k.tape.trans h.tape, k.output.trans h.output, Nat.le_trans h.size k.size, fun i hi hs => (k.block i (Nat.lt_of_lt_of_le hi h.size) hs).trans (h.block i hi hs)⟩
/-- The second one may also write what is new. -/
theorem trans' {S' : Nat → Prop} (h : Keeps S a w) (k : Keeps S' w w') (hs : ∀ i, i < a.heap.size → S' i → S i) : Keeps S a w' :=
  ⟨k.os.trans h.os, k.tape.trans h.tape, k.output.trans h.output, Nat.le_trans h.size k.size, fun i hi hn => (k.block i (Nat.lt_of_lt_of_le hi h.size) (fun e => hn (hs i hi e))).trans (h.block i hi hn)⟩
theorem mono {S' : Nat → Prop} (h : Keeps S w w') (hs : ∀ i, i < w.heap.size → S i → S' i) : Keeps S' w w' :=
  ⟨h.os, h.tape, h.output, h.size, fun i hi hn => h.block i hi (fun e => hn (hs i hi e))⟩
theorem alloc (h : Keeps S a w) (o : Obj) : Keeps S a (w.alloc o) :=
  h.trans ⟨rfl, rfl, rfl, by simp, fun k hk _ => Below.heap_alloc _ _ _ hk⟩
theorem drew (h : Keeps S a w) : Keeps S a w.drew := ⟨h.os, h.tape, h.output, h.size, h.block⟩
theorem setCell (h : Keeps S a w) {p : Addr} (hp : S p.block ∨ a.heap.size ≤ p.block) (u : Value) : Keeps S a (w.setCell p u) :=
  ⟨h.os, h.tape, h.output, by simpa [World.setCell] using h.size, fun k hk hn => (Below.heap_setCell _ _ _ _ (by rintro rfl; rcases hp with hp | hp; exact hn hp; omega)).trans (h.block k hk hn)⟩
theorem of_below {B : Nat} (h : Below B w w') (hs : ∀ k, k < w.heap.size → B ≤ k → S k) : Keeps S w w' :=
  ⟨h.os, h.tape, h.output, h.size, fun k hk hn => h.block k (Nat.lt_of_not_le fun e => hn (hs k hk e))⟩
theorem of_new (h : Below w.heap.size w w') : Keeps S w w' := of_below h fun k hk e => by omega
theorem of_grownBy {row : Option Nat} (h : w.grownBy w' row) (hs : ∀ k, k < w.heap.size → row = some k → S k) : Keeps S w w' :=
  ⟨h.os, h.tape, h.output, h.size, fun k hk hn => h.block k hk (fun e => hn (hs k hk e.symm))⟩
theorem below {B : Nat} (h : Keeps S w w') (hB : B ≤ w.heap.size) (hs : ∀ k, k < w.heap.size → S k → B ≤ k) : Below B w w' :=
  ⟨h.os, h.tape, h.output, h.size, fun k hk => h.block k (Nat.lt_of_lt_of_le hk hB) (fun e => by have := hs k (by omega) e; omega)⟩
theorem cell (h : Keeps S w w') {p : Addr} (hp : p.block < w.heap.size) (hn : ¬ S p.block) : w'.cell? p = w.cell? p := World.cell?_of_block (w := w) (h.block p.block hp hn)
theorem cell_of (h : Keeps S w w') {p : Addr} {v : Value} (hv : w.cell? p = some v) (hn : ¬ S p.block) : w'.cell? p = some v := by
  rw [h.cell (block_lt_of_cell hv) hn]; exact hv
theorem frozen (h : Keeps S w w') {p : Addr} (hp : p.block < w.heap.size) (hn : ¬ S p.block) : w'.frozen? p = w.frozen? p := World.frozen?_of_block (w := w) (h.block p.block hp hn)
theorem row (h : Keeps S w w') {base : Nat} {e : TypeId} {size : Nat} {v : Value} {n : Nat} {xs : List Value} (ho : w.ownsRow base e size v n xs) (hn : ∀ k, v.ownBlock = some k → ¬ S k) : w'.ownsRow base e size v n xs := by
  obtain ⟨h1, h2⟩ := ho
  refine ⟨h1, ?_⟩
  rcases h2 with ⟨rfl, h3⟩ | ⟨g, cap, cur, rfl, h3, h4, h5⟩
  · exact Or.inl ⟨rfl, h3⟩
  · exact Or.inr ⟨g, cap, cur, rfl, h3, by
      rw [h.block g (Array.getElem?_eq_some_iff.1 h4).1 (hn g rfl)]; exact h4, h5⟩
theorem map {H : Type} {P : Program} {k : TypeId} {R : Value → Option (DataW H × List MemPlace)} {b n : Nat} {D : DataW H} (h : Keeps S w w') (ho : w.ownsMap P k R b n D) (hn : ¬ S b) : w'.ownsMap P k R b n D := by
  obtain ⟨es, clock, h1, h2⟩ := ho
  exact ⟨es, clock, by rw [h.block b (Array.getElem?_eq_some_iff.1 h1).1 hn]; exact h1, h2⟩
end Keeps
end Go.Proofs.YtnjdmijcoadidaaGreatDoor

namespace Go.Proofs.YtnjdmijcoadidaaGreatDoor
open Go.RowKit

structure RingAt {α : Type} (enc : α → Value) (w : World) (rb sb : Nat) (row : List α) (f : Nat) (l : List α) : Prop where
  c0 : w.cell? ⟨rb, 0, none⟩ = some (.slice (some ⟨sb, 0, none⟩) row.length row.length)
  c1 : w.cell? ⟨rb, 1, none⟩ = some (.int .i64 f)
  c2 : w.cell? ⟨rb, 2, none⟩ = some (.int .i64 l.length)
  z1 : w.frozen? ⟨rb, 1, none⟩ = false
  z2 : w.frozen? ⟨rb, 2, none⟩ = false
  ne : rb ≠ sb
  top : row.length ≤ 64
  fst : f < row.length ∨ (f = 0 ∧ row.length = 0)
  cnt : l.length ≤ row.length
  holds : Rg.Holds row f l
  cell : ∀ (j : Nat) (x : α), row[j]? = some x → w.cell? ⟨sb, j, none⟩ = some (enc x)
  free : ∀ j : Nat, j < row.length → w.frozen? ⟨sb, j, none⟩ = false

variable {α : Type} {enc : α → Value} {w w' : World} {rb sb : Nat} {row : List α} {f : Nat} {l : List α}
theorem RingAt.drewN (h : RingAt enc w rb sb row f l) (n : Nat) : RingAt enc (w.drewN n) rb sb row f l := ⟨h.c0, h.c1, h.c2, h.z1, h.z2, h.ne, h.top, h.fst, h.cnt, h.holds, h.cell, h.free⟩
theorem RingAt.lt (h : RingAt enc w rb sb row f l) : rb < w.heap.size := block_lt_of_cell h.c0
theorem RingAt.keeps {S : Nat → Prop} (h : RingAt enc w rb sb row f l) (k : Keeps S w w') (hr : ¬ S rb) (hs : ¬ S sb) : RingAt enc w' rb sb row f l :=
  ⟨k.cell_of h.c0 hr, k.cell_of h.c1 hr, k.cell_of h.c2 hr, by rw [k.frozen h.lt hr]; exact h.z1, by rw [k.frozen h.lt hr]; exact h.z2, h.ne, h.top, h.fst, h.cnt, h.holds,
    fun j x hx => k.cell_of (h.cell j x hx) hs,
    fun j hj => by
      have hc := h.cell j _ (List.getElem?_eq_getElem hj)
      rw [k.frozen (block_lt_of_cell hc) hs]; exact h.free j hj⟩

/-- A ring of n slots that holds these things. -/
def RingL (enc : α → Value) (w : World) (rb sb n : Nat) (l : List α) : Prop := ∃ row f, row.length = n ∧ RingAt enc w rb sb row f l
theorem RingL.keeps {S : Nat → Prop} {n : Nat} (h : RingL enc w rb sb n l) (k : Keeps S w w') (hr : ¬ S rb) (hs : ¬ S sb) : RingL enc w' rb sb n l := by
  obtain ⟨row, f, h1, h2⟩ := h
  exact ⟨row, f, h1, h2.keeps k hr hs⟩
theorem RingL.le {n : Nat} (h : RingL enc w rb sb n l) : l.length ≤ n := by obtain ⟨row, f, h1, h2⟩ := h; rw [← h1]; exact h2.cnt
theorem RingL.lt {n : Nat} (h : RingL enc w rb sb n l) : rb < w.heap.size := by obtain ⟨row, f, h1, h2⟩ := h; exact h2.lt
/-- The two blocks of a ring. -/
def Two (rb sb : Nat) (b : Nat) : Prop := b = rb ∨ b = sb
theorem keeps_drewN {S : Nat → Prop} {a w : World} (h : Keeps S a w) (n : Nat) : Keeps S a (w.drewN n) := ⟨h.os, h.tape, h.output, h.size, h.block⟩

theorem cell_set_same {w : World} {p : Addr} {u v : Value} (h : w.cell? p = some u) : (w.setCell p v).cell? p = some v := World.cell?_setCell_same _ _ _ h
theorem cell_set_other {w : World} {p q : Addr} {v : Value} (h : p ≠ q) : (w.setCell p v).cell? q = w.cell? q := World.cell?_setCell_other _ _ _ _ h
theorem slot_ne {a b : Nat} (h : a ≠ b) (x y : Nat) : (⟨a, x, none⟩ : Addr) ≠ ⟨b, y, none⟩ := fun e => h (by injection e)
theorem off_ne {x y : Nat} (h : x ≠ y) (a : Nat) : (⟨a, x, none⟩ : Addr) ≠ ⟨a, y, none⟩ := fun e => h (by injection e)
theorem slots_set {w : World} {sb j : Nat} (hj : j < row.length) (hc : ∀ (i : Nat) (x : α), row[i]? = some x → w.cell? ⟨sb, i, none⟩ = some (enc x)) (x : α) :
    ∀ (i : Nat) (y : α), (row.set j x)[i]? = some y → (w.setCell ⟨sb, j, none⟩ (enc x)).cell? ⟨sb, i, none⟩ = some (enc y) := fun i y hy => by
  by_cases e : j = i
  · subst e
    rw [List.getElem?_set_self hj] at hy
    cases hy
    exact cell_set_same (hc j _ (List.getElem?_eq_getElem hj))
  · rw [List.getElem?_set_ne e] at hy
    rw [cell_set_other (off_ne e sb)]
    exact hc i y hy
/-- A thing is put behind all others. -/
theorem RingAt.push (h : RingAt enc w rb sb row f l) (hl : l.length < row.length) (x : α) (j : Nat) (hje : (f + l.length) % row.length = j) :
    RingAt enc ((w.setCell ⟨sb, j, none⟩ (enc x)).setCell ⟨rb, 2, none⟩ (.int .i64 ((l.length : Int) + 1))) rb sb (row.set j x) f (l ++ [x]) := by
  have hf : f < row.length := by have := h.fst; omega
  have hj : j < row.length := by rw [← hje]; exact Nat.mod_lt _ (by omega)
  have n0 := slot_ne h.ne.symm
  have n1 := slot_ne h.ne
  refine ⟨?_, ?_, ?_, ?_, ?_, h.ne, ?_, ?_, ?_, ?_, ?_, ?_⟩
  · rw [cell_set_other (off_ne (by decide) _), cell_set_other (n0 _ _), List.length_set]; exact h.c0
  · rw [cell_set_other (off_ne (by decide) _), cell_set_other (n0 _ _)]; exact h.c1
  · rw [cell_set_same (u := .int .i64 l.length) (by rw [cell_set_other (n0 _ _)]; exact h.c2)]
    simp
  · simpa using h.z1
  · simpa using h.z2
  · simpa using h.top
  · rw [List.length_set]; exact h.fst
  · rw [List.length_set]; simp; omega
  · rw [← hje]; exact h.holds.push hf hl x
  · intro i y hy
    rw [cell_set_other (n1 _ _)]
    exact slots_set hj h.cell x i y hy
  · intro i hi
    rw [List.length_set] at hi
    simpa using h.free i hi
/-- The first one is taken out. -/
theorem RingAt.pop {x : α} (h : RingAt enc w rb sb row f (x :: l)) (z : α) (j : Nat) (hje : (f + 1) % row.length = j) :
    RingAt enc (((w.setCell ⟨sb, f, none⟩ (enc z)).setCell ⟨rb, 1, none⟩ (.int .i64 j)).setCell ⟨rb, 2, none⟩ (.int .i64 l.length)) rb sb (row.set f z) j l := by
  have hcn := h.cnt
  rw [List.length_cons] at hcn
  have hf : f < row.length := by have := h.fst; omega
  have hj : j < row.length := by rw [← hje]; exact Nat.mod_lt _ (by omega)
  have n0 := slot_ne h.ne.symm
  have n1 := slot_ne h.ne
  refine ⟨?_, ?_, ?_, ?_, ?_, h.ne, ?_, ?_, ?_, ?_, ?_, ?_⟩
  · rw [cell_set_other (off_ne (by decide) _), cell_set_other (off_ne (by decide) _), cell_set_other (n0 _ _), List.length_set]; exact h.c0
  · rw [cell_set_other (off_ne (by decide) _)]
    exact cell_set_same (u := .int .i64 f) (by rw [cell_set_other (n0 _ _)]; exact h.c1)
  · exact cell_set_same (u := .int .i64 (x :: l).length) (by rw [cell_set_other (off_ne (by decide) _), cell_set_other (n0 _ _)]; exact h.c2)
  · simpa using h.z1
  · simpa using h.z2
  · simpa using h.top
  · rw [List.length_set]; exact Or.inl hj
  · rw [List.length_set]; omega
  · rw [← hje]; exact h.holds.pop hf (by omega) z
  · intro i y hy
    rw [cell_set_other (n1 _ _), cell_set_other (n1 _ _)]
    exact slots_set hf h.cell z i y hy
  · intro i hi
    rw [List.length_set] at hi
    simpa using h.free i hi

theorem made_get (z : Value) (n j : Nat) (hj : j < n) : (madeCells #[z] n)[j]? = some z := by
  simp [madeCells, hj, Nat.mod_one]
/-- A ring that was just made. -/
theorem RingAt.new (enc : α → Value) (w : World) (z : α) (n : Nat) (hn : n ≤ 64) (t1 t2 : TypeId) :
    RingAt enc ((w.alloc (.cells (madeCells #[enc z] n) t1)).alloc (.cells #[.slice (some ⟨w.heap.size, 0, none⟩) n n, .int .i64 0, .int .i64 0] t2)) (w.heap.size + 1) w.heap.size (List.replicate n z) 0 ([] : List α) := by
  have hs : (w.alloc (.cells (madeCells #[enc z] n) t1)).heap.size = w.heap.size + 1 := by simp
  refine ⟨?_, ?_, ?_, ?_, ?_, by omega, ?_, ?_, ?_, Rg.holds_nil _ _, ?_, ?_⟩
  · rw [World.cell?_alloc_at _ _ _ _ hs.symm, List.length_replicate]; rfl
  · rw [World.cell?_alloc_at _ _ _ _ hs.symm]; rfl
  · rw [World.cell?_alloc_at _ _ _ _ hs.symm]; rfl
  · rw [World.frozen?_alloc_at _ _ _ _ hs.symm]
  · rw [World.frozen?_alloc_at _ _ _ _ hs.symm]
  · simpa using hn
  · rw [List.length_replicate]; omega
  · exact Nat.zero_le _
  · intro j x hx
    rw [List.getElem?_replicate] at hx
    split at hx
    · cases hx
      rw [World.cell?_alloc_past _ _ _ (by simp), World.cell?_alloc_at _ _ _ _ rfl]
      exact made_get _ n j ‹_›
    · cases hx
  · intro j _
    rw [World.frozen?_alloc_past _ _ _ (by simp), World.frozen?_alloc_at _ _ _ _ rfl]
end Go.Proofs.YtnjdmijcoadidaaGreatDoor

namespace Go.Proofs.YtnjdmijcoadidaaGreatDoor
open Go.RowKit
abbrev eI : Int → Value := Value.int .i64

theorem slot_val (f k : Nat) (h : f + k ≤ 9223372036854775807) : IntKind.i64.wrap ((f : Int) + (k : Int)) = ((f + k : Nat) : Int) := by rw [IntKind.wrap_i64]; omega
theorem slot_rem (a n : Nat) : ((a : Nat) : Int).tmod (n : Int) = ((a % n : Nat) : Int) := by rw [Int.tmod_eq_emod_of_nonneg (by omega)]; omega

set_option maxRecDepth 100000 in
set_option maxHeartbeats 1600000 in
theorem slotI_of {rb sb f n : Nat} (w : World) (c0 : w.cell? ⟨rb, 0, none⟩ = some (.slice (some ⟨sb, 0, none⟩) n n)) (c1 : w.cell? ⟨rb, 1, none⟩ = some (.int .i64 f)) (hf : f ≤ 64) (ht : n ≤ 64) (k : Nat) (hk : k ≤ 64) (h0 : 0 < n) :
    Calls Tryz.prog 177 #[.pointer (some ⟨rb, 0, none⟩), .int .i64 k] w fun e w' => e = .returned (.int .i64 ((f + k) % n : Nat)) ∧ ∃ n, w' = w.drewN n := by
  have e1 := slot_val f k (by omega)
  have e2 := slot_rem (f + k) n
  have g0 : ((n : Int) == 0) = false := by rw [beq_eq_false_iff_ne]; omega
  have g1 : ¬ ((n : Int) = 0) := by omega
  go_enter Tryz.func177, Tryz.ntmps177
  go_wp2_with fail
  go_quiet (fail)
  go_wp2_with fail
  go_ret
  exact ⟨rfl, _, rfl⟩

theorem slotI_any {rb sb f : Nat} {row l : List Int} (w : World) (h : RingAt eI w rb sb row f l) (k : Nat) (hk : k ≤ 64) (h0 : 0 < row.length) :
    Calls Tryz.prog 177 #[.pointer (some ⟨rb, 0, none⟩), .int .i64 k] w fun e w' => e = .returned (.int .i64 ((f + k) % row.length : Nat)) ∧ ∃ n, w' = w.drewN n :=
  slotI_of w h.c0 h.c1 (by have := h.fst; have := h.top; omega) h.top k hk h0

set_option maxRecDepth 100000 in
set_option maxHeartbeats 1600000 in
theorem lenI_any {rb sb f : Nat} {row l : List Int} (w : World) (h : RingAt eI w rb sb row f l) :
    Calls Tryz.prog 164 #[.pointer (some ⟨rb, 0, none⟩)] w fun e w' => e = .returned (.int .i64 l.length) ∧ w = w' := by
  have c2 := h.c2
  clear h
  go_enter Tryz.func164, Tryz.ntmps164
  go_wp2_with fail
  go_ret
  exact ⟨rfl, rfl⟩

set_option maxRecDepth 100000 in
set_option maxHeartbeats 1600000 in
theorem sizeI_any {rb sb f : Nat} {row l : List Int} (w : World) (h : RingAt eI w rb sb row f l) :
    Calls Tryz.prog 128 #[.pointer (some ⟨rb, 0, none⟩)] w fun e w' => e = .returned (.int .i64 row.length) ∧ w = w' := by
  have c0 := h.c0
  clear h
  go_enter Tryz.func128, Tryz.ntmps128
  go_wp2_with fail
  go_ret
  exact ⟨rfl, rfl⟩

end Go.Proofs.YtnjdmijcoadidaaGreatDoor

namespace Go.Proofs.YtnjdmijcoadidaaGreatDoor
open Go.RowKit

theorem count_ne {a b : Nat} (hl : a < b) : (((a : Nat) : Int) == ((b : Nat) : Int)) = false := by
  rw [beq_eq_false_iff_ne]; omega

set_option maxRecDepth 100000 in
set_option maxHeartbeats 1600000 in
theorem pushI_full {rb sb f : Nat} {row l : List Int} (w : World) (h : RingAt eI w rb sb row f l) (hl : l.length = row.length) (x : Int) :
    Calls Tryz.prog 179 #[.pointer (some ⟨rb, 0, none⟩), .int .i64 x] w fun e w' => e = .returned (.iface 37 (.int .i64 12)) ∧ ∃ n, w' = w.drewN n := by
  have c0 := h.c0
  have c2 := h.c2
  rw [hl] at c2
  clear h hl
  generalize row.length = n at *
  go_enter Tryz.func179, Tryz.ntmps179
  go_wp2_with fail
  go_quiet (fail)
  go_wp2_with fail
  go_ret
  exact ⟨rfl, _, rfl⟩

set_option maxRecDepth 100000 in
set_option maxHeartbeats 1600000 in
theorem pushI_ok {rb sb f : Nat} {row l : List Int} (w : World) (h : RingAt eI w rb sb row f l) (hl : l.length < row.length) (x : Int) :
    Calls Tryz.prog 179 #[.pointer (some ⟨rb, 0, none⟩), .int .i64 x] w fun e w' => e = .returned .nilIface ∧
      RingAt eI w' rb sb (row.set ((f + l.length) % row.length) x) f (l ++ [x]) ∧ Keeps (Two rb sb) w w' := by
  have HH := Lib.hid h
  have c0 := h.c0
  have c2 := h.c2
  have z2 := h.z2
  have hne := h.ne
  have ht := h.top
  have hf : f < row.length := by have := h.fst; omega
  have hj : (f + l.length) % row.length < row.length := Nat.mod_lt _ (by omega)
  have hc := h.cell _ _ (List.getElem?_eq_getElem hj)
  have hz := h.free _ hj
  have g0 := count_ne hl
  have d0 : decide (l.length = row.length) = false := by rw [decide_eq_false_iff_not]; omega
  have d1 : (l.length == row.length) = false := by rw [beq_eq_false_iff_ne]; omega
  have HS : Hid (∀ W : World, RingAt eI W rb sb row f l → Calls Tryz.prog 177 #[.pointer (some ⟨rb, 0, none⟩), .int .i64 (l.length : Nat)] W fun e w' => e = .returned (.int .i64 ((f + l.length) % row.length : Nat)) ∧ ∃ n, w' = W.drewN n) := Lib.hid fun W hW => slotI_any W hW l.length (by omega) (by omega)
  generalize hje : (f + l.length) % row.length = j at *
  have HJ := Lib.hid hje
  clear h hje
  have hji : (0 : Int) ≤ (j : Int) ∧ (j : Int) < (row.length : Int) := by omega
  go_enter Tryz.func179, Tryz.ntmps179
  go_wp2_with fail
  go_quiet (fail)
  go_wp2_with fail
  go_region_with (go_at_call 177; refine (HS.out _ ?_).mono ?_; (first | exact HH.out.drewN _ | exact (HH.out.drewN _).drewN _); rintro e w' ⟨rfl, m, rfl⟩)
  all_goals
    go_wp2_with fail
    go_ret
    exact ⟨rfl, (HH.out.drewN _).push hl x j HJ.out, ((keeps_drewN (Keeps.refl _ _) _).setCell (Or.inl (Or.inr rfl)) _).setCell (Or.inl (Or.inl rfl)) _⟩

set_option maxRecDepth 100000 in
set_option maxHeartbeats 1600000 in
theorem popI_none {rb sb f : Nat} {row : List Int} (w : World) (h : RingAt eI w rb sb row f []) :
    Calls Tryz.prog 178 #[.pointer (some ⟨rb, 0, none⟩)] w fun e w' => e = .returned (.tuple #[.int .i64 0, .iface 37 (.int .i64 8)]) ∧ w = w' := by
  have c2 := h.c2
  have c2' : w.cell? ⟨rb, 2, none⟩ = some (.int .i64 0) := c2
  clear h c2
  go_enter Tryz.func178, Tryz.ntmps178
  go_wp2_with fail
  go_ret2
  exact ⟨rfl, rfl⟩

set_option maxRecDepth 100000 in
set_option maxHeartbeats 1600000 in
theorem popI_ok {rb sb f : Nat} {row l : List Int} {x : Int} (w : World) (h : RingAt eI w rb sb row f (x :: l)) :
    Calls Tryz.prog 178 #[.pointer (some ⟨rb, 0, none⟩)] w fun e w' => e = .returned (.tuple #[.int .i64 x, .nilIface]) ∧
      RingAt eI w' rb sb (row.set f 0) ((f + 1) % row.length) l ∧ Keeps (Two rb sb) w w' := by
  have HH := Lib.hid h
  have c0 := h.c0
  have c1 := h.c1
  have c2 : w.cell? ⟨rb, 2, none⟩ = some (.int .i64 ((l.length : Int) + 1)) := h.c2
  have z1 := h.z1
  have z2 := h.z2
  have hne := h.ne
  have ht := h.top
  have hcn := h.cnt
  rw [List.length_cons] at hcn
  have hf : f < row.length := by have := h.fst; omega
  have hc := h.cell _ _ (h.holds.head hf)
  have hz := h.free _ hf
  have g0 : (((l.length : Nat) : Int) + 1 == 0) = false := by rw [beq_eq_false_iff_ne]; omega
  have g1 : ¬ ((l.length : Int) + 1 = 0) := by omega
  have hfi : (0 : Int) ≤ (f : Int) ∧ (f : Int) < (row.length : Int) := by omega
  obtain ⟨j, hje⟩ : ∃ j, (f + 1) % row.length = j := ⟨_, rfl⟩
  have HJ := Lib.hid hje
  have e1 : ((l.length : Int) + 1 - 1) = (l.length : Int) := by omega
  clear h hje
  go_enter Tryz.func178, Tryz.ntmps178
  go_wp2_with fail
  go_quiet (fail)
  go_wp2_with fail
  go_region
  all_goals
    go_wp2_with fail
    have s0 : ((w.drewN (nq + 1)).setCell ⟨sb, f, none⟩ (.int .i64 0)).cell? ⟨rb, 0, none⟩ = some (.slice (some ⟨sb, 0, none⟩) row.length row.length) := by rw [cell_set_other (slot_ne (Ne.symm hne) _ _)]; exact c0
    have s1 : ((w.drewN (nq + 1)).setCell ⟨sb, f, none⟩ (.int .i64 0)).cell? ⟨rb, 1, none⟩ = some (.int .i64 f) := by rw [cell_set_other (slot_ne (Ne.symm hne) _ _)]; exact c1
    refine (slotI_of _ s0 s1 (by omega) ht 1 (by omega) (by omega)).mono ?_
    rintro e w' ⟨rfl, m, rfl⟩
    rw [HJ.out]
    clear s0 s1
    go_wp2_with fail
    go_ret2
    exact ⟨rfl, HJ.out ▸ ((HH.out.drewN _).pop 0 j HJ.out).drewN _, keeps_drewN ((((keeps_drewN (Keeps.refl _ _) _).setCell (Or.inl (Or.inr rfl)) _).setCell (Or.inl (Or.inl rfl)) _).setCell (Or.inl (Or.inl rfl)) _) _⟩

theorem info_elI : (Tryz.prog.info? 3).map (fun i => (i.zero, i.size, i.bytes)) = some (some (.int .i64 0), 1, 8) := by kernel_rfl
theorem make_elI (n : Nat) (h : n ≤ 64) (W : World) :
    (Instr.makeSlice 26 (.int .i64 n) (.int .i64 n)).run Tryz.prog W = .ok (.slice (some ⟨W.heap.size, 0, none⟩) n n) (W.alloc (.cells (madeCells #[eI 0] n) 3)) := by
  obtain ⟨i0, hi, hz0, hz1, hz2⟩ := info_parts info_elI
  have := run_make (P := Tryz.prog) W 26 3 i0 (eI 0) Tryz.underlying26 hi hz0 .i64 .i64 n n (by omega) (by omega) (by rw [hz2]; omega) (by omega)
  rw [this]
  simp only [Int.toNat_natCast, hz1, Nat.mul_one]
  rfl

set_option maxRecDepth 100000 in
set_option maxHeartbeats 1600000 in
theorem newI_no (w : World) (size : Int) (h : size < 0 ∨ 64 < size) :
    Calls Tryz.prog 173 #[.int .i64 size] w fun e w' => e = .returned (.tuple #[.pointer none, .iface 37 (.int .i64 2)]) ∧ w = w' := by
  by_cases h0 : size < 0
  · go_enter Tryz.func173, Tryz.ntmps173
    go_wp2_with fail
    go_ret2
    exact ⟨rfl, rfl⟩
  · have h1 : 64 < size := by omega
    have d1 : decide (64 < size) = true := by rw [decide_eq_true_eq]; exact h1
    clear h
    go_enter Tryz.func173, Tryz.ntmps173
    go_wp2_with fail
    go_ret2
    exact ⟨rfl, rfl⟩

set_option maxRecDepth 100000 in
set_option maxHeartbeats 1600000 in
theorem newI_ok (w : World) (n : Nat) (h : n ≤ 64) :
    Calls Tryz.prog 173 #[.int .i64 n] w fun e w' => e = .returned (.tuple #[.pointer (some ⟨w.heap.size + 1, 0, none⟩), .nilIface]) ∧
      RingL eI w' (w.heap.size + 1) w.heap.size n [] ∧ Below w.heap.size w w' ∧ w'.heap.size = w.heap.size + 2 := by
  have h0 : ¬ ((n : Int) < 0) := by omega
  have h1 : ¬ (64 < (n : Int)) := by omega
  have d1 : decide (64 < (n : Int)) = false := by rw [decide_eq_false_iff_not]; omega
  have hmk := make_elI n h
  go_enter Tryz.func173, Tryz.ntmps173
  go_wp2_with fail
  go_ret2
  exact ⟨rfl, ⟨_, 0, by simp, RingAt.new eI w 0 n h 3 287⟩, ((Below.refl _ _).alloc (Nat.le_refl _) _).alloc (by simp) _, by simp⟩
end Go.Proofs.YtnjdmijcoadidaaGreatDoor

namespace Go.Proofs.YtnjdmijcoadidaaGreatDoor
open Go.RowKit

section
variable {rb sb n : Nat} {l : List Int} {w : World}
theorem lpushI_ok (h : RingL eI w rb sb n l) (hl : l.length < n) (x : Int) : Calls Tryz.prog 179 #[.pointer (some ⟨rb, 0, none⟩), eI x] w fun e w' =>
    e = .returned .nilIface ∧ RingL eI w' rb sb n (l ++ [x]) ∧ Keeps (Two rb sb) w w' := by
  obtain ⟨row, f, rfl, h⟩ := h
  exact (pushI_ok w h hl x).mono fun _ _ ⟨he, hr, hk⟩ => ⟨he, ⟨_, _, by simp, hr⟩, hk⟩
theorem lpushI_full (h : RingL eI w rb sb n l) (hl : l.length = n) (x : Int) : Calls Tryz.prog 179 #[.pointer (some ⟨rb, 0, none⟩), eI x] w fun e w' =>
    e = .returned (.iface 37 (.int .i64 12)) ∧ RingL eI w' rb sb n l ∧ Keeps (Two rb sb) w w' := by
  obtain ⟨row, f, rfl, h⟩ := h
  refine (pushI_full w h hl x).mono ?_
  rintro e w' ⟨rfl, m, rfl⟩
  exact ⟨rfl, ⟨_, _, rfl, h.drewN m⟩, keeps_drewN (Keeps.refl _ _) m⟩
theorem lpopI_ok {x : Int} (h : RingL eI w rb sb n (x :: l)) : Calls Tryz.prog 178 #[.pointer (some ⟨rb, 0, none⟩)] w fun e w' =>
    e = .returned (.tuple #[eI x, .nilIface]) ∧ RingL eI w' rb sb n l ∧ Keeps (Two rb sb) w w' := by
  obtain ⟨row, f, rfl, h⟩ := h
  exact (popI_ok w h).mono fun _ _ ⟨he, hr, hk⟩ => ⟨he, ⟨_, _, by simp, hr⟩, hk⟩
theorem lpopI_none (h : RingL eI w rb sb n []) : Calls Tryz.prog 178 #[.pointer (some ⟨rb, 0, none⟩)] w fun e w' =>
    e = .returned (.tuple #[eI 0, .iface 37 (.int .i64 8)]) ∧ RingL eI w' rb sb n [] ∧ Keeps (Two rb sb) w w' := by
  obtain ⟨row, f, rfl, h⟩ := h
  refine (popI_none w h).mono ?_
  rintro e w' ⟨rfl, rfl⟩
  exact ⟨rfl, ⟨_, _, rfl, h⟩, Keeps.refl _ _⟩
theorem llenI (h : RingL eI w rb sb n l) : Calls Tryz.prog 164 #[.pointer (some ⟨rb, 0, none⟩)] w fun e w' => e = .returned (.int .i64 l.length) ∧ w = w' := by
  obtain ⟨row, f, rfl, h⟩ := h
  exact lenI_any w h
theorem lsizeI (h : RingL eI w rb sb n l) : Calls Tryz.prog 128 #[.pointer (some ⟨rb, 0, none⟩)] w fun e w' => e = .returned (.int .i64 n) ∧ w = w' := by
  obtain ⟨row, f, rfl, h⟩ := h
  exact sizeI_any w h
end
end Go.Proofs.YtnjdmijcoadidaaGreatDoor

namespace Go.Proofs.YtnjdmijcoadidaaGreatDoor
open Go.RowKit Go.ChangeShapes Go.WideShapes Go.ChangeAt

/-- A slice of numbers of kind k: as many as l has; if there is any, they stand side by side. -/
def NumsAt (k : IntKind) (w : World) (v : Value) (l : List Int) : Prop :=
  ∃ ao n cap, v = .slice ao n cap ∧ n = l.length ∧ n ≤ cap ∧ cap ≤ maxLen ∧ (0 < n → ∃ b o, ao = some ⟨b, o, none⟩ ∧ b < w.heap.size ∧ ∀ i, i < n → w.cell? ⟨b, o + i, none⟩ = some (.int k (l.getD i 0))) ∧ ∀ x ∈ l, (Lit.int k x).wf = true

theorem NumsAt.below {k : IntKind} {w w' : World} {v : Value} {l : List Int} (h : NumsAt k w v l) (hb : Below w.heap.size w w') : NumsAt k w' v l := by
  obtain ⟨ao, n, cap, hv, hn, hc, hm, hx, hw⟩ := h
  refine ⟨ao, n, cap, hv, hn, hc, hm, fun h0 => ?_, hw⟩
  obtain ⟨b, o, h1, h2, h3⟩ := hx h0
  refine ⟨b, o, h1, Nat.lt_of_lt_of_le h2 hb.size, fun i hi => ?_⟩
  rw [hb.cell (p := ⟨b, o + i, none⟩) h2]; exact h3 i hi

theorem numsAt_open {H : Type} {enc : TypeId × Value → H} {P : Program} {W : World} {base : Nat} {spare : Nat → Bool} {held : Bool} {t e : TypeId} {k : IntKind} {ao : Option Addr} {len cap : Nat} {d : DataW H} {p : List MemPlace}
    (ht : P.underlying t = some (.slice e)) (he : P.underlying e = some (.int k)) (hc : P.cellsOf e = 1) (h : DataW.Trod enc P W base spare held t (.slice ao len cap) d p) : ∃ l, NumsAt k W (.slice ao len cap) l := by
  obtain ⟨fuel, hf⟩ := h
  rcases open_ints ht he hc hf with ⟨hcs, _⟩ | ⟨x, l, c, zs, hcs, _, hl, hm, hz, _, hcell, hwz⟩
  · simp [Value.cells] at hcs
    obtain ⟨rfl, rfl, rfl⟩ := hcs
    exact ⟨[], _, _, _, rfl, rfl, Nat.le_refl _, Nat.zero_le _, fun h => absurd h (Nat.lt_irrefl _), fun x hx => by cases hx⟩
  · simp [Value.cells] at hcs
    obtain ⟨rfl, rfl, rfl⟩ := hcs
    have hlz : len ≤ zs.length := by rw [hz]; split <;> omega
    refine ⟨zs.take len, _, _, _, rfl, by rw [List.length_take]; omega, hl, hm, fun h0 => ?_, fun x hx => hwz x (List.mem_of_mem_take hx)⟩
    obtain ⟨b, o, sp⟩ := x
    have h1 := hcell 0 (by omega)
    have hspot : sp = none := by simpa [Addr.add] using World.cell?_spot h1
    subst hspot
    refine ⟨b, o, rfl, World.block_lt_of_cell? _ _ (hcell 0 (by omega)), fun i hi => ?_⟩
    have := hcell i (by omega)
    rw [add_plain] at this
    rw [this]
    simp [List.getD_eq_getElem?_getD, hi]
end Go.Proofs.YtnjdmijcoadidaaGreatDoor

namespace Go.Proofs.YtnjdmijcoadidaaGreatDoor
open Go.RowKit

/-- A slice that reads as these numbers. -/
def IntsAt (w : World) (v : Value) (xs : List Int) : Prop :=
  ∃ ao n cap, v = .slice ao n cap ∧ n = xs.length ∧ n ≤ cap ∧ cap ≤ maxLen ∧ (0 < n → ∃ b o, ao = some ⟨b, o, none⟩ ∧ b < w.heap.size ∧ ∀ i, i < n → w.cell? ⟨b, o + i, none⟩ = some (.int .i64 (xs.getD i 0)))
theorem NumsAt.ints {w : World} {v : Value} {l : List Int} (h : NumsAt .i64 w v l) : IntsAt w v l := by
  obtain ⟨ao, n, cap, h1, h2, h3, h4, h5, _⟩ := h
  exact ⟨ao, n, cap, h1, h2, h3, h4, h5⟩
theorem intsAt_nil (w : World) : IntsAt w (.slice none 0 0) [] := ⟨none, 0, 0, rfl, rfl, Nat.le_refl _, Nat.zero_le _, fun h => absurd h (Nat.lt_irrefl _)⟩
theorem IntsAt.below {w w' : World} {v : Value} {l : List Int} (h : IntsAt w v l) (hb : Below w.heap.size w w') : IntsAt w' v l := by
  obtain ⟨ao, n, cap, hv, hn, hc, hm, hx⟩ := h
  refine ⟨ao, n, cap, hv, hn, hc, hm, fun h0 => ?_⟩
  obtain ⟨b, o, h1, h2, h3⟩ := hx h0
  refine ⟨b, o, h1, Nat.lt_of_lt_of_le h2 hb.size, fun i hi => ?_⟩
  rw [hb.cell (p := ⟨b, o + i, none⟩) h2]; exact h3 i hi
/-- Where it lies. -/
def Off (v : Value) (S : Nat → Prop) : Prop := ∀ k, v.ownBlock = some k → ¬ S k
theorem IntsAt.keeps {S : Nat → Prop} {w w' : World} {v : Value} {l : List Int} (h : IntsAt w v l) (hk : Keeps S w w') (ho : Off v S) : IntsAt w' v l := by
  obtain ⟨ao, n, cap, hv, hn, hc, hm, hx⟩ := h
  refine ⟨ao, n, cap, hv, hn, hc, hm, fun h0 => ?_⟩
  obtain ⟨b, o, h1, h2, h3⟩ := hx h0
  refine ⟨b, o, h1, Nat.lt_of_lt_of_le h2 hk.size, fun i hi => ?_⟩
  exact hk.cell_of (h3 i hi) (ho b (by rw [hv, h1]; rfl))

/-- A slice of the call's own, with its array's head, in a block from B on. -/
def OwnI (w : World) (B : Nat) (v : Value) (xs : List Int) : Prop := w.ownsRow B 3 1 v xs.length (xs.map (Value.int .i64))
theorem ownI_nil (w : World) (B : Nat) : OwnI w B (.slice none 0 0) [] := World.ownsRow_nil _ _ _ _
theorem OwnI.off {w : World} {B : Nat} {v : Value} {xs : List Int} (h : OwnI w B v xs) {S : Nat → Prop} (hs : ∀ k, S k → k < B) : Off v S := fun k hk e => by
  have := (World.ownsRow.lt h k hk).1
  have := hs k e
  omega
theorem OwnI.keeps {w w' : World} {B : Nat} {v : Value} {xs : List Int} {S : Nat → Prop} (h : OwnI w B v xs) (hk : Keeps S w w') (hs : Off v S) : OwnI w' B v xs := hk.row h hs
theorem OwnI.ints {w : World} {B : Nat} {v : Value} {xs : List Int} (h : OwnI w B v xs) : IntsAt w v xs := by
  have hc := h
  rcases h.2 with ⟨rfl, h0⟩ | ⟨g, cap, cur, rfl, hb, hg, h3, h4, h5, h6⟩
  · obtain rfl : xs = [] := List.eq_nil_of_length_eq_zero h0
    exact intsAt_nil w
  · refine ⟨_, _, _, rfl, rfl, h3, h4, fun _ => ⟨g, 0, rfl, (Array.getElem?_eq_some_iff.1 hg).1, fun i hi => ?_⟩⟩
    have := World.ownsRow.cells hc (g := g) rfl i (.int .i64 (xs.getD i 0)) (by simp [List.getD_eq_getElem?_getD, hi])
    have ha : (⟨g, 0, none⟩ : Addr).add i = ⟨g, 0 + i, none⟩ := by unfold Addr.add; split <;> simp_all
    rw [ha] at this
    exact this
theorem OwnI.mk {w : World} {B : Nat} {v : Value} {xs : List Int} (n : Nat) (x : Int) (hn : n = xs.length) (h : w.ownsRow B 3 1 v (n + 1) (xs.map (Value.int .i64) ++ [Value.int .i64 x])) : OwnI w B v (xs ++ [x]) := by
  subst hn
  unfold OwnI
  rw [List.map_append, List.length_append]
  exact h
theorem OwnI.le {w : World} {B : Nat} {v : Value} {xs : List Int} (h : OwnI w B v xs) : ∀ k, v.ownBlock = some k → B ≤ k := fun k hk => (World.ownsRow.lt h k hk).1
theorem OwnI.slice {w : World} {B : Nat} {v : Value} {xs : List Int} (h : OwnI w B v xs) : ∃ ao cap, v = .slice ao xs.length cap := by
  rcases h.2 with ⟨rfl, h0⟩ | ⟨g, cap, cur, rfl, _⟩
  · exact ⟨none, 0, by rw [h0]⟩
  · exact ⟨_, _, rfl⟩
/-- What an append has turned: the one-cell block, and the slice's own row. -/
theorem keeps_append {w w' : World} {o : Obj} {v : Value} {S : Nat → Prop} (hg : (w.alloc o).grownBy w' v.ownBlock) (hs : ∀ k, v.ownBlock = some k → S k) : Keeps S w w' :=
  ((Keeps.refl S w).alloc o).trans' (Keeps.of_grownBy hg fun k _ e => hs k e) fun _ _ e => e

theorem info_int : (Tryz.prog.info? 3).map (fun i => (i.zero, i.size, i.bytes)) = some (some (.int .i64 0), 1, 8) := by kernel_rfl

/-- 'xs = append(xs, y)' on a slice of the call's own: what has turned is its own row; the new one lies there, or in a new block. -/
theorem wpList_appendI {ops : Array Oper} {rest : List Oper} {o : Oper} {a : Act} {Q : Exit → Act → World → Prop} (hgd : o.guard = none) (s x : Operand)
    (ho : o.op = .call { callee := .builtin .append, args := #[s, x], argTypes := #[26, 26] }) (w : World) (B : Nat) (v : Value) (xs : List Int) (y : Int) (hown : OwnI w B v xs) (hs : a.eval s = v)
    (hx : a.eval x = .slice (some ⟨w.heap.size, 0, none⟩) 1 1) (hl : xs.length ≤ 1000000) (hB : B ≤ w.heap.size)
    (h : ∀ ao' cap' w', OwnI w' B (.slice ao' (xs.length + 1) cap') (xs ++ [y]) → Keeps (fun b => v.ownBlock = some b) w w' → (∀ k, (Value.slice ao' (xs.length + 1) cap').ownBlock = some k → v.ownBlock = some k ∨ w.heap.size ≤ k) →
      wpList Tryz.prog ops Q rest (a.put o.dst (.slice ao' (xs.length + 1) cap')) w') : wpList Tryz.prog ops Q (o :: rest) a (w.alloc (.cells #[.int .i64 y] 3)) := by
  obtain ⟨i0, hi, hz0, hz1, hz2⟩ := info_parts info_int
  refine wpList_append_own_at _ hgd s x 26 ho B 3 i0 (.int .i64 0) 1 8 Tryz.underlying26 hi hz0 hz1 hz2 rfl (by decide) v xs.length (xs.map (Value.int .i64)) hs (World.ownsRow.alloc hown _) ⟨w.heap.size, 0, none⟩ 1 1 [.int .i64 y] hx rfl
    (cell_one_new _ _ _) (fun u hu => by simp at hu; subst hu; rfl) (by unfold maxLen; omega) (by omega) (by simp; omega) ?_
  intro v' w' h1 h2 _ h4
  have hO : OwnI w' B v' (xs ++ [y]) := OwnI.mk _ y rfl h1
  obtain ⟨ao', cap', e⟩ := hO.slice
  rw [List.length_append] at e
  have e' : v' = .slice ao' (xs.length + 1) cap' := e
  subst e'
  refine h _ _ _ hO (keeps_append h2 fun k e => e) fun k hk => ?_
  rcases h4 with h4 | h4
  · exact Or.inl (h4 ▸ hk)
  · rw [h4] at hk
    cases hk
    exact Or.inr (by simp)

/-- How many a slice has. -/
def lenI : Value → Nat | .slice _ n _ => n | _ => 0
/-- Two slices that lie in no block together. -/
def ApartI (v u : Value) : Prop := ∀ k, v.ownBlock = some k → u.ownBlock ≠ some k
theorem ApartI.symm {v u : Value} (h : ApartI v u) : ApartI u v := fun k hk e => h k e hk
theorem apartI_nil (u : Value) : ApartI (.slice none 0 0) u := fun k hk => by cases hk
theorem ApartI.append {w : World} {v u v' : Value} (h : ApartI v u) {B : Nat} {ys : List Int} (hu : OwnI w B u ys) (hn : ∀ k, v'.ownBlock = some k → v.ownBlock = some k ∨ w.heap.size ≤ k) : ApartI v' u := fun k hk e => by
  have hlt := (World.ownsRow.lt hu k e).2
  rcases hn k hk with h1 | h1
  · exact h k h1 e
  · omega
theorem ApartI.off {v u : Value} (h : ApartI v u) : Off u (fun b => v.ownBlock = some b) := fun k hk e => h k e hk
end Go.Proofs.YtnjdmijcoadidaaGreatDoor

namespace Go.Proofs.YtnjdmijcoadidaaGreatDoor
/-- A block, and what its other cells are. -/
structure Home where
  b : Nat
  R : Nat → Option Value
end Go.Proofs.YtnjdmijcoadidaaGreatDoor

namespace Go.Proofs.YtnjdmijcoadidaaGreatDoor
open Go.RowKit Go.Maps Pp

inductive Role where
  | free | pipes | chans | asks | chan (k : Nat) | ring (k : Nat) | slots (k : Nat) | sends (k : Nat) | recvs (k : Nat) | talks (t : Int)
/-- It is a part of the channel in the k-th place. -/
def Role.of (k : Nat) : Role → Prop
  | .chan j => j = k | .ring j => j = k | .slots j => j = k | .sends j => j = k | .recvs j => j = k | _ => False

def cellsW (r : List (Int × Nat)) : List Value := r.flatMap fun w => [.int .i64 w.1, .int .i64 (w.2 : Int)]
theorem cellsW_len (r : List (Int × Nat)) : (cellsW r).length = r.length * 2 := by
  induction r with
  | nil => rfl
  | cons w r ih =>
    have : cellsW (w :: r) = .int .i64 w.1 :: .int .i64 (w.2 : Int) :: cellsW r := rfl
    rw [this, List.length_cons, List.length_cons, ih, List.length_cons]; omega
theorem cellsW_append (a b : List (Int × Nat)) : cellsW (a ++ b) = cellsW a ++ cellsW b := by simp [cellsW]
/-- A row of those that wait, of its own. -/
def RowW (w : World) (v : Value) (r : List (Int × Nat)) : Prop := w.ownsRow 0 135 2 v r.length (cellsW r)
theorem rowW_nil (w : World) : RowW w (.slice none 0 0) [] := World.ownsRow_nil _ _ _ _
theorem RowW.keeps {S : Nat → Prop} {w w' : World} {v : Value} {r : List (Int × Nat)} (h : RowW w v r) (hk : Keeps S w w') (hs : ∀ b, v.ownBlock = some b → ¬ S b) : RowW w' v r := hk.row h hs
theorem RowW.lt {w : World} {v : Value} {r : List (Int × Nat)} (h : RowW w v r) : ∀ b, v.ownBlock = some b → b < w.heap.size := fun b hb => (World.ownsRow.lt h b hb).2
theorem RowW.slice {w : World} {v : Value} {r : List (Int × Nat)} (h : RowW w v r) : ∃ ao cap, v = .slice ao r.length cap ∧ r.length ≤ cap ∧ cap ≤ maxLen := by
  rcases h.2 with ⟨rfl, h0⟩ | ⟨g, cap, cur, rfl, _, _, h1, h2, _⟩
  · exact ⟨none, 0, by rw [h0], by omega, Nat.zero_le _⟩
  · exact ⟨_, _, rfl, h1, h2⟩

/-- Talks that lie somewhere, to be read. -/
def TalksAt (w : World) (v : Value) (l : List Tk) : Prop :=
  ∃ ao n cap, v = .slice ao n cap ∧ n = l.length ∧ n ≤ cap ∧ cap ≤ maxLen ∧ (0 < n → ∃ b o, ao = some ⟨b, o, none⟩ ∧ b < w.heap.size ∧
    ∀ i x, l[i]? = some x → w.cell? ⟨b, o + i * 3, none⟩ = some (.int .i64 x.what) ∧ w.cell? ⟨b, o + i * 3 + 1, none⟩ = some (.int .i64 x.chan) ∧ w.cell? ⟨b, o + i * 3 + 2, none⟩ = some (.int .i64 x.n))
theorem TalksAt.keeps {S : Nat → Prop} {w w' : World} {v : Value} {l : List Tk} (h : TalksAt w v l) (hk : Keeps S w w') (ho : Off v S) : TalksAt w' v l := by
  obtain ⟨ao, n, cap, hv, hn, hc, hm, hx⟩ := h
  refine ⟨ao, n, cap, hv, hn, hc, hm, fun h0 => ?_⟩
  obtain ⟨b, o, h1, h2, h3⟩ := hx h0
  have hb : ¬ S b := ho b (by rw [hv, h1]; rfl)
  refine ⟨b, o, h1, Nat.lt_of_lt_of_le h2 hk.size, fun i x hi => ?_⟩
  obtain ⟨c1, c2, c3⟩ := h3 i x hi
  exact ⟨hk.cell_of c1 hb, hk.cell_of c2 hb, hk.cell_of c3 hb⟩

def heldE (v : Value) : Option (DataW Value × List MemPlace) := some (.held v, [])
theorem keyedP : Keyed Tryz.prog 3 := int_keyed Tryz.underlying3

/-- A channel in memory. -/
structure ChC (w : World) (ρ : Nat → Role) (k cb rb sb : Nat) (v1 v2 : Value) (c : Ch) : Prop where
  c0 : w.cell? ⟨cb, 0, none⟩ = some (.pointer (some ⟨rb, 0, none⟩))
  c1 : w.cell? ⟨cb, 1, none⟩ = some (.bool c.shut)
  c2 : w.cell? ⟨cb, 2, none⟩ = some v1
  c3 : w.cell? ⟨cb, 3, none⟩ = some v2
  z : ∀ j, w.frozen? ⟨cb, j, none⟩ = false
  ring : RingL eI w rb sb c.size c.nums
  lt : sb < w.heap.size
  r1 : RowW w v1 c.sends
  r2 : RowW w v2 c.recvs
  p0 : ρ cb = .chan k
  p1 : ρ rb = .ring k
  p2 : ρ sb = .slots k
  p3 : ∀ b, v1.ownBlock = some b → ρ b = .sends k
  p4 : ∀ b, v2.ownBlock = some b → ρ b = .recvs k
theorem ChC.keeps {S : Nat → Prop} {w w' : World} {ρ : Nat → Role} {k cb rb sb : Nat} {v1 v2 : Value} {c : Ch} (h : ChC w ρ k cb rb sb v1 v2 c) (hk : Keeps S w w') (hS : ∀ b, b < w.heap.size → (ρ b).of k → ¬ S b) : ChC w' ρ k cb rb sb v1 v2 c := by
  have hlt : cb < w.heap.size := block_lt_of_cell h.c0
  have hcb : ¬ S cb := hS _ hlt (by rw [h.p0]; rfl)
  exact ⟨hk.cell_of h.c0 hcb, hk.cell_of h.c1 hcb, hk.cell_of h.c2 hcb, hk.cell_of h.c3 hcb, fun j => by rw [hk.frozen (p := ⟨cb, j, none⟩) hlt hcb]; exact h.z j,
    h.ring.keeps hk (hS _ h.ring.lt (by rw [h.p1]; rfl)) (hS _ h.lt (by rw [h.p2]; rfl)), Nat.lt_of_lt_of_le h.lt hk.size, h.r1.keeps hk fun b hb => hS _ (h.r1.lt b hb) (by rw [h.p3 b hb]; rfl), h.r2.keeps hk fun b hb => hS _ (h.r2.lt b hb) (by rw [h.p4 b hb]; rfl), h.p0, h.p1, h.p2, h.p3, h.p4⟩
theorem ChC.role {w : World} {ρ ρ' : Nat → Role} {k cb rb sb : Nat} {v1 v2 : Value} {c : Ch} (h : ChC w ρ k cb rb sb v1 v2 c) (hx : ∀ b, b < w.heap.size → ρ' b = ρ b) : ChC w ρ' k cb rb sb v1 v2 c := by
  exact ⟨h.c0, h.c1, h.c2, h.c3, h.z, h.ring, h.lt, h.r1, h.r2, by rw [hx _ (block_lt_of_cell h.c0)]; exact h.p0, by rw [hx _ h.ring.lt]; exact h.p1, by rw [hx _ h.lt]; exact h.p2,
    fun b hb => by rw [hx _ (h.r1.lt b hb)]; exact h.p3 b hb, fun b hb => by rw [hx _ (h.r2.lt b hb)]; exact h.p4 b hb⟩

/-- All channels in memory, and what those that wait have asked for. -/
structure PipesAt (w : World) (ρ : Nat → Role) (pb : Home) (vch : Value) (ptr : List Nat) (mb : Option Nat) (D : DataW Value) (N M : Nat) (s : St) : Prop where
  c0 : w.cell? ⟨pb.b, 8, none⟩ = some vch
  c1 : w.cell? ⟨pb.b, 9, none⟩ = some (.map mb)
  z : ∀ j, w.frozen? ⟨pb.b, j, none⟩ = false
  row : w.ownsRow 0 180 1 vch ptr.length (ptr.map fun b => .pointer (some ⟨b, 0, none⟩))
  len : ptr.length = s.chs.length
  many : s.chs.length ≤ 32
  chs : ∀ (k cb : Nat) c, ptr[k]? = some cb → s.chs[k]? = some c → ∃ rb sb v1 v2, ChC w ρ k cb rb sb v1 v2 c
  rows : ∀ (k : Nat) c, s.chs[k]? = some c → c.sends.length ≤ M ∧ c.recvs.length ≤ M
  map0 : mb = none → D = .map []
  map1 : ∀ b, mb = some b → w.ownsMap Tryz.prog 3 heldE b N D ∧ ρ b = .asks
  has : ∀ t : Int, Maps.has D (.int .i64 t) = (s.asks t).isSome
  talk : ∀ (t : Int) l, s.asks t = some l → (Lit.int .i64 t).wf = true ∧ ∃ v, (∀ z, D.atKey (.int .i64 t) z = .held v) ∧ TalksAt w v l ∧ ∀ b, v.ownBlock = some b → ρ b = .talks t
  p0 : ρ pb.b = .pipes
  p1 : ∀ b, vch.ownBlock = some b → ρ b = .chans
  dom : ∀ b, ρ b ≠ .free → b < w.heap.size
  rest : ∀ j, j ≠ 8 → j ≠ 9 → w.cell? ⟨pb.b, j, none⟩ = pb.R j

theorem Role.of_of {r : Role} {j k : Nat} (h : r.of k) (h' : r.of j) : k = j := by
  cases r <;> simp_all [Role.of]
theorem PipesAt.lt {w : World} {ρ : Nat → Role} {pb : Home} {vch : Value} {ptr : List Nat} {mb : Option Nat} {D : DataW Value} {N M : Nat} {s : St} (h : PipesAt w ρ pb vch ptr mb D N M s) : pb.b < w.heap.size := block_lt_of_cell h.c0
/-- What is not the channels' turns; or one channel does. -/
theorem PipesAt.put {w w' : World} {ρ ρ' : Nat → Role} {pb : Home} {vch : Value} {ptr : List Nat} {mb : Option Nat} {D : DataW Value} {N M M' : Nat} {s : St} (h : PipesAt w ρ pb vch ptr mb D N M s) {S : Nat → Prop} (hk : Keeps S w w')
    (hx : ∀ b, b < w.heap.size → ρ' b = ρ b) (hd : ∀ b, ρ' b ≠ .free → b < w'.heap.size) (k : Nat) (hS : ∀ b, S b → ρ b = .free ∨ (ρ b).of k) {c' : Ch} (hc : ∀ cb, ptr[k]? = some cb → ∃ rb sb v1 v2, ChC w' ρ' k cb rb sb v1 v2 c')
    (hM : c'.sends.length ≤ M' ∧ c'.recvs.length ≤ M') (hMM : M ≤ M') : PipesAt w' ρ' pb vch ptr mb D N M' ⟨s.chs.set k c', s.asks⟩ := by
  have hn : ∀ b r, ρ b = r → r ≠ .free → ¬ r.of k → ¬ S b := fun b r hr h1 h2 e => by
    rcases hS b e with h3 | h3
    · exact h1 (hr.symm.trans h3)
    · exact h2 (hr ▸ h3)
  have hpb : ¬ S pb.b := hn _ _ h.p0 (by simp) id
  refine ⟨hk.cell_of h.c0 hpb, hk.cell_of h.c1 hpb, fun j => by rw [hk.frozen (p := ⟨pb.b, j, none⟩) h.lt hpb]; exact h.z j, hk.row h.row fun b hb => hn b _ (h.p1 b hb) (by simp) id,
    by rw [List.length_set]; exact h.len, by rw [List.length_set]; exact h.many, fun j cb c hcb hj => ?_, fun j c hj => ?_, h.map0, fun b hb => ?_, h.has, fun t l hl => ?_, by rw [hx _ h.lt]; exact h.p0,
    fun b hb => by rw [hx _ (World.ownsRow.lt h.row b hb).2]; exact h.p1 b hb, hd, fun j h8 h9 => by rw [hk.cell (p := ⟨pb.b, j, none⟩) h.lt hpb]; exact h.rest j h8 h9⟩
  · by_cases e : k = j
    · subst e
      have hkl : k < s.chs.length := by simpa using (List.getElem?_eq_some_iff.1 hj).1
      rw [List.getElem?_set_self hkl] at hj
      cases hj
      exact hc cb hcb
    · rw [List.getElem?_set_ne e] at hj
      obtain ⟨rb, sb, v1, v2, h1⟩ := h.chs j cb c hcb hj
      refine ⟨rb, sb, v1, v2, (h1.role hx).keeps hk fun b hbl hb e2 => ?_⟩
      rw [hx b hbl] at hb
      rcases hS b e2 with h3 | h3
      · rw [h3] at hb; exact hb
      · exact e (Role.of_of h3 hb)
  · by_cases e : k = j
    · subst e
      have hkl : k < s.chs.length := by simpa using (List.getElem?_eq_some_iff.1 hj).1
      rw [List.getElem?_set_self hkl] at hj
      cases hj
      exact hM
    · rw [List.getElem?_set_ne e] at hj
      have := h.rows j c hj
      omega
  · obtain ⟨h1, h2⟩ := h.map1 b hb
    exact ⟨hk.map h1 (hn _ _ h2 (by simp) id), by rw [hx _ h1.lt]; exact h2⟩
  · obtain ⟨h1, v, h2, h3, h4⟩ := h.talk t l hl
    exact ⟨h1, v, h2, h3.keeps hk fun b hb => hn b _ (h4 b hb) (by simp) id, fun b hb => by rw [hx _ (h.dom b (by rw [h4 b hb]; simp))]; exact h4 b hb⟩
/-- Nothing of the channels' turns. -/
theorem PipesAt.same {w w' : World} {ρ ρ' : Nat → Role} {pb : Home} {vch : Value} {ptr : List Nat} {mb : Option Nat} {D : DataW Value} {N M : Nat} {s : St} (h : PipesAt w ρ pb vch ptr mb D N M s) {S : Nat → Prop} (hk : Keeps S w w')
    (hx : ∀ b, b < w.heap.size → ρ' b = ρ b) (hd : ∀ b, ρ' b ≠ .free → b < w'.heap.size) (hS : ∀ b, S b → ρ b = .free) : PipesAt w' ρ' pb vch ptr mb D N M s := by
  have hl : s.chs.set s.chs.length (newCh 0) = s.chs := by rw [List.set_eq_of_length_le (Nat.le_refl _)]
  have := h.put hk hx hd s.chs.length (c' := newCh 0) (M' := M) (fun b e => Or.inl (hS b e)) (fun cb hcb => by
    have := (List.getElem?_eq_some_iff.1 hcb).1
    have := h.len
    omega) ⟨Nat.zero_le _, Nat.zero_le _⟩ (Nat.le_refl _)
  rw [hl] at this
  exact this
theorem PipesAt.keeps {w w' : World} {ρ : Nat → Role} {pb : Home} {vch : Value} {ptr : List Nat} {mb : Option Nat} {D : DataW Value} {N M : Nat} {s : St} (h : PipesAt w ρ pb vch ptr mb D N M s) {S : Nat → Prop} (hk : Keeps S w w')
    (hS : ∀ b, b < w.heap.size → S b → ρ b = .free) : PipesAt w' ρ pb vch ptr mb D N M s :=
  h.same (S := fun b => S b ∧ b < w.heap.size) (hk.mono fun _ hb e => ⟨e, hb⟩) (fun _ _ => rfl) (fun b hb => Nat.lt_of_lt_of_le (h.dom b hb) hk.size) fun b e => hS b e.2 e.1
/-- The channels, and that all is as it may be. -/
def Pipes (w : World) (ρ : Nat → Role) (pb : Home) (N : Nat) (s : St) : Prop := Ok s ∧ ∃ vch ptr mb D, PipesAt w ρ pb vch ptr mb D N (6 * N) s
theorem Pipes.keeps {w w' : World} {ρ : Nat → Role} {pb : Home} {N : Nat} {s : St} (h : Pipes w ρ pb N s) {S : Nat → Prop} (hk : Keeps S w w') (hS : ∀ b, b < w.heap.size → S b → ρ b = .free) : Pipes w' ρ pb N s := by
  obtain ⟨h0, vch, ptr, mb, D, h1⟩ := h
  exact ⟨h0, vch, ptr, mb, D, h1.keeps hk hS⟩
end Go.Proofs.YtnjdmijcoadidaaGreatDoor

namespace Go.Proofs.YtnjdmijcoadidaaGreatDoor
open Go.RowKit Go.Maps Pp

theorem ptr_row {w : World} {vch : Value} {ptr : List Nat} (h : w.ownsRow 0 180 1 vch ptr.length (ptr.map fun b => .pointer (some ⟨b, 0, none⟩))) :
    ∃ ao cap, vch = .slice ao ptr.length cap ∧ ptr.length ≤ cap ∧ cap ≤ maxLen ∧ (0 < ptr.length → ∃ g, ao = some ⟨g, 0, none⟩ ∧ ∀ (k b : Nat), ptr[k]? = some b → w.cell? ⟨g, k, none⟩ = some (.pointer (some ⟨b, 0, none⟩))) := by
  have hc := h
  rcases h.2 with ⟨rfl, h0⟩ | ⟨g, cap, cur, rfl, hb, hg, h3, h4, h5, h6⟩
  · exact ⟨none, 0, by rw [h0], by omega, Nat.zero_le _, fun h => by omega⟩
  · refine ⟨_, _, rfl, h3, h4, fun _ => ⟨g, rfl, fun k b hk => ?_⟩⟩
    have := World.ownsRow.cells hc (g := g) rfl k (.pointer (some ⟨b, 0, none⟩)) (by rw [List.getElem?_map, hk]; rfl)
    have ha : (⟨g, 0, none⟩ : Addr).add k = ⟨g, k, none⟩ := by unfold Addr.add; split <;> simp_all
    rw [ha] at this
    exact this

section
variable {w : World} {ρ : Nat → Role} {pb : Home} {vch : Value} {ptr : List Nat} {mb : Option Nat} {D : DataW Value} {N M : Nat} {s : St}

set_option maxRecDepth 100000 in
set_option maxHeartbeats 1600000 in
theorem may_any (h : PipesAt w ρ pb vch ptr mb D N M s) (c : Int) : Calls Tryz.prog 140 #[.pointer (some ⟨pb.b, 8, none⟩), .int .i64 c] w fun e w' =>
    e = .returned (.bool (may s.chs.length c)) ∧ w = w' := by
  obtain ⟨ao, cap, rfl, h1, h2, -⟩ := ptr_row h.row
  have c0 := h.c0
  rw [h.len] at c0
  unfold may
  clear h h1
  generalize s.chs.length = m at *
  by_cases h0 : 0 ≤ c
  · have d0 : decide (0 ≤ c) = true := by rw [decide_eq_true_eq]; exact h0
    go_enter Tryz.func140, Tryz.ntmps140
    go_wp2_with fail
    go_ret
    first | exact ⟨rfl, rfl⟩ | exact ⟨by rw [d0]; rfl, rfl⟩
  · have d0 : decide (0 ≤ c) = false := by rw [decide_eq_false_iff_not]; exact h0
    go_enter Tryz.func140, Tryz.ntmps140
    go_wp2_with fail
    go_ret
    first | exact ⟨rfl, rfl⟩ | exact ⟨by rw [d0]; rfl, rfl⟩

/-- Where the channel of a number lies. -/
def chanP (ptr : List Nat) (c : Int) : Option Addr := if c = 0 then none else (ptr[(c - 1).toNat]?).map fun b => ⟨b, 0, none⟩
set_option maxRecDepth 100000 in
set_option maxHeartbeats 1600000 in
theorem channel_any (h : PipesAt w ρ pb vch ptr mb D N M s) (c : Int) (hc : may s.chs.length c = true) : Calls Tryz.prog 141 #[.pointer (some ⟨pb.b, 8, none⟩), .int .i64 c] w fun e w' =>
    e = .returned (.pointer (chanP ptr c)) ∧ w = w' := by
  obtain ⟨ao, cap, rfl, h1, h2, h3⟩ := ptr_row h.row
  have c0 := h.c0
  have hl := h.len
  have hm := h.many
  unfold may at hc
  simp only [Bool.and_eq_true, decide_eq_true_eq] at hc
  clear h
  by_cases h0 : c = 0
  · subst h0
    clear h3 hl hm hc
    go_enter Tryz.func141, Tryz.ntmps141
    go_wp2_with fail
    go_ret
    exact ⟨rfl, rfl⟩
  · obtain ⟨k, rfl⟩ : ∃ k : Nat, c = (k : Int) + 1 := ⟨(c - 1).toNat, by omega⟩
    have hk : k < ptr.length := by omega
    obtain ⟨g, rfl, h4⟩ := h3 (by omega)
    have h5 := h4 k _ (List.getElem?_eq_getElem hk)
    have e0 : (((k : Int) + 1) == 0) = false := by rw [beq_eq_false_iff_ne]; exact h0
    have e1 : wrap64 (k : Int) = (k : Int) := by unfold wrap64; omega
    have e2 : (k : Int) + 1 - 1 = (k : Int) := by omega
    have hr : chanP ptr ((k : Int) + 1) = some ⟨ptr[k], 0, none⟩ := by
      unfold chanP
      rw [if_neg h0, e2, Int.toNat_natCast, List.getElem?_eq_getElem hk]; rfl
    rw [hr]
    have hki : (0 : Int) ≤ (k : Int) ∧ (k : Int) < (ptr.length : Int) := by omega
    clear h4 hl hm hc h3 hr
    generalize ptr[k] = cb at *
    generalize ptr.length = n at *
    go_enter Tryz.func141, Tryz.ntmps141
    go_wp2_with fail
    go_ret
    exact ⟨rfl, rfl⟩

set_option maxRecDepth 100000 in
set_option maxHeartbeats 1600000 in
theorem row_any (w : World) (cb : Nat) (what : Int) : Calls Tryz.prog 169 #[.pointer (some ⟨cb, 0, none⟩), .int .i64 what] w fun e w' =>
    e = .returned (.pointer (some ⟨cb, if what = 3 then 2 else 3, none⟩)) ∧ w = w' := by
  by_cases h3 : what = 3
  · subst h3
    go_enter Tryz.func169, Tryz.ntmps169
    go_wp2_with fail
    go_ret
    exact ⟨rfl, rfl⟩
  · rw [if_neg h3]
    have e0 : (what == 3) = false := by rw [beq_eq_false_iff_ne]; exact h3
    go_enter Tryz.func169, Tryz.ntmps169
    go_wp2_with fail
    go_ret
    exact ⟨rfl, rfl⟩

set_option maxRecDepth 100000 in
set_option maxHeartbeats 1600000 in
theorem drawn_any (w : World) (draw : Int) (m : Nat) (hm : 0 < m) (hd : -9223372036854775808 ≤ draw ∧ draw ≤ 9223372036854775807) (h64 : m ≤ 64) : Calls Tryz.prog 137 #[.int .i64 draw, .int .i64 (m : Nat)] w fun e w' =>
    e = .returned (.int .i64 (drawn draw m : Nat)) ∧ w = w' := by
  have hr : ((drawn draw m : Nat) : Int) = draw % (m : Int) := by unfold drawn; exact Int.toNat_of_nonneg (Int.emod_nonneg _ (by omega))
  rw [hr]
  have e0 : ((m : Int) == 0) = false := by rw [beq_eq_false_iff_ne]; omega
  have e1 : ¬ ((m : Int) = 0) := by omega
  have hlt : draw % (m : Int) < m := Int.emod_lt_of_pos _ (by omega)
  have hge : 0 ≤ draw % (m : Int) := Int.emod_nonneg _ (by omega)
  have ht : draw.tmod (m : Int) = if draw < 0 ∧ draw % (m : Int) ≠ 0 then draw % (m : Int) - m else draw % (m : Int) := by
    rw [Int.tmod_eq_emod]
    split <;> split <;> simp_all [Int.dvd_iff_emod_eq_zero] <;> omega
  generalize draw % (m : Int) = r at *
  by_cases hn : draw < 0 ∧ r ≠ 0
  · rw [if_pos hn] at ht
    have e2 : IntKind.i64.wrap (r - m + m) = r := by rw [IntKind.wrap_i64]; omega
    have e3 : r - m < 0 := by omega
    go_enter Tryz.func137, Tryz.ntmps137
    go_wp2_with fail
    go_ret
    exact ⟨rfl, rfl⟩
  · rw [if_neg hn] at ht
    have e3 : ¬ (r < 0) := by omega
    go_enter Tryz.func137, Tryz.ntmps137
    go_wp2_with fail
    go_ret
    exact ⟨rfl, rfl⟩
end
end Go.Proofs.YtnjdmijcoadidaaGreatDoor

namespace Go.Proofs.YtnjdmijcoadidaaGreatDoor
open Go.RowKit Go.Maps Pp

theorem RingL.drewN {w : World} {rb sb n : Nat} {l : List Int} (h : RingL eI w rb sb n l) (m : Nat) : RingL eI (w.drewN m) rb sb n l := by
  obtain ⟨row, f, h1, h2⟩ := h
  exact ⟨row, f, h1, h2.drewN m⟩
theorem pos_beq (n : Nat) : (decide (0 < (n : Int))) = decide (0 < n) := by simp

section
variable {w : World} {ρ : Nat → Role} {k cb rb sb : Nat} {v1 v2 : Value} {c : Ch}
set_option maxRecDepth 100000 in
set_option maxHeartbeats 3200000 in
theorem cfree_any (h : ChC w ρ k cb rb sb v1 v2 c) (what : Int) : Calls Tryz.prog 165 #[.pointer (some ⟨cb, 0, none⟩), .int .i64 what] w fun e w' =>
    e = .returned (.bool (c.free what)) ∧ ∃ n, w' = w.drewN n := by
  obtain ⟨size, nums, shut, sends, recvs⟩ := c
  obtain ⟨a1, k1, rfl, h11, h12⟩ := h.r1.slice
  obtain ⟨a2, k2, rfl, h21, h22⟩ := h.r2.slice
  have c0 := h.c0
  have c1 := h.c1
  have c2 := h.c2
  have c3 := h.c3
  have HL : Hid (∀ W : World, (∃ m, W = w.drewN m) → Calls Tryz.prog 164 #[.pointer (some ⟨rb, 0, none⟩)] W fun e w' => e = .returned (.int .i64 nums.length) ∧ ∃ n, w' = W.drewN n) :=
    Lib.hid fun W ⟨m, hW⟩ => by subst hW; exact (llenI (h.ring.drewN m)).mono fun _ _ ⟨e1, e2⟩ => ⟨e1, 0, e2 ▸ rfl⟩
  have HS : Hid (∀ W : World, (∃ m, W = w.drewN m) → Calls Tryz.prog 128 #[.pointer (some ⟨rb, 0, none⟩)] W fun e w' => e = .returned (.int .i64 (size : Nat)) ∧ ∃ n, w' = W.drewN n) :=
    Lib.hid fun W ⟨m, hW⟩ => by subst hW; exact (lsizeI (h.ring.drewN m)).mono fun _ _ ⟨e1, e2⟩ => ⟨e1, 0, e2 ▸ rfl⟩
  simp only at c1 c2 c3
  have HF : ∀ b, Ch.free ⟨size, nums, shut, sends, recvs⟩ what = b ↔ (shut || if what = 3 then (decide (0 < recvs.length) || decide (nums.length < size)) else (decide (0 < nums.length) || decide (0 < sends.length))) = b := fun b => Iff.rfl
  clear h
  obtain ⟨b, hb⟩ : ∃ b, Ch.free ⟨size, nums, shut, sends, recvs⟩ what = b := ⟨_, rfl⟩
  rw [hb]
  rw [HF] at hb
  clear HF
  generalize sends.length = n1 at *
  generalize recvs.length = n2 at *
  generalize nums.length = n3 at *
  cases shut with
  | true =>
    rw [Bool.true_or] at hb
    subst hb
    go_enter Tryz.func165, Tryz.ntmps165
    go_wp2_with fail
    go_ret
    exact ⟨rfl, 0, rfl⟩
  | false =>
    rw [Bool.false_or] at hb
    by_cases h3 : what = 3
    · rw [if_pos h3] at hb
      subst h3
      rcases Nat.eq_zero_or_pos n2 with rfl | hp
      · have d1 : decide (0 < (0 : Nat)) = false := by decide
        rw [d1, Bool.false_or] at hb
        subst hb
        go_enter Tryz.func165, Tryz.ntmps165
        go_wp2_with fail
        go_quiet (first | (go_at_call 164; exact Calls.quiet_of (HL.out _ ⟨_, rfl⟩)) | (go_at_call 128; exact Calls.quiet_of (HS.out _ ⟨_, rfl⟩)))
        go_wp2_with fail
        go_ret
        exact ⟨by simp, _, rfl⟩
      · have d1 : decide (0 < n2) = true := by rw [decide_eq_true_eq]; exact hp
        have d2 : decide (0 < (n2 : Int)) = true := by rw [decide_eq_true_eq]; omega
        rw [d1, Bool.true_or] at hb
        subst hb
        go_enter Tryz.func165, Tryz.ntmps165
        go_wp2_with fail
        go_quiet (first | (go_at_call 164; exact Calls.quiet_of (HL.out _ ⟨_, rfl⟩)) | (go_at_call 128; exact Calls.quiet_of (HS.out _ ⟨_, rfl⟩)))
        go_wp2_with fail
        go_ret
        exact ⟨by simp, _, rfl⟩
    · rw [if_neg h3] at hb
      have e0 : (what == 3) = false := by rw [beq_eq_false_iff_ne]; exact h3
      have HL1 := Lib.hid (HL.out w ⟨0, rfl⟩)
      clear HL
      rcases Nat.eq_zero_or_pos n3 with rfl | hp
      · have d1 : decide (0 < (0 : Nat)) = false := by decide
        rw [d1, Bool.false_or] at hb
        subst hb
        go_enter Tryz.func165, Tryz.ntmps165
        go_wp2_with fail
        refine HL1.out.mono ?_
        rintro e w' ⟨rfl, m, rfl⟩
        go_wp2_with fail
        go_ret
        exact ⟨by simp, _, rfl⟩
      · have hpi : 0 < (n3 : Int) := by omega
        have d1 : decide (0 < n3) = true := by rw [decide_eq_true_eq]; exact hp
        rw [d1, Bool.true_or] at hb
        subst hb
        go_enter Tryz.func165, Tryz.ntmps165
        go_wp2_with fail
        refine HL1.out.mono ?_
        rintro e w' ⟨rfl, m, rfl⟩
        go_wp2_with fail
        go_ret
        exact ⟨by simp, _, rfl⟩
end

section
variable {w : World} {ρ : Nat → Role} {pb : Home} {vch : Value} {ptr : List Nat} {mb : Option Nat} {D : DataW Value} {N M : Nat} {s : St}
/-- The channel of a number that there is. -/
theorem PipesAt.chan (h : PipesAt w ρ pb vch ptr mb D N M s) {c : Int} (hc : may s.chs.length c = true) : (c = 0 ∧ chanP ptr c = none ∧ Pp.chan s.chs c = none) ∨
    ∃ (k cb rb sb : Nat) (v1 v2 : Value) (x : Ch), c = (k : Int) + 1 ∧ s.chs[k]? = some x ∧ ptr[k]? = some cb ∧ chanP ptr c = some ⟨cb, 0, none⟩ ∧ Pp.chan s.chs c = some x ∧ ChC w ρ k cb rb sb v1 v2 x := by
  unfold may at hc
  simp only [Bool.and_eq_true, decide_eq_true_eq] at hc
  by_cases h0 : c = 0
  · exact Or.inl ⟨h0, by simp [chanP, h0], by simp [Pp.chan, h0]⟩
  · obtain ⟨k, rfl⟩ : ∃ k : Nat, c = (k : Int) + 1 := ⟨(c - 1).toNat, by omega⟩
    have hk : k < s.chs.length := by omega
    have hk2 : k < ptr.length := by rw [h.len]; exact hk
    obtain ⟨rb, sb, v1, v2, h1⟩ := h.chs k _ _ (List.getElem?_eq_getElem hk2) (List.getElem?_eq_getElem hk)
    have e2 : (k : Int) + 1 - 1 = (k : Int) := by omega
    refine Or.inr ⟨k, _, rb, sb, v1, v2, _, rfl, List.getElem?_eq_getElem hk, List.getElem?_eq_getElem hk2, ?_, ?_, h1⟩
    · unfold chanP; rw [if_neg h0, e2, Int.toNat_natCast, List.getElem?_eq_getElem hk2]; rfl
    · unfold Pp.chan; rw [if_neg h0, e2, Int.toNat_natCast, List.getElem?_eq_getElem hk]
/-- How many numbers are in a channel, and what is wrong. -/
def lenV (s : St) (c : Int) : Int × Int := if may s.chs.length c = false then (0, 2) else (((((Pp.chan s.chs c).map fun x => x.nums.length).getD 0 : Nat) : Int), 0)
/-- An error. -/
def errV (n : Int) : Value := if n = 0 then .nilIface else .iface 37 (.int .i64 n)
set_option maxRecDepth 100000 in
set_option maxHeartbeats 3200000 in
theorem plen_any (h : PipesAt w ρ pb vch ptr mb D N M s) (c : Int) : Calls Tryz.prog 134 #[.pointer (some ⟨pb.b, 8, none⟩), .int .i64 c] w fun e w' =>
    e = .returned (.tuple #[.int .i64 (lenV s c).1, errV (lenV s c).2]) ∧ w = w' := by
  have HH := Lib.hid h
  cases hm : may s.chs.length c with
  | false =>
    have hv : lenV s c = (0, 2) := by unfold lenV; rw [if_pos hm]
    rw [hv]
    have HM := Lib.hid hm
    clear h hm hv
    go_enter Tryz.func134, Tryz.ntmps134
    go_wp2_with fail
    refine (may_any HH.out c).mono ?_
    rintro e w' ⟨rfl, rfl⟩
    rw [HM.out]
    go_wp2_with fail
    go_ret2
    exact ⟨rfl, rfl⟩
  | true =>
    have HM := Lib.hid hm
    have HC := h.chan hm
    have hv : lenV s c = (((((Pp.chan s.chs c).map fun x => x.nums.length).getD 0 : Nat) : Int), 0) := by unfold lenV; rw [if_neg (by rw [hm]; decide)]
    rw [hv]
    clear h hm hv
    rcases HC with ⟨rfl, _, h2⟩ | ⟨k, cb, rb, sb, v1, v2, x, rfl, _, _, h1, h2, hx⟩
    · rw [h2]
      clear h2
      go_enter Tryz.func134, Tryz.ntmps134
      go_wp2_with fail
      refine (may_any HH.out 0).mono ?_
      rintro e w' ⟨rfl, rfl⟩
      rw [HM.out]
      go_wp2_with fail
      go_ret2
      exact ⟨rfl, rfl⟩
    · rw [h2]
      have HX := Lib.hid hx
      have H1 := Lib.hid h1
      have c0 := hx.c0
      have e0 : (((k : Int) + 1) == 0) = false := by rw [beq_eq_false_iff_ne]; omega
      have e1 : ¬ ((k : Int) + 1 = 0) := by omega
      clear h2 h1 hx
      go_enter Tryz.func134, Tryz.ntmps134
      go_wp2_with fail
      refine (may_any HH.out _).mono ?_
      rintro e w' ⟨rfl, rfl⟩
      rw [HM.out]
      go_wp2_with fail
      refine (channel_any HH.out _ HM.out).mono ?_
      rintro e w' ⟨rfl, rfl⟩
      rw [H1.out]
      go_wp2_with fail
      refine (llenI HX.out.ring).mono ?_
      rintro e w' ⟨rfl, rfl⟩
      go_wp2_with fail
      go_ret2
      exact ⟨rfl, rfl⟩
end
end Go.Proofs.YtnjdmijcoadidaaGreatDoor

namespace Go.Proofs.YtnjdmijcoadidaaGreatDoor
open Go.RowKit Go.Maps Pp

theorem own_setG {w : World} {base g n cap off size : Nat} {e : TypeId} {xs : List Value} (h : w.ownsRow base e size (.slice (some ⟨g, 0, none⟩) n cap) n xs) (u : Value) :
    (w.setCell ⟨g, off, none⟩ u).ownsRow base e size (.slice (some ⟨g, 0, none⟩) n cap) n (xs.set off u) := by
  refine ⟨by rw [List.length_set]; exact h.1, ?_⟩
  rcases h.2 with ⟨q, _⟩ | ⟨g', cap', cur, q, hb, hg, h1, h2, h3, h4⟩
  · cases q
  · cases q
    refine Or.inr ⟨g, cap, cur.setIfInBounds off u, rfl, hb, Go.Lib.heap_setCell_same hg u, h1, h2, by simpa using h3, ?_⟩
    rw [Array.toList_setIfInBounds, List.take_set, h4]
theorem own_setCells {base g n cap size : Nat} {e : TypeId} {xs : List Value} : ∀ (vs : List Value) (o : Nat) {w : World}, w.ownsRow base e size (.slice (some ⟨g, 0, none⟩) n cap) n xs → xs.length ≤ o →
    (w.setCells g o vs).ownsRow base e size (.slice (some ⟨g, 0, none⟩) n cap) n xs
  | [], _, _, h, _ => h
  | v :: vs, o, w, h, ho => own_setCells vs (o + 1) (w := w.setCell ⟨g, o, none⟩ v) (by
      have := own_setG (off := o) h v
      rwa [List.set_eq_of_length_le ho] at this) (by omega)
theorem own_cut {w : World} {base g n cap size i : Nat} {e : TypeId} {xs : List Value} (h : w.ownsRow base e size (.slice (some ⟨g, 0, none⟩) n cap) n xs) (hi : i ≤ n) :
    w.ownsRow base e size (.slice (some ⟨g, 0, none⟩) i cap) i (xs.take (i * size)) := by
  have hm : i * size ≤ n * size := Nat.mul_le_mul_right _ hi
  refine ⟨by rw [List.length_take, h.1]; omega, ?_⟩
  rcases h.2 with ⟨q, _⟩ | ⟨g', cap', cur, q, hb, hg, h1, h2, h3, h4⟩
  · cases q
  · cases q
    exact Or.inr ⟨g, cap, cur, rfl, hb, hg, by omega, h2, h3, by rw [← h4, List.take_take, Nat.min_eq_left hm]⟩
theorem keeps_setCellsG (b : Nat) : ∀ (vs : List Value) (o : Nat) (w : World), Keeps (fun k => k = b) w (w.setCells b o vs)
  | [], _, w => Keeps.refl _ w
  | v :: r, o, w => ((Keeps.refl (fun k => k = b) w).setCell (p := ⟨b, o, none⟩) (Or.inl rfl) v).trans (keeps_setCellsG b r (o + 1) _)
theorem cellsW_set : ∀ (r : List (Int × Nat)) (i : Nat) (x : Int × Nat), i < r.length → ((cellsW r).set (i * 2) (.int .i64 x.1)).set (i * 2 + 1) (.int .i64 (x.2 : Int)) = cellsW (r.set i x) := by
  intro r
  induction r with
  | nil => intro i x h; cases h
  | cons p r ih =>
    intro i x h
    have e : ∀ (q : Int × Nat) l, cellsW (q :: l) = .int .i64 q.1 :: .int .i64 (q.2 : Int) :: cellsW l := fun _ _ => rfl
    cases i with
    | zero => rfl
    | succ i =>
      rw [e, List.set_cons_succ, e, show (i + 1) * 2 = i * 2 + 1 + 1 by omega, List.set_cons_succ, List.set_cons_succ, List.set_cons_succ, show i * 2 + 2 = (i * 2 + 1) + 1 by omega, List.set_cons_succ, ih i x (by simpa using h)]
theorem cellsW_take : ∀ (r : List (Int × Nat)) (i : Nat), (cellsW r).take (i * 2) = cellsW (r.take i) := by
  intro r
  induction r with
  | nil => intro i; simp [cellsW]
  | cons p r ih =>
    intro i
    have e : ∀ (q : Int × Nat) l, cellsW (q :: l) = .int .i64 q.1 :: .int .i64 (q.2 : Int) :: cellsW l := fun _ _ => rfl
    cases i with
    | zero => rfl
    | succ i => rw [e, show (i + 1) * 2 = i * 2 + 1 + 1 by omega, List.take_succ_cons, List.take_succ_cons, ih, List.take_succ_cons, e]
theorem cellsW_get : ∀ (r : List (Int × Nat)) (i : Nat) (x : Int × Nat), r[i]? = some x → (cellsW r)[i * 2]? = some (.int .i64 x.1) ∧ (cellsW r)[i * 2 + 1]? = some (.int .i64 (x.2 : Int)) := by
  intro r
  induction r with
  | nil => intro i x h; cases h
  | cons p r ih =>
    intro i x h
    have e : ∀ (q : Int × Nat) l, cellsW (q :: l) = .int .i64 q.1 :: .int .i64 (q.2 : Int) :: cellsW l := fun _ _ => rfl
    cases i with
    | zero => cases h; exact ⟨rfl, rfl⟩
    | succ i =>
      have := ih i x (by simpa using h)
      rw [e, show (i + 1) * 2 = i * 2 + 1 + 1 by omega, List.getElem?_cons_succ, List.getElem?_cons_succ, List.getElem?_cons_succ, show i * 2 + 2 = (i * 2 + 1) + 1 by omega, List.getElem?_cons_succ]
      exact this
/-- What lies in a row's cells. -/
theorem RowW.cell {w : World} {g n cap : Nat} {r : List (Int × Nat)} (h : RowW w (.slice (some ⟨g, 0, none⟩) n cap) r) {i : Nat} {x : Int × Nat} (hx : r[i]? = some x) :
    w.cell? ⟨g, i * 2, none⟩ = some (.int .i64 x.1) ∧ w.cell? ⟨g, i * 2 + 1, none⟩ = some (.int .i64 (x.2 : Int)) := by
  obtain ⟨h1, h2⟩ := cellsW_get r i x hx
  have ha : ∀ j, (⟨g, 0, none⟩ : Addr).add j = ⟨g, j, none⟩ := fun j => by unfold Addr.add; split <;> simp_all
  have e1 := World.ownsRow.cells h (g := g) rfl _ _ h1
  have e2 := World.ownsRow.cells h (g := g) rfl _ _ h2
  rw [ha] at e1 e2
  exact ⟨e1, e2⟩
theorem RowW.addr {w : World} {ao : Option Addr} {n cap : Nat} {r : List (Int × Nat)} (h : RowW w (.slice ao n cap) r) (hn : 0 < r.length) : ∃ g, ao = some ⟨g, 0, none⟩ ∧ n = r.length ∧ n ≤ cap ∧ cap ≤ maxLen ∧ g < w.heap.size ∧ ∀ j, w.frozen? ⟨g, j, none⟩ = false := by
  rcases h.2 with ⟨q, q2⟩ | ⟨g, cap', cur, q, hb, hg, h1, h2, _, _⟩
  · omega
  · injection q with q1 q2 q3
    subst q3
    exact ⟨g, q1, q2, by omega, h2, (Array.getElem?_eq_some_iff.1 hg).1, fun j => frozen_of_row _ _ _ _ _ hg⟩
theorem RowW.set {w : World} {g n cap i : Nat} {r : List (Int × Nat)} (h : RowW w (.slice (some ⟨g, 0, none⟩) n cap) r) (hn : n = r.length) (hi : i < r.length) (x : Int × Nat) :
    RowW ((w.setCell ⟨g, i * 2, none⟩ (.int .i64 x.1)).setCell ⟨g, i * 2 + 1, none⟩ (.int .i64 (x.2 : Int))) (.slice (some ⟨g, 0, none⟩) n cap) (r.set i x) := by
  subst hn
  unfold RowW at *
  have := own_setG (off := i * 2 + 1) (own_setG (off := i * 2) h (.int .i64 x.1)) (.int .i64 (x.2 : Int))
  rw [cellsW_set _ _ _ hi] at this
  rwa [List.length_set]
theorem RowW.cut {w : World} {g n cap i : Nat} {r : List (Int × Nat)} (h : RowW w (.slice (some ⟨g, 0, none⟩) n cap) r) (hn : n = r.length) (hi : i ≤ r.length) : RowW w (.slice (some ⟨g, 0, none⟩) i cap) (r.take i) := by
  subst hn
  unfold RowW at *
  have := own_cut (i := i) h hi
  rw [cellsW_take] at this
  rwa [List.length_take, Nat.min_eq_left hi]

set_option maxRecDepth 100000 in
set_option maxHeartbeats 1600000 in
theorem del_any (t : Int) (k : Int) (task : Int) (bx : Nat) (W : World) (hb : W.cell? ⟨bx, 0, none⟩ = some (.int .i64 task)) :
    Calls Tryz.prog 171 #[.agg #[.int .i64 t, .int .i64 k], .pointer (some ⟨bx, 0, none⟩)] W fun e w' => e = .returned (.bool (decide (t = task))) ∧ Below W.heap.size W w' := by
  have hlt := block_lt_of_cell hb
  have hb2 : (W.alloc (.cells #[.int .i64 t, .int .i64 k] 135)).cell? ⟨bx, 0, none⟩ = some (.int .i64 task) := by rw [World.cell?_alloc_past _ _ _ hlt]; exact hb
  go_enter Tryz.func171, Tryz.ntmps171
  go_wp2_with fail
  go_ret
  refine ⟨?_, (Below.refl _ W).alloc (Nat.le_refl _) _⟩
  rfl
end Go.Proofs.YtnjdmijcoadidaaGreatDoor

namespace Go.Proofs.YtnjdmijcoadidaaGreatDoor
open Go.RowKit Go.Maps Pp

/-- Where a task stands first in a row: x is -1 where it stands nowhere. -/
def FirstIs (task : Int) (r : List (Int × Nat)) (x : Int) : Prop := (x = -1 ∧ ∀ w ∈ r, w.1 ≠ task) ∨ ∃ k : Nat, x = k ∧ ∃ w, r[k]? = some w ∧ w.1 = task ∧ ∀ w ∈ r.take k, w.1 ≠ task
theorem off_none {task : Int} {r : List (Int × Nat)} (h : ∀ w ∈ r, w.1 ≠ task) : off task r = r := List.filter_eq_self.2 fun w hw => by simp [h w hw]
theorem off_take_succ {task : Int} {r : List (Int × Nat)} {k : Nat} {x : Int × Nat} (hx : r[k]? = some x) : off task (r.take (k + 1)) = if x.1 = task then off task (r.take k) else off task (r.take k) ++ [x] := by
  have hk := (List.getElem?_eq_some_iff.1 hx).1
  have e : r[k] = x := (List.getElem?_eq_some_iff.1 hx).2
  rw [List.take_succ_eq_append_getElem hk, e]
  unfold off
  rw [List.filter_append]
  split
  · next h => simp [h]
  · next h => simp [h]

abbrev delF (bx : Nat) : Value := .func (.func 171) #[] #[.pointer (some ⟨bx, 0, none⟩)]
set_option maxRecDepth 100000 in
set_option maxHeartbeats 3200000 in
theorem indexW_any (w : World) (v : Value) (r : List (Int × Nat)) (h : RowW w v r) (task : Int) (bx : Nat) (hb : w.cell? ⟨bx, 0, none⟩ = some (.int .i64 task)) :
    Calls Tryz.prog 180 #[v, delF bx] w fun e w' => ∃ x : Int, e = .returned (.int .i64 x) ∧ FirstIs task r x ∧ Below w.heap.size w w' := by
  obtain ⟨ao, cap, rfl, hcap, hmax⟩ := h.slice
  unfold maxLen at hmax
  have HH := Lib.hid h
  have HB := Lib.hid hb
  obtain ⟨n, hn⟩ : ∃ n, n = r.length := ⟨_, rfl⟩
  rw [← hn] at hcap HH ⊢
  have HN := Lib.hid hn
  clear h hb hn
  go_enter Tryz.func180, Tryz.ntmps180
  go_wp2_with fail
  go_loopw [8] (fun i wr => ∃ k : Nat, k ≤ n ∧ i = .int .i64 k ∧ (∀ w ∈ r.take k, w.1 ≠ task) ∧ Below w.heap.size w wr) (fun i _ => n - (intOf i).toNat)
  case atStart => exact ⟨0, Nat.zero_le _, rfl, (fun w hw => by simp at hw), Below.refl _ _⟩
  case round =>
    obtain ⟨k, hk, rfl, hno, hbw⟩ := hrel
    have HNO := Lib.hid hno
    have HBW := Lib.hid hbw
    clear hno
    by_cases hkn : k < n
    · obtain ⟨x, hx⟩ : ∃ x, r[k]? = some x := ⟨_, List.getElem?_eq_getElem (by have := HN.out; omega)⟩
      have HX := Lib.hid hx
      obtain ⟨g, rfl, -, -, -, hg, -⟩ := HH.out.addr (by have := HN.out; omega)
      obtain ⟨hc1, hc2⟩ := HH.out.cell hx
      rw [← hbw.cell (p := ⟨g, k * 2, none⟩) hg] at hc1
      rw [← hbw.cell (p := ⟨g, k * 2 + 1, none⟩) hg] at hc2
      have HB2 : Hid (wr.cell? ⟨bx, 0, none⟩ = some (.int .i64 task)) := Lib.hid (by
        rw [hbw.cell (p := ⟨bx, 0, none⟩) (block_lt_of_cell HB.out)]; exact HB.out)
      obtain ⟨x1, x2⟩ := x
      simp only at hc1 hc2
      have hki : (0 : Int) ≤ (k : Int) ∧ (k : Int) < (n : Int) := by omega
      clear hbw hx
      by_cases ht : x1 = task
      · have HT := Lib.hid ht
        have HD := Lib.hid (del_any x1 (x2 : Nat) task bx wr HB2.out)
        have hd : decide (x1 = task) = true := by rw [decide_eq_true_eq]; exact ht
        rw [hd] at HD
        clear ht hd
        go_wp2_with fail
        refine HD.out.mono ?_
        rintro e w2 ⟨rfl, hb2⟩
        go_wp2_with fail
        go_ret
        exact ⟨_, rfl, Or.inr ⟨k, rfl, _, HX.out, HT.out, HNO.out⟩, HBW.out.trans (hb2.mono HBW.out.size)⟩
      · have HT := Lib.hid ht
        have HD := Lib.hid (del_any x1 (x2 : Nat) task bx wr HB2.out)
        have hd : decide (x1 = task) = false := by rw [decide_eq_false_iff_not]; exact ht
        rw [hd] at HD
        clear ht hd
        go_wp2_with fail
        refine HD.out.mono ?_
        rintro e w2 ⟨rfl, hb2⟩
        have HB3 := Lib.hid hb2
        clear hb2
        go_wp2_with fail
        go_roundw
        case rel =>
          refine ⟨k + 1, by omega, by go_num, fun y hy => ?_, HBW.out.trans (HB3.out.mono HBW.out.size)⟩
          have hkl := (List.getElem?_eq_some_iff.1 HX.out).1
          rw [List.take_succ_eq_append_getElem hkl, List.mem_append, List.mem_singleton] at hy
          rcases hy with hy | hy
          · exact HNO.out y hy
          · rw [hy, (List.getElem?_eq_some_iff.1 HX.out).2]; exact HT.out
        case measure => simp [intOf]; omega
    · obtain rfl : k = n := by omega
      clear hbw
      go_wp2_with fail
      go_ret
      refine ⟨-1, rfl, Or.inl ⟨rfl, fun y hy => HNO.out y ?_⟩, HBW.out⟩
      rw [HN.out, List.take_length]; exact hy
end Go.Proofs.YtnjdmijcoadidaaGreatDoor

namespace Go.Proofs.YtnjdmijcoadidaaGreatDoor
open Go.RowKit Go.Maps Pp

theorem run_clearW (w : World) (ty : TypeId) (b o n c : Nat) (hn : 0 < n) (hc : ∀ j, j < n * 2 → (w.cell? ⟨b, o + j, none⟩).isSome = true) (hf : ∀ j, j < n * 2 → w.frozen? ⟨b, o + j, none⟩ = false) :
    (Builtin.clear_ #[74] ty #[.slice (some ⟨b, o, none⟩) n c]).run Tryz.prog w = .ok (.tuple #[]) (w.setCells b o (List.replicate (n * 2) (.int .i64 0))) := by
  have hzc : (Builtin.zeroCells (Value.agg #[.int .i64 0, .int .i64 0]).cells n).toList = List.replicate (n * 2) (.int .i64 0) := by
    simp only [Value.cells, Builtin.zeroCells]
    apply List.ext_getElem
    · simp
    · intro i h1 h2
      simp
      rcases Nat.mod_two_eq_zero_or_one i with e | e <;> simp [e]
  have hst := run_storeCells_cells (P := Tryz.prog) b o (List.replicate (n * 2) (.int .i64 0)) 0 w (by simpa using hc) (by simpa using hf) (by intro v hv'; rw [List.eq_of_mem_replicate hv']; rfl)
  simp only [Nat.add_zero] at hst
  obtain ⟨m, rfl⟩ : ∃ m, n = m + 1 := ⟨n - 1, by omega⟩
  simp [Builtin.clear_, run_underlying Tryz.underlying74, hzc, hst]

theorem set_take_drop {α : Type} {cur r : List α} {m k : Nat} {x : α} (hx : r[k]? = some x) (hm : m < k) (hd : cur.drop k = r.drop k) (hl : cur.length = r.length) : (cur.set m x).take (m + 1) = cur.take m ++ [x] ∧ (cur.set m x).drop (k + 1) = r.drop (k + 1) := by
  have hk := (List.getElem?_eq_some_iff.1 hx).1
  constructor
  · rw [List.take_succ_eq_append_getElem (by rw [List.length_set]; omega), List.getElem_set_self]
    congr 1
    rw [List.take_set, List.set_eq_of_length_le (by rw [List.length_take]; omega)]
  · rw [List.drop_set]
    rw [if_pos (by omega)]
    have := congrArg (List.drop 1) hd
    rw [List.drop_drop, List.drop_drop] at this
    rw [this]
theorem getD_of_drop {α : Type} {cur r : List α} {k : Nat} {x : α} (hx : r[k]? = some x) (hd : cur.drop k = r.drop k) : cur[k]? = some x := by
  have h1 : (cur.drop k)[0]? = (r.drop k)[0]? := by rw [hd]
  rw [List.getElem?_drop, List.getElem?_drop, Nat.add_zero] at h1
  rw [h1]; exact hx
/-- So far: the first m of the row are those of the first k that are left. -/
structure DelJ (w wr : World) (g n cap : Nat) (r cur : List (Int × Nat)) (task : Int) (m k : Nat) : Prop where
  row : RowW wr (.slice (some ⟨g, 0, none⟩) n cap) cur
  len : cur.length = r.length
  fst : cur.take m = off task (r.take k)
  rest : cur.drop k = r.drop k
  lt : m < k
  le : k ≤ n
  keep : Keeps (fun b => b = g) w wr

set_option maxRecDepth 100000 in
set_option maxHeartbeats 6400000 in
theorem deleteW_any (w : World) (v : Value) (r : List (Int × Nat)) (h : RowW w v r) (hl : r.length ≤ 1000000) (task : Int) (bx : Nat) (hb : w.cell? ⟨bx, 0, none⟩ = some (.int .i64 task)) (hne : ∀ b, v.ownBlock = some b → b ≠ bx) :
    Calls Tryz.prog 170 #[v, delF bx] w fun e w' => ∃ v', e = .returned v' ∧ RowW w' v' (off task r) ∧ (∀ b, v'.ownBlock = some b → v.ownBlock = some b) ∧ Keeps (fun b => v.ownBlock = some b) w w' := by
  obtain ⟨ao, cap, rfl, hcap, hmax⟩ := h.slice
  unfold maxLen at hmax
  have HH := Lib.hid h
  have HB := Lib.hid hb
  have HNE := Lib.hid hne
  have HI := Lib.hid (indexW_any w _ r h task bx hb)
  obtain ⟨n, hn⟩ : ∃ n, n = r.length := ⟨_, rfl⟩
  rw [← hn] at hcap HH HI HNE hl ⊢
  have HN := Lib.hid hn
  clear h hb hne hn
  go_enter Tryz.func170, Tryz.ntmps170
  go_wp2_with fail
  refine HI.out.mono ?_
  rintro e w1 ⟨x, rfl, hx, hb1⟩
  have H1 := Lib.hid (HH.out.keeps (Keeps.of_new hb1) (S := fun _ => False) (fun _ _ e => e))
  have HB1 := Lib.hid hb1
  rcases hx with ⟨rfl, hno⟩ | ⟨k0, rfl, x0, hx0, ht0, hno⟩
  · have HO : Hid (off task r = r) := Lib.hid (off_none hno)
    clear hno hb1
    go_wp2_with fail
    go_ret
    exact ⟨_, rfl, by rw [HO.out]; have := H1.out; exact this, fun _ e => e, Keeps.of_new HB1.out⟩
  · have hk0 : k0 < n := by rw [HN.out]; exact (List.getElem?_eq_some_iff.1 hx0).1
    obtain ⟨g, rfl, -, -, -, hg, hfz⟩ := HH.out.addr (by have := HN.out; omega)
    have HJ0 : Hid (DelJ w w1 g n cap r r task k0 (k0 + 1)) := Lib.hid ⟨H1.out, rfl, by rw [off_take_succ hx0, if_pos ht0, off_none hno], rfl, Nat.lt_succ_self _, hk0, Keeps.of_new HB1.out⟩
    have HBX : Hid (g ≠ bx) := Lib.hid (HNE.out g rfl)
    have HG := Lib.hid hg
    have HFZ := Lib.hid hfz
    have e1 : ¬ ((k0 : Int) = -1) := by omega
    have e2 : ((k0 : Int) == -1) = false := by rw [beq_eq_false_iff_ne]; exact e1
    clear hno hb1 hx0 ht0 hg hfz
    go_wp2_with fail
    go_loopw [5, 6] (fun i j wr => ∃ (m k : Nat) (cur : List (Int × Nat)), i = .int .i64 m ∧ j = .int .i64 k ∧ DelJ w wr g n cap r cur task m k) (fun _ j _ => n - (intOf j).toNat)
    case atStart => exact ⟨k0, k0 + 1, r, rfl, by go_num, HJ0.out⟩
    case round =>
      obtain ⟨m, k, cur, rfl, rfl, hJ⟩ := hrel
      have HJ := Lib.hid hJ
      have hmk := hJ.lt
      have hkn' := hJ.le
      have hcl : cur.length = n := by rw [hJ.len, HN.out]
      have HCL := Lib.hid hcl
      have hlt : g < wr.heap.size := Nat.lt_of_lt_of_le HG.out hJ.keep.size
      have hfz : ∀ j, wr.frozen? ⟨g, j, none⟩ = false := by
        obtain ⟨g', q, -, -, -, -, h2⟩ := hJ.row.addr (by rw [hcl]; omega)
        cases q; exact h2
      have HFR := Lib.hid hfz
      clear HJ0 hJ hcl hfz
      by_cases hkn : k < n
      · obtain ⟨x, hx⟩ : ∃ x, r[k]? = some x := ⟨_, List.getElem?_eq_getElem (by have := HN.out; omega)⟩
        have HX := Lib.hid hx
        have hxc := getD_of_drop hx HJ.out.rest
        obtain ⟨hc1, hc2⟩ := HJ.out.row.cell hxc
        obtain ⟨x1, x2⟩ := x
        simp only at hc1 hc2
        have HB2 : Hid ((wr.alloc (.cells #[.int .i64 x1, .int .i64 (x2 : Int)] 135)).cell? ⟨bx, 0, none⟩ = some (.int .i64 task)) := Lib.hid (by
          have h1 : wr.cell? ⟨bx, 0, none⟩ = some (.int .i64 task) := HJ.out.keep.cell_of HB.out (fun e => HBX.out e.symm)
          rw [World.cell?_alloc_past _ _ _ (block_lt_of_cell h1)]; exact h1)
        have hki : (0 : Int) ≤ (k : Int) ∧ (k : Int) < (n : Int) := by omega
        have hmi : (0 : Int) ≤ (m : Int) ∧ (m : Int) < (n : Int) := by omega
        have HD := Lib.hid (del_any x1 (x2 : Nat) task bx _ HB2.out)
        clear hxc hx
        by_cases ht : x1 = task
        · have hd : decide (x1 = task) = true := by rw [decide_eq_true_eq]; exact ht
          have HT := Lib.hid ht
          rw [hd] at HD
          clear ht hd
          go_wp2_with fail
          refine HD.out.mono ?_
          rintro e w2 ⟨rfl, hb2⟩
          have HJ2 : Hid (DelJ w w2 g n cap r cur task m (k + 1)) := Lib.hid (by
            have hk2 : Keeps (fun _ => False) wr w2 := ((Keeps.refl (fun _ => False) wr).alloc _).trans (Keeps.of_new hb2)
            refine ⟨HJ.out.row.keeps hk2 (fun _ _ e => e), HJ.out.len, ?_, ?_, by omega, by omega, HJ.out.keep.trans (hk2.mono fun _ _ e => e.elim)⟩
            · rw [off_take_succ HX.out, if_pos HT.out]; exact HJ.out.fst
            · have := congrArg (List.drop 1) HJ.out.rest
              rw [List.drop_drop, List.drop_drop] at this
              exact this)
          clear hb2 hc1 hc2
          go_wp2_with fail
          go_roundw
          case rel => exact ⟨m, k + 1, cur, rfl, by go_num, HJ2.out⟩
          case measure => simp [intOf]; omega
        · have hd : decide (x1 = task) = false := by rw [decide_eq_false_iff_not]; exact ht
          have HT := Lib.hid ht
          rw [hd] at HD
          clear ht hd
          go_wp2_with fail
          refine HD.out.mono ?_
          rintro e w2 ⟨rfl, hb2⟩
          have hk2 : Keeps (fun _ => False) wr w2 := ((Keeps.refl (fun _ => False) wr).alloc _).trans (Keeps.of_new hb2)
          have HR2 := Lib.hid (HJ.out.row.keeps hk2 (fun _ _ e => e))
          have HK2 := Lib.hid hk2
          have b1 : w2.cell? ⟨wr.heap.size, 0, none⟩ = some (.int .i64 x1) := by rw [hb2.cell (p := ⟨wr.heap.size, 0, none⟩) (by simp), World.cell?_alloc_at _ _ _ _ rfl]; rfl
          have b2 : w2.cell? ⟨wr.heap.size, 1, none⟩ = some (.int .i64 (x2 : Int)) := by rw [hb2.cell (p := ⟨wr.heap.size, 1, none⟩) (by simp), World.cell?_alloc_at _ _ _ _ rfl]; rfl
          obtain ⟨y, hy⟩ : ∃ y, cur[m]? = some y := ⟨_, List.getElem?_eq_getElem (by have := HCL.out; omega)⟩
          obtain ⟨m1, m2⟩ := HR2.out.cell hy
          have hfz : ∀ j, w2.frozen? ⟨g, j, none⟩ = false := fun j => by rw [hk2.frozen (p := ⟨g, j, none⟩) hlt id]; exact HFR.out j
          have z1 := hfz (m * 2)
          have z2 := hfz (m * 2 + 1)
          have HJ2 : Hid (DelJ w ((w2.setCell ⟨g, m * 2, none⟩ (.int .i64 x1)).setCell ⟨g, m * 2 + 1, none⟩ (.int .i64 (x2 : Int))) g n cap r (cur.set m (x1, x2)) task (m + 1) (k + 1)) := Lib.hid (by
            obtain ⟨t1, t2⟩ := set_take_drop HX.out HJ.out.lt HJ.out.rest HJ.out.len
            refine ⟨HR2.out.set HCL.out.symm (by have := HCL.out; omega) (x1, x2), by rw [List.length_set]; exact HJ.out.len, ?_, t2, by omega, by omega, ?_⟩
            · rw [off_take_succ HX.out, if_neg HT.out, t1, HJ.out.fst]
            · exact HJ.out.keep.trans (((HK2.out.mono (S' := fun b => b = g) fun _ _ e => e.elim).setCell (p := ⟨g, m * 2, none⟩) (Or.inl rfl) _).setCell (p := ⟨g, m * 2 + 1, none⟩) (Or.inl rfl) _))
          clear hb2 hc1 hc2 hk2 hy hfz
          go_wp2_with fail
          go_roundw
          case rel => exact ⟨m + 1, k + 1, _, by go_num, by go_num, HJ2.out⟩
          case measure => simp [intOf]; omega
      · obtain rfl : k = n := by omega
        have hmn : m < k := hmk
        have hki : ¬ (k : Int) < (k : Int) := by omega
        have hcl := fun ty => run_clearW wr ty g (m * 2) (k - m) (cap - m) (by omega) (fun j hj => by
          have hq := HJ.out.row
          obtain ⟨y, hy⟩ : ∃ y, (cellsW cur)[m * 2 + j]? = some y := ⟨_, List.getElem?_eq_getElem (by rw [cellsW_len, HCL.out]; omega)⟩
          have := World.ownsRow.cells hq (g := g) rfl _ _ hy
          have ha : (⟨g, 0, none⟩ : Addr).add (m * 2 + j) = ⟨g, m * 2 + j, none⟩ := by unfold Addr.add; split <;> simp_all
          rw [ha] at this
          rw [this]; rfl) (fun j _ => HFR.out _)
        go_wp2_with fail
        go_ret
        have hcutR : RowW wr (.slice (some ⟨g, 0, none⟩) m cap) (off task r) := by
          have h1 := HJ.out.row.cut (i := m) HCL.out.symm (by have := HCL.out; omega)
          rw [HJ.out.fst] at h1
          rw [HN.out, List.take_length] at h1
          exact h1
        have hlen : (cellsW (off task r)).length ≤ m * 2 := by
          rw [cellsW_len]
          have h2 : (off task r).length = m := by
            have h3 := congrArg List.length HJ.out.fst
            rw [List.length_take, HCL.out, Nat.min_eq_left (by omega)] at h3
            rw [h3]
            have h4 : r.take k = r := by rw [HN.out, List.take_length]
            rw [h4]
          omega
        have hnl : (off task r).length = m := by
          obtain ⟨_, _, q, _⟩ := hcutR.slice
          injection q with _ q _
          exact q.symm
        refine ⟨_, rfl, ?_, fun b e => e, (HJ.out.keep.mono fun b _ e => by rw [e]; rfl).trans ((keeps_setCellsG g _ _ _).mono fun b _ e => by rw [e]; rfl)⟩
        unfold RowW at hcutR ⊢
        rw [hnl] at hcutR ⊢
        exact own_setCells _ _ hcutR hlen
end Go.Proofs.YtnjdmijcoadidaaGreatDoor

namespace Go.Proofs.YtnjdmijcoadidaaGreatDoor
open Go.RowKit Go.Maps Pp

theorem keeps_set1 (w : World) (p : Addr) (u : Value) : Keeps (fun b => b = p.block) w (w.setCell p u) := (Keeps.refl (fun b => b = p.block) w).setCell (Or.inl rfl) u
section
variable {w w' : World} {ρ : Nat → Role} {pb : Home} {vch : Value} {ptr : List Nat} {mb : Option Nat} {D : DataW Value} {N M : Nat} {s : St}
/-- Where what a task asked lies. -/
theorem PipesAt.look (h : PipesAt w ρ pb vch ptr mb D N M s) {t : Int} {l : List Tk} (ht : s.asks t = some l) : ∃ b v, mb = some b ∧ ρ b = .asks ∧ (Lit.int .i64 t).wf = true ∧ TalksAt w v l ∧ (∀ g, v.ownBlock = some g → ρ g = .talks t) ∧
    w.ownsMap Tryz.prog 3 heldE b N D ∧ ∀ (W : World) (n : Nat), W.ownsMap Tryz.prog 3 heldE b n D → (Instr.lookup 99 (.map (some b)) (.int .i64 t) false).run Tryz.prog W = .ok v W := by
  obtain ⟨hwf, v, hat, h2, h3⟩ := h.talk t l ht
  cases hb : mb with
  | none =>
    have h4 := h.has t
    rw [h.map0 hb, ht] at h4
    cases h4
  | some b =>
    obtain ⟨h4, h5⟩ := h.map1 b hb
    refine ⟨b, v, rfl, h5, hwf, h2, h3, h4, fun W n hW => ?_⟩
    have hz : (zeroValue 86).run Tryz.prog W = .ok (.slice none 0 0) W := by simp [Tryz.zeroValue86]
    obtain ⟨u, ps, h6, h7⟩ := hW.lookup keyedP Tryz.underlying99 hz (zd := .held (.slice none 0 0)) (zp := []) rfl (keyOf_int_mk Tryz.underlying3 hwf)
    rw [hat, heldE, Option.some.injEq, Prod.mk.injEq, DataW.held.injEq] at h7
    obtain ⟨rfl, _⟩ := h7
    exact h6
/-- Another map in its place. -/
theorem PipesAt.turn (h : PipesAt w ρ pb vch ptr mb D N M s) {b : Nat} (hb : mb = some b) (hk : Keeps (fun k => k = b) w w') {D' : DataW Value} {N' : Nat} (ho : w'.ownsMap Tryz.prog 3 heldE b N' D') {asks' : Int → Option (List Tk)}
    (has' : ∀ t : Int, Maps.has D' (.int .i64 t) = (asks' t).isSome) (ht : ∀ (t : Int) l, asks' t = some l → (Lit.int .i64 t).wf = true ∧ ∃ v, (∀ z, D'.atKey (.int .i64 t) z = .held v) ∧ TalksAt w' v l ∧ ∀ g, v.ownBlock = some g → ρ g = .talks t) :
    PipesAt w' ρ pb vch ptr mb D' N' M ⟨s.chs, asks'⟩ := by
  obtain ⟨h1, h2⟩ := h.map1 b hb
  have hn : ∀ g r, ρ g = r → r ≠ .asks → ¬ g = b := fun g r hr h3 e => by rw [e, h2] at hr; exact h3 hr.symm
  have hpb : ¬ pb.b = b := hn _ _ h.p0 (by simp)
  refine ⟨hk.cell_of h.c0 hpb, hk.cell_of h.c1 hpb, fun j => by rw [hk.frozen (p := ⟨pb.b, j, none⟩) h.lt hpb]; exact h.z j, hk.row h.row fun g hg => hn g _ (h.p1 g hg) (by simp), h.len, h.many, fun k cb c hcb hc => ?_, h.rows,
    fun e => by (rw [hb] at e; cases e), fun b' e => ?_, has', ht, h.p0, h.p1, fun g hg => Nat.lt_of_lt_of_le (h.dom g hg) hk.size, fun j h8 h9 => by rw [hk.cell (p := ⟨pb.b, j, none⟩) h.lt hpb]; exact h.rest j h8 h9⟩
  · obtain ⟨rb, sb, v1, v2, h3⟩ := h.chs k cb c hcb hc
    exact ⟨rb, sb, v1, v2, h3.keeps hk fun g _ hg e => by rw [e, h2] at hg; exact hg⟩
  · rw [hb] at e
    cases e
    exact ⟨ho, h2⟩
theorem lit_neI {a b : Int} (h : a ≠ b) : (Lit.int .i64 a) ≠ .int .i64 b := fun e => h (by injection e)
/-- One task is struck off. -/
theorem PipesAt.del (h : PipesAt w ρ pb vch ptr mb D N M s) {b : Nat} (hb : mb = some b) {task : Int} (hk : Keeps (fun k => k = b) w w') (ho : w'.ownsMap Tryz.prog 3 heldE b N (D.del (.int .i64 task))) :
    PipesAt w' ρ pb vch ptr mb (D.del (.int .i64 task)) N M ⟨s.chs, fun x => if x = task then none else s.asks x⟩ := by
  obtain ⟨_, h2⟩ := h.map1 b hb
  refine h.turn hb hk ho (fun t => ?_) fun t l hl => ?_
  · by_cases e : t = task
    · subst e
      rw [Maps.has_del_same]; simp
    · rw [Maps.has_del_other (lit_neI e), h.has, if_neg e]
  · split at hl
    · cases hl
    · next e =>
      obtain ⟨h3, v, h4, h5, h6⟩ := h.talk t l hl
      exact ⟨h3, v, fun z => by rw [Maps.atKey_del_other (lit_neI e)]; exact h4 z, h5.keeps hk fun g hg e2 => by (have := h6 g hg; rw [e2, h2] at this; cases this), h6⟩
end
section
variable {w w' : World} {ρ : Nat → Role} {k cb rb sb : Nat} {v1 v2 v' : Value} {c : Ch}
/-- What the blocks of a row and of the channel itself are. -/
theorem ChC.sends (h : ChC w ρ k cb rb sb v1 v2 c) (hk : Keeps (fun b => v1.ownBlock = some b) w w') {r : List (Int × Nat)} (hr : RowW w' v' r) (hp : ∀ b, v'.ownBlock = some b → ρ b = .sends k) :
    ChC (w'.setCell ⟨cb, 2, none⟩ v') ρ k cb rb sb v' v2 { c with sends := r } := by
  have hn : ∀ g q, ρ g = q → q ≠ .sends k → ¬ v1.ownBlock = some g := fun g q hq h3 e => h3 (by rw [← hq]; exact h.p3 g e)
  have hcb : ¬ v1.ownBlock = some cb := hn _ _ h.p0 (by simp)
  have hlt : cb < w.heap.size := block_lt_of_cell h.c0
  have hs := keeps_set1 w' ⟨cb, 2, none⟩ v'
  have hm : ∀ g q, ρ g = q → q ≠ .chan k → ¬ g = cb := fun g q hq h3 e => h3 (by rw [← hq, e]; exact h.p0)
  refine ⟨?_, ?_, World.cell?_setCell_same _ _ _ (hk.cell_of h.c2 hcb), ?_, fun j => by rw [World.frozen?_setCell, hk.frozen (p := ⟨cb, j, none⟩) hlt hcb]; exact h.z j, ?_, ?_, hr.keeps hs fun b hb => hm b _ (hp b hb) (by simp), ?_, h.p0, h.p1, h.p2, hp, h.p4⟩
  · rw [cell_set_other (off_ne (by decide) cb)]; exact hk.cell_of h.c0 hcb
  · rw [cell_set_other (off_ne (by decide) cb)]; exact hk.cell_of h.c1 hcb
  · rw [cell_set_other (off_ne (by decide) cb)]; exact hk.cell_of h.c3 hcb
  · exact (h.ring.keeps hk (hn _ _ h.p1 (by simp)) (hn _ _ h.p2 (by simp))).keeps hs (hm _ _ h.p1 (by simp)) (hm _ _ h.p2 (by simp))
  · exact Nat.lt_of_lt_of_le h.lt (Nat.le_trans hk.size hs.size)
  · exact (h.r2.keeps hk fun b hb => hn b _ (h.p4 b hb) (by simp)).keeps hs fun b hb => hm b _ (h.p4 b hb) (by simp)
theorem ChC.recvs (h : ChC w ρ k cb rb sb v1 v2 c) (hk : Keeps (fun b => v2.ownBlock = some b) w w') {r : List (Int × Nat)} (hr : RowW w' v' r) (hp : ∀ b, v'.ownBlock = some b → ρ b = .recvs k) :
    ChC (w'.setCell ⟨cb, 3, none⟩ v') ρ k cb rb sb v1 v' { c with recvs := r } := by
  have hn : ∀ g q, ρ g = q → q ≠ .recvs k → ¬ v2.ownBlock = some g := fun g q hq h3 e => h3 (by rw [← hq]; exact h.p4 g e)
  have hcb : ¬ v2.ownBlock = some cb := hn _ _ h.p0 (by simp)
  have hlt : cb < w.heap.size := block_lt_of_cell h.c0
  have hs := keeps_set1 w' ⟨cb, 3, none⟩ v'
  have hm : ∀ g q, ρ g = q → q ≠ .chan k → ¬ g = cb := fun g q hq h3 e => h3 (by rw [← hq, e]; exact h.p0)
  refine ⟨?_, ?_, ?_, World.cell?_setCell_same _ _ _ (hk.cell_of h.c3 hcb), fun j => by rw [World.frozen?_setCell, hk.frozen (p := ⟨cb, j, none⟩) hlt hcb]; exact h.z j, ?_, ?_, ?_, hr.keeps hs fun b hb => hm b _ (hp b hb) (by simp), h.p0, h.p1, h.p2, h.p3, hp⟩
  · rw [cell_set_other (off_ne (by decide) cb)]; exact hk.cell_of h.c0 hcb
  · rw [cell_set_other (off_ne (by decide) cb)]; exact hk.cell_of h.c1 hcb
  · rw [cell_set_other (off_ne (by decide) cb)]; exact hk.cell_of h.c2 hcb
  · exact (h.ring.keeps hk (hn _ _ h.p1 (by simp)) (hn _ _ h.p2 (by simp))).keeps hs (hm _ _ h.p1 (by simp)) (hm _ _ h.p2 (by simp))
  · exact Nat.lt_of_lt_of_le h.lt (Nat.le_trans hk.size hs.size)
  · exact (h.r1.keeps hk fun b hb => hn b _ (h.p3 b hb) (by simp)).keeps hs fun b hb => hm b _ (h.p3 b hb) (by simp)
end
end Go.Proofs.YtnjdmijcoadidaaGreatDoor

namespace Go.Proofs.YtnjdmijcoadidaaGreatDoor
open Go.RowKit Go.Maps Pp

theorem TalksAt.slice {w : World} {v : Value} {l : List Tk} (h : TalksAt w v l) : ∃ ao cap, v = .slice ao l.length cap ∧ l.length ≤ cap ∧ cap ≤ maxLen := by
  obtain ⟨ao, n, cap, rfl, rfl, h1, h2, _⟩ := h
  exact ⟨_, _, rfl, h1, h2⟩
/-- The cells of one that is told. -/
theorem TalksAt.at {w : World} {ao : Option Addr} {n cap : Nat} {l : List Tk} (h : TalksAt w (.slice ao n cap) l) {i : Nat} {x : Tk} (hx : l[i]? = some x) : ∃ b o, ao = some ⟨b, o, none⟩ ∧ b < w.heap.size ∧
    w.cell? ⟨b, o + i * 3, none⟩ = some (.int .i64 x.what) ∧ w.cell? ⟨b, o + i * 3 + 1, none⟩ = some (.int .i64 x.chan) ∧ w.cell? ⟨b, o + i * 3 + 2, none⟩ = some (.int .i64 x.n) := by
  obtain ⟨ao', n', cap', hv, hn, _, _, h3⟩ := h
  have hi := (List.getElem?_eq_some_iff.1 hx).1
  injection hv with hv1 hv2 _
  obtain ⟨b, o, h4, h5, h6⟩ := h3 (by omega)
  obtain ⟨h7, h8, h9⟩ := h6 i x hx
  exact ⟨b, o, by rw [hv1]; exact h4, h5, h7, h8, h9⟩
theorem strike_succ {task : Int} {l : List Tk} {i : Nat} {x : Tk} (hx : l[i]? = some x) (chs : List Ch) : strike task (l.take (i + 1)) chs = strikeAt task (strike task (l.take i) chs) x := by
  have hi := (List.getElem?_eq_some_iff.1 hx).1
  unfold strike
  rw [List.take_succ_eq_append_getElem hi, List.foldl_append, (List.getElem?_eq_some_iff.1 hx).2]; rfl
theorem strikeAt_zero {task : Int} {chs : List Ch} {x : Tk} (h : x.chan = 0) : strikeAt task chs x = chs := by unfold strikeAt; rw [if_pos h]
theorem modify_set {α : Type} {l : List α} {k : Nat} {c : α} (f : α → α) (hc : l[k]? = some c) : l.modify k f = l.set k (f c) := by
  have hk := (List.getElem?_eq_some_iff.1 hc).1
  apply List.ext_getElem?
  intro j
  rw [List.getElem?_modify, List.getElem?_set]
  by_cases e : k = j
  · subst e; simp [hk, (List.getElem?_eq_some_iff.1 hc).2]
  · simp [e]
theorem strikeAt_set {task : Int} {chs : List Ch} {x : Tk} {k : Nat} {c : Ch} (h : x.chan = (k : Int) + 1) (hc : chs[k]? = some c) : strikeAt task chs x = chs.set k (c.strike task x.what) := by
  unfold strikeAt
  rw [if_neg (by omega), show (x.chan - 1).toNat = k by omega, modify_set _ hc]
theorem off_len (task : Int) (r : List (Int × Nat)) : (off task r).length ≤ r.length := List.length_filter_le _ _

/-- The blocks of the channels' own. -/
def OfCh (ρ : Nat → Role) (b : Nat) : Prop := ∃ k, (ρ b).of k
/-- So many of a task's talks are struck off. -/
structure WakeJ (w wr : World) (ρ : Nat → Role) (pb : Home) (vch : Value) (ptr : List Nat) (mb : Option Nat) (D : DataW Value) (N M : Nat) (s : St) (task : Int) (l : List Tk) (i : Nat) : Prop where
  at_ : PipesAt wr ρ pb vch ptr mb D N M ⟨strike task (l.take i) s.chs, s.asks⟩
  keep : Keeps (OfCh ρ) w wr
theorem of_not_free {r : Role} {k : Nat} (h : r.of k) : r ≠ .free := fun e => by rw [e] at h; exact h

set_option maxRecDepth 100000 in
set_option maxHeartbeats 12800000 in
theorem wake_any {w : World} {ρ : Nat → Role} {pb : Home} {vch : Value} {ptr : List Nat} {mb : Option Nat} {D : DataW Value} {N M : Nat} {s : St} (h : PipesAt w ρ pb vch ptr mb D N M s) (hM : M ≤ 1000000) (task : Int) (k : Nat) (n : Int) {l : List Tk} (hl : s.asks task = some l)
    (hg : ∀ x ∈ l, x.good s.chs.length) (h6 : l.length ≤ 6) :
    Calls Tryz.prog 142 #[.pointer (some ⟨pb.b, 8, none⟩), .agg #[.int .i64 task, .int .i64 (k : Nat)], .int .i64 n] w fun e w' => e = .returned (.agg #[.int .i64 task, .int .i64 (k : Nat), .int .i64 n]) ∧
      (∃ D', PipesAt w' ρ pb vch ptr mb D' N M (wake s task)) ∧ Keeps (fun b => ρ b ≠ .free) w w' := by
  rw [wake_some hl]
  obtain ⟨b, v, rfl, hb, hwf, htk, hvo, hown, hlook⟩ := h.look hl
  obtain ⟨ao, cap, rfl, hc1, hc2⟩ := htk.slice
  have hk2 : Keeps (fun _ => False) w ((w.alloc (.cells #[.int .i64 task, .int .i64 (k : Int)] 135)).alloc (.cells #[.int .i64 0, .int .i64 0, .int .i64 0] 162)) := ((Keeps.refl _ w).alloc _).alloc _
  have H2 := Lib.hid (h.keeps hk2 fun _ _ e => e.elim)
  have HT2 := Lib.hid (htk.keeps hk2 fun _ _ e => e)
  have b0 : ((w.alloc (.cells #[.int .i64 task, .int .i64 (k : Int)] 135)).alloc (.cells #[.int .i64 0, .int .i64 0, .int .i64 0] 162)).cell? ⟨w.heap.size, 0, none⟩ = some (.int .i64 task) := by
    rw [World.cell?_alloc_past _ _ _ (by simp), World.cell?_alloc_at _ _ _ _ rfl]; rfl
  have b1 : ((w.alloc (.cells #[.int .i64 task, .int .i64 (k : Int)] 135)).alloc (.cells #[.int .i64 0, .int .i64 0, .int .i64 0] 162)).cell? ⟨w.heap.size, 1, none⟩ = some (.int .i64 (k : Int)) := by
    rw [World.cell?_alloc_past _ _ _ (by simp), World.cell?_alloc_at _ _ _ _ rfl]; rfl
  have HO2 := Lib.hid (hk2.map hown id)
  have HLK := Lib.hid hlook
  have hs2 : ((w.alloc (.cells #[.int .i64 task, .int .i64 (k : Int)] 135)).alloc (.cells #[.int .i64 0, .int .i64 0, .int .i64 0] 162)).heap.size = w.heap.size + 2 := by simp
  have HR0 : Hid (∀ j, j < 3 → ((w.alloc (.cells #[.int .i64 task, .int .i64 (k : Int)] 135)).alloc (.cells #[.int .i64 0, .int .i64 0, .int .i64 0] 162)).cell? ⟨w.heap.size + 1, j, none⟩ = some (.int .i64 0) ∧ ((w.alloc (.cells #[.int .i64 task, .int .i64 (k : Int)] 135)).alloc (.cells #[.int .i64 0, .int .i64 0, .int .i64 0] 162)).frozen? ⟨w.heap.size + 1, j, none⟩ = false) := Lib.hid fun j hj => ⟨by rw [World.cell?_alloc_at _ _ _ _ (by simp)]; rcases j with _ | _ | _ | j <;> first | rfl | omega, by rw [World.frozen?_alloc_at _ _ _ _ (by simp)]⟩
  have HDM := Lib.hid h.dom
  have HK2 := Lib.hid hk2
  have HVO := Lib.hid hvo
  have HB := Lib.hid hb
  have HWF := Lib.hid hwf
  have HG := Lib.hid hg
  have HL := Lib.hid hl
  clear hlook h htk hk2 hown hvo hb hwf hg hl
  go_enter Tryz.func142, Tryz.ntmps142
  go_wp2_with fail
  generalize (w.alloc (.cells #[.int .i64 task, .int .i64 (k : Int)] 135)).alloc (.cells #[.int .i64 0, .int .i64 0, .int .i64 0] 162) = w2 at *
  have p1 := H2.out.c1
  have hlk : ∀ z, (Instr.lookup 99 (.map (some b)) (.int .i64 task) false).run Tryz.prog (w2.drewN z) = .ok (.slice ao l.length cap) (w2.drewN z) := fun z => HLK.out _ _ ((keeps_drewN (Keeps.refl (fun _ => False) w2) z).map HO2.out id)
  go_quiet (fail)
  clear hlk
  go_upto_region 2 with fail
  have H3 : Hid (PipesAt (w2.drewN nq) ρ pb vch ptr (some b) D N M s) := Lib.hid (H2.out.keeps (keeps_drewN (Keeps.refl (fun _ => False) w2) nq) fun _ _ e => e.elim)
  have HT3 : Hid (TalksAt (w2.drewN nq) (.slice ao l.length cap) l) := Lib.hid (HT2.out.keeps (keeps_drewN (Keeps.refl (fun _ => False) w2) nq) fun _ _ e => e)
  have HO3 : Hid ((w2.drewN nq).ownsMap Tryz.prog 3 heldE b N D) := Lib.hid ((keeps_drewN (Keeps.refl (fun _ => False) w2) nq).map HO2.out id)
  have HK3 : Hid (Keeps (fun _ => False) w (w2.drewN nq)) := Lib.hid (keeps_drewN HK2.out nq)
  have hs3 : (w2.drewN nq).heap.size = w.heap.size + 2 := hs2
  have q0 : (w2.drewN nq).cell? ⟨w.heap.size, 0, none⟩ = some (.int .i64 task) := b0
  have q1 : (w2.drewN nq).cell? ⟨w.heap.size, 1, none⟩ = some (.int .i64 (k : Int)) := b1
  have q2 : (w2.drewN nq).cell? ⟨pb.b, 9, none⟩ = some (.map (some b)) := p1
  have HR3 : Hid (∀ j, j < 3 → (w2.drewN nq).cell? ⟨w.heap.size + 1, j, none⟩ = some (.int .i64 0) ∧ (w2.drewN nq).frozen? ⟨w.heap.size + 1, j, none⟩ = false) := HR0
  clear H2 HT2 HO2 HK2 hs2 b0 b1 p1 HR0
  generalize w2.drewN nq = w3 at *
  go_still_tail 6, (by kernel_rfl)
  change wpList _ _ _ _ _ w3.drew
  have HO4 : Hid (w3.drew.ownsMap Tryz.prog 3 heldE b N D) := Lib.hid HO3.out.drew
  go_wp2_with (at_delete; refine wpList_delete_own _ rfl _ _ 99 3 rfl 86 keyedP Tryz.underlying99 _ b N D rfl HO4.out _ _ rfl (keyOf_int_mk Tryz.underlying3 HWF.out) ?_; intro w5 hown5 hturn5; have HD5 := Lib.hid hown5; have HU5 := Lib.hid hturn5; clear hown5 hturn5)
  have hk35 : Keeps (fun g => g = b) w3 w5 := by
    have h1 := HU5.out.grown
    exact ⟨h1.os, h1.tape, h1.output, h1.size, fun g hg hn => h1.block g hg (fun e => hn (by cases e; rfl))⟩
  have HDOM : Hid (∀ g, ρ g ≠ .free → g < w.heap.size) := Lib.hid HDM.out
  have hbl : b < w.heap.size := HDOM.out b (by rw [HB.out]; simp)
  have HP5 : Hid (PipesAt w5 ρ pb vch ptr (some b) (D.del (.int .i64 task)) N M ⟨s.chs, fun x => if x = task then none else s.asks x⟩) := Lib.hid (H3.out.del rfl hk35 HD5.out)
  have HT5 : Hid (TalksAt w5 (.slice ao l.length cap) l) := Lib.hid (HT3.out.keeps hk35 fun g hg e => by (have := HVO.out g hg; rw [e, HB.out] at this; cases this))
  have HK5 : Hid (Keeps (fun g => g = b) w w5) := Lib.hid ((HK3.out.mono fun _ _ e => e.elim).trans hk35)
  have HQ0 : Hid (w5.cell? ⟨w.heap.size, 0, none⟩ = some (.int .i64 task)) := Lib.hid (hk35.cell_of q0 (by simp; omega))
  have HQ1 : Hid (w5.cell? ⟨w.heap.size, 1, none⟩ = some (.int .i64 (k : Int))) := Lib.hid (hk35.cell_of q1 (by simp; omega))
  have HZ : Hid (w.heap.size + 2 ≤ w5.heap.size) := Lib.hid (by have := hk35.size; omega)
  have HRC : Hid (∀ j, j < 3 → w5.cell? ⟨w.heap.size + 1, j, none⟩ = some (.int .i64 0) ∧ w5.frozen? ⟨w.heap.size + 1, j, none⟩ = false) := Lib.hid fun j hj => by
    obtain ⟨h1, h2⟩ := HR3.out j hj
    exact ⟨hk35.cell_of h1 (by simp; omega), by rw [hk35.frozen (p := ⟨w.heap.size + 1, j, none⟩) (by show w.heap.size + 1 < w3.heap.size; omega) (by simp; omega)]; exact h2⟩
  clear hk35 q0 q1 q2
  have HJ0 : Hid (WakeJ w5 w5 ρ pb vch ptr (some b) (D.del (.int .i64 task)) N M ⟨s.chs, fun x => if x = task then none else s.asks x⟩ task l 0) := Lib.hid ⟨HP5.out, Keeps.refl _ _⟩
  go_loopw [27] (fun t wr => ∃ i : Nat, i ≤ l.length ∧ t = .int .i64 i ∧ WakeJ w5 wr ρ pb vch ptr (some b) (D.del (.int .i64 task)) N M ⟨s.chs, fun x => if x = task then none else s.asks x⟩ task l i) (fun t _ => l.length - (intOf t).toNat)
  case atStart => exact ⟨0, Nat.zero_le _, rfl, HJ0.out⟩
  case round =>
    obtain ⟨i, hi, rfl, hJ⟩ := hrel
    have HJ := Lib.hid hJ
    clear hJ HJ0
    by_cases hil : i < l.length
    · obtain ⟨x, hx⟩ : ∃ x, l[i]? = some x := ⟨_, List.getElem?_eq_getElem hil⟩
      have HX := Lib.hid hx
      have HGX := Lib.hid (HG.out x (List.mem_of_getElem? hx))
      have htr : TalksAt wr (.slice ao l.length cap) l := HT5.out.keeps HJ.out.keep fun g hg ⟨j, e⟩ => by rw [HVO.out g hg] at e; exact e
      obtain ⟨tb, o, rfl, htb, c1, c2, c3⟩ := htr.at hx
      have hii : (0 : Int) ≤ (i : Int) ∧ (i : Int) < (l.length : Int) := by omega
      obtain ⟨xw, xc, xn⟩ := x
      simp only at c1 c2 c3
      have hka : Keeps (fun _ => False) wr (wr.alloc (.cells #[.int .i64 xw, .int .i64 xc, .int .i64 xn] 132)) := (Keeps.refl _ wr).alloc _
      have HP6 := Lib.hid (HJ.out.at_.keeps hka fun _ _ e => e.elim)
      have HKA := Lib.hid hka
      have hm6 : may (strike task (l.take i) s.chs).length xc = true := by
        rw [strike_len]
        unfold may
        obtain ⟨h1, _⟩ := HGX.out
        simp only at h1
        simp [h1.1, h1.2]
      have HM6 := Lib.hid hm6
      have HC6 := Lib.hid (HP6.out.chan hm6)
      clear hka hm6 hx htr
      rcases HC6.out with ⟨h0, hn0, _⟩ | ⟨kc, cb, rb, sb, v1, v2, c, hxc, hcg, hcp, hcp2, _, hch⟩
      · have HN0 := Lib.hid hn0
        have HS0 : Hid (strike task (l.take (i + 1)) s.chs = strike task (l.take i) s.chs) := Lib.hid ((strike_succ HX.out s.chs).trans (strikeAt_zero h0))
        clear hn0 h0
        go_wp2_with fail
        refine (channel_any HP6.out xc HM6.out).mono ?_
        rintro e w6 ⟨rfl, rfl⟩
        rw [HN0.out]
        go_wp2_with fail
        go_roundw
        case rel =>
          refine ⟨i + 1, by omega, by go_num, ?_, HJ.out.keep.trans (HKA.out.mono fun _ _ e => e.elim)⟩
          have := HP6.out
          simp only at this ⊢
          rw [HS0.out]; exact this
        case measure => simp [intOf]; omega
      · have HCH := Lib.hid hch
        have HCP := Lib.hid hcp2
        have HXC := Lib.hid hxc
        have HCG := Lib.hid hcg
        have HCB := Lib.hid hcp
        obtain ⟨a1, k1, hv1, _, _⟩ := hch.r1.slice
        obtain ⟨a2, k2, hv2, _, _⟩ := hch.r2.slice
        subst hv1
        subst hv2
        have c2' := hch.c2
        have c3' := hch.c3
        have z2 := hch.z 2
        have z3 := hch.z 3
        have HROWS := Lib.hid (HP6.out.rows kc c hcg)
        clear hch hcp2 hxc hcg hcp HC6
        by_cases h3 : xw = 3
        · subst h3
          have hrow := row_any (wr.alloc (.cells #[.int .i64 3, .int .i64 xc, .int .i64 xn] 132)) cb 3
          rw [if_pos rfl] at hrow
          have HROW := Lib.hid hrow
          have hq6 : (wr.alloc (.cells #[.int .i64 3, .int .i64 xc, .int .i64 xn] 132)).cell? ⟨w.heap.size, 0, none⟩ = some (.int .i64 task) := HKA.out.cell_of (HJ.out.keep.cell_of HQ0.out (fun ⟨j, e⟩ => by
            have := HDOM.out w.heap.size (of_not_free e)
            omega)) id
          have HDEL := Lib.hid (deleteW_any _ _ _ HCH.out.r1 (by have := HROWS.out.1; omega) task w.heap.size hq6 (fun g hg e => by
            have h1 := HCH.out.p3 g hg
            have := HDOM.out g (by rw [h1]; simp)
            omega))
          clear hrow hq6
          go_wp2_with fail
          refine (channel_any HP6.out xc HM6.out).mono ?_
          rintro e w6 ⟨rfl, rfl⟩
          rw [HCP.out]
          go_wp2_with fail
          refine HROW.out.mono ?_
          rintro e w6 ⟨rfl, rfl⟩
          go_wp2_with fail
          refine HDEL.out.mono ?_
          rintro e w7 ⟨v', rfl, hr7, hvb7, hk7⟩
          obtain ⟨a3, k3, hv3, -, -⟩ := hr7.slice
          subst hv3
          have hcb : ¬ (Value.slice a1 c.sends.length k1).ownBlock = some cb := fun e => by
            have h1 := HCH.out.p3 cb e
            rw [HCH.out.p0] at h1
            cases h1
          have hclt : cb < (wr.alloc (.cells #[.int .i64 3, .int .i64 xc, .int .i64 xn] 132)).heap.size := block_lt_of_cell HCH.out.c0
          have y2 : w7.cell? ⟨cb, 2, none⟩ = some (Value.slice a1 c.sends.length k1) := hk7.cell_of c2' hcb
          have y3 : w7.frozen? ⟨cb, 2, none⟩ = false := by rw [hk7.frozen (p := ⟨cb, 2, none⟩) hclt hcb]; exact z2
          have HC7 := Lib.hid (HCH.out.sends hk7 hr7 (fun g e => HCH.out.p3 g (hvb7 g e)))
          have HK7 : Hid (Keeps (fun g => (Value.slice a1 c.sends.length k1).ownBlock = some g ∨ g = cb) (wr.alloc (.cells #[.int .i64 3, .int .i64 xc, .int .i64 xn] 132)) (w7.setCell ⟨cb, 2, none⟩ (.slice a3 (off task c.sends).length k3))) := Lib.hid ((hk7.mono (S' := fun g => (Value.slice a1 c.sends.length k1).ownBlock = some g ∨ g = cb) fun _ _ e => Or.inl e).setCell (p := ⟨cb, 2, none⟩) (Or.inl (Or.inr rfl)) _)
          have HST : Hid (strike task (l.take (i + 1)) s.chs = (strike task (l.take i) s.chs).set kc (c.strike task 3)) := Lib.hid ((strike_succ HX.out s.chs).trans (strikeAt_set HXC.out HCG.out))
          have HJ7 : Hid (WakeJ w5 (w7.setCell ⟨cb, 2, none⟩ (.slice a3 (off task c.sends).length k3)) ρ pb vch ptr (some b) (D.del (.int .i64 task)) N M ⟨s.chs, fun x => if x = task then none else s.asks x⟩ task l (i + 1)) := Lib.hid (by
            refine ⟨?_, HJ.out.keep.trans' ((HKA.out.mono (S' := fun g => (Value.slice a1 c.sends.length k1).ownBlock = some g ∨ g = cb) fun _ _ e => e.elim).trans HK7.out) fun g hg e => ?_⟩
            · have h1 := HP6.out.put (M' := M) HK7.out (fun _ _ => rfl) (fun g hg => Nat.lt_of_lt_of_le (HP6.out.dom g hg) HK7.out.size) kc (c' := c.strike task 3) (fun g e => Or.inr (by
                rcases e with e | e
                · rw [HCH.out.p3 g e]; rfl
                · rw [e, HCH.out.p0]; rfl)) (fun cb' hcb' => by
                  rw [HCB.out] at hcb'
                  cases hcb'
                  have h9 := HC7.out
                  have h8 : Ch.strike task 3 c = { c with sends := off task c.sends } := by unfold Ch.strike; rw [if_pos rfl]
                  rw [h8]
                  exact ⟨_, _, _, _, h9⟩) (by
                  have h8 : Ch.strike task 3 c = { c with sends := off task c.sends } := by unfold Ch.strike; rw [if_pos rfl]
                  rw [h8]
                  have h7 := off_len task c.sends
                  have h6 := HROWS.out
                  exact ⟨by simp only; omega, by simp only; omega⟩) (Nat.le_refl _)
              simp only at h1 ⊢
              rw [HST.out]; exact h1
            · rcases e with e | e
              · exact ⟨kc, by rw [HCH.out.p3 g e]; rfl⟩
              · exact ⟨kc, by rw [e, HCH.out.p0]; rfl⟩)
          clear hr7 hvb7 hk7 hcb hclt c2' c3' z2 z3 c1 c2 c3
          go_wp2_with fail
          go_roundw
          case rel => exact ⟨i + 1, by omega, by go_num, HJ7.out⟩
          case measure => simp [intOf]; omega
        · have e3 : (xw == 3) = false := by rw [beq_eq_false_iff_ne]; exact h3
          have hrow := row_any (wr.alloc (.cells #[.int .i64 xw, .int .i64 xc, .int .i64 xn] 132)) cb xw
          rw [if_neg h3] at hrow
          have HROW := Lib.hid hrow
          have hq6 : (wr.alloc (.cells #[.int .i64 xw, .int .i64 xc, .int .i64 xn] 132)).cell? ⟨w.heap.size, 0, none⟩ = some (.int .i64 task) := HKA.out.cell_of (HJ.out.keep.cell_of HQ0.out (fun ⟨j, e⟩ => by
            have := HDOM.out w.heap.size (of_not_free e)
            omega)) id
          have HDEL := Lib.hid (deleteW_any _ _ _ HCH.out.r2 (by have := HROWS.out.2; omega) task w.heap.size hq6 (fun g hg e => by
            have h1 := HCH.out.p4 g hg
            have := HDOM.out g (by rw [h1]; simp)
            omega))
          clear hrow hq6
          go_wp2_with fail
          refine (channel_any HP6.out xc HM6.out).mono ?_
          rintro e w6 ⟨rfl, rfl⟩
          rw [HCP.out]
          go_wp2_with fail
          refine HROW.out.mono ?_
          rintro e w6 ⟨rfl, rfl⟩
          go_wp2_with fail
          refine HDEL.out.mono ?_
          rintro e w7 ⟨v', rfl, hr7, hvb7, hk7⟩
          obtain ⟨a3, k3, hv3, -, -⟩ := hr7.slice
          subst hv3
          have hcb : ¬ (Value.slice a2 c.recvs.length k2).ownBlock = some cb := fun e => by
            have h1 := HCH.out.p4 cb e
            rw [HCH.out.p0] at h1
            cases h1
          have hclt : cb < (wr.alloc (.cells #[.int .i64 xw, .int .i64 xc, .int .i64 xn] 132)).heap.size := block_lt_of_cell HCH.out.c0
          have y2 : w7.cell? ⟨cb, 3, none⟩ = some (Value.slice a2 c.recvs.length k2) := hk7.cell_of c3' hcb
          have y3 : w7.frozen? ⟨cb, 3, none⟩ = false := by rw [hk7.frozen (p := ⟨cb, 3, none⟩) hclt hcb]; exact z3
          have HC7 := Lib.hid (HCH.out.recvs hk7 hr7 (fun g e => HCH.out.p4 g (hvb7 g e)))
          have HK7 : Hid (Keeps (fun g => (Value.slice a2 c.recvs.length k2).ownBlock = some g ∨ g = cb) (wr.alloc (.cells #[.int .i64 xw, .int .i64 xc, .int .i64 xn] 132)) (w7.setCell ⟨cb, 3, none⟩ (.slice a3 (off task c.recvs).length k3))) := Lib.hid ((hk7.mono (S' := fun g => (Value.slice a2 c.recvs.length k2).ownBlock = some g ∨ g = cb) fun _ _ e => Or.inl e).setCell (p := ⟨cb, 3, none⟩) (Or.inl (Or.inr rfl)) _)
          have HST : Hid (strike task (l.take (i + 1)) s.chs = (strike task (l.take i) s.chs).set kc (c.strike task xw)) := Lib.hid ((strike_succ HX.out s.chs).trans (strikeAt_set HXC.out HCG.out))
          have HJ7 : Hid (WakeJ w5 (w7.setCell ⟨cb, 3, none⟩ (.slice a3 (off task c.recvs).length k3)) ρ pb vch ptr (some b) (D.del (.int .i64 task)) N M ⟨s.chs, fun x => if x = task then none else s.asks x⟩ task l (i + 1)) := Lib.hid (by
            refine ⟨?_, HJ.out.keep.trans' ((HKA.out.mono (S' := fun g => (Value.slice a2 c.recvs.length k2).ownBlock = some g ∨ g = cb) fun _ _ e => e.elim).trans HK7.out) fun g hg e => ?_⟩
            · have h1 := HP6.out.put (M' := M) HK7.out (fun _ _ => rfl) (fun g hg => Nat.lt_of_lt_of_le (HP6.out.dom g hg) HK7.out.size) kc (c' := c.strike task xw) (fun g e => Or.inr (by
                rcases e with e | e
                · rw [HCH.out.p4 g e]; rfl
                · rw [e, HCH.out.p0]; rfl)) (fun cb' hcb' => by
                  rw [HCB.out] at hcb'
                  cases hcb'
                  have h9 := HC7.out
                  have h8 : Ch.strike task xw c = { c with recvs := off task c.recvs } := by unfold Ch.strike; rw [if_neg h3]
                  rw [h8]
                  exact ⟨_, _, _, _, h9⟩) (by
                  have h8 : Ch.strike task xw c = { c with recvs := off task c.recvs } := by unfold Ch.strike; rw [if_neg h3]
                  rw [h8]
                  have h7 := off_len task c.recvs
                  have h6 := HROWS.out
                  exact ⟨by simp only; omega, by simp only; omega⟩) (Nat.le_refl _)
              simp only at h1 ⊢
              rw [HST.out]; exact h1
            · rcases e with e | e
              · exact ⟨kc, by rw [HCH.out.p4 g e]; rfl⟩
              · exact ⟨kc, by rw [e, HCH.out.p0]; rfl⟩)
          clear hr7 hvb7 hk7 hcb hclt c2' c3' z2 z3 c1 c2 c3
          go_wp2_with fail
          go_roundw
          case rel => exact ⟨i + 1, by omega, by go_num, HJ7.out⟩
          case measure => simp [intOf]; omega
    · obtain rfl : i = l.length := by omega
      have hoc : ∀ g, w.heap.size ≤ g → ¬ OfCh ρ g := fun g hg ⟨j, e⟩ => by
        have := HDOM.out g (of_not_free e)
        omega
      have q0 : wr.cell? ⟨w.heap.size, 0, none⟩ = some (.int .i64 task) := HJ.out.keep.cell_of HQ0.out (hoc _ (Nat.le_refl _))
      have q1 : wr.cell? ⟨w.heap.size, 1, none⟩ = some (.int .i64 (k : Int)) := HJ.out.keep.cell_of HQ1.out (hoc _ (Nat.le_refl _))
      have hrl : w.heap.size + 1 < w5.heap.size := by have := HZ.out; omega
      have r0 := HJ.out.keep.cell_of (HRC.out 0 (by decide)).1 (hoc (w.heap.size + 1) (by omega))
      have r1 := HJ.out.keep.cell_of (HRC.out 1 (by decide)).1 (hoc (w.heap.size + 1) (by omega))
      have r2 := HJ.out.keep.cell_of (HRC.out 2 (by decide)).1 (hoc (w.heap.size + 1) (by omega))
      have f0 : wr.frozen? ⟨w.heap.size + 1, 0, none⟩ = false := by rw [HJ.out.keep.frozen (p := ⟨w.heap.size + 1, 0, none⟩) hrl (hoc (w.heap.size + 1) (by omega))]; exact (HRC.out 0 (by decide)).2
      have f1 : wr.frozen? ⟨w.heap.size + 1, 1, none⟩ = false := by rw [HJ.out.keep.frozen (p := ⟨w.heap.size + 1, 1, none⟩) hrl (hoc (w.heap.size + 1) (by omega))]; exact (HRC.out 1 (by decide)).2
      have f2 : wr.frozen? ⟨w.heap.size + 1, 2, none⟩ = false := by rw [HJ.out.keep.frozen (p := ⟨w.heap.size + 1, 2, none⟩) hrl (hoc (w.heap.size + 1) (by omega))]; exact (HRC.out 2 (by decide)).2
      have HOC := Lib.hid hoc
      clear hoc hrl
      go_wp2_with fail
      obtain ⟨w9, hw9⟩ : ∃ w9, w9 = ((wr.setCell ⟨w.heap.size + 1, 0, none⟩ (.int .i64 task)).setCell ⟨w.heap.size + 1, 1, none⟩ (.int .i64 (k : Int))).setCell ⟨w.heap.size + 1, 2, none⟩ (.int .i64 n) := ⟨_, rfl⟩
      have e0 : w9.cell? ⟨w.heap.size + 1, 0, none⟩ = some (.int .i64 task) := by
        rw [hw9, cell_set_other (off_ne (by decide) _), cell_set_other (off_ne (by decide) _)]; exact cell_set_same r0
      have e1 : w9.cell? ⟨w.heap.size + 1, 1, none⟩ = some (.int .i64 (k : Int)) := by
        rw [hw9, cell_set_other (off_ne (by decide) _)]
        exact cell_set_same (u := .int .i64 0) (by rw [cell_set_other (off_ne (by decide) _)]; exact r1)
      have e2 : w9.cell? ⟨w.heap.size + 1, 2, none⟩ = some (.int .i64 n) := by
        rw [hw9]
        exact cell_set_same (u := .int .i64 0) (by rw [cell_set_other (off_ne (by decide) _), cell_set_other (off_ne (by decide) _)]; exact r2)
      have HK9 : Hid (Keeps (fun g => g = w.heap.size + 1) wr w9) := Lib.hid (by
        rw [hw9]
        exact (((Keeps.refl (fun g => g = w.heap.size + 1) wr).setCell (p := ⟨w.heap.size + 1, 0, none⟩) (Or.inl rfl) _).setCell (p := ⟨w.heap.size + 1, 1, none⟩) (Or.inl rfl) _).setCell (p := ⟨w.heap.size + 1, 2, none⟩) (Or.inl rfl) _)
      rw [← hw9]
      clear hw9 q0 q1 r0 r1 r2 f0 f1 f2
      refine bodyPost_ret (v := .agg #[.int .i64 task, .int .i64 (k : Int), .int .i64 n]) (by simp [results, Tryz.results142, go_sem, e0, e1, e2] <;> rfl) rfl ?_
      refine ⟨rfl, ⟨D.del (.int .i64 task), ?_⟩, ?_⟩
      · have h1 := HJ.out.at_.keeps HK9.out (fun g hg e => by
          rcases Classical.em (ρ g = .free) with h2 | h2
          · exact h2
          · have := HDOM.out g h2; omega)
        rw [List.take_length] at h1
        exact h1
      · exact ((HK5.out.mono (S' := fun g => ρ g ≠ .free) fun g _ e => by rw [e, HB.out]; simp).trans' HJ.out.keep fun g _ ⟨j, e⟩ => of_not_free e).trans' HK9.out fun g hg e => by omega
end Go.Proofs.YtnjdmijcoadidaaGreatDoor

namespace Go.Proofs.YtnjdmijcoadidaaGreatDoor
open Go.RowKit Go.Maps Pp

def cellsK (l : List Wk) : List Value := l.flatMap fun x => [.int .i64 x.task, .int .i64 (x.case : Int), .int .i64 x.n]
/-- What comes of a send or of a receive. -/
structure GotAt (w w' : World) (ρ : Nat → Role) (pb : Home) (vch : Value) (ptr : List Nat) (mb : Option Nat) (N M : Nat) (g : Got) (vw : Value) : Prop where
  at_ : ∃ D', PipesAt w' ρ pb vch ptr mb D' N M g.st
  wk : w'.ownsRow w.heap.size 162 3 vw g.wakes.length (cellsK g.wakes)
  keep : Keeps (fun b => ρ b ≠ .free) w w'
/-- A row of one, just made. -/
theorem own_one (w : World) {B : Nat} (hB : B ≤ w.heap.size) (x : Wk) : (w.alloc (.cells #[.int .i64 x.task, .int .i64 (x.case : Int), .int .i64 x.n] 162)).ownsRow B 162 3 (.slice (some ⟨w.heap.size, 0, none⟩) 1 1) [x].length (cellsK [x]) :=
  ⟨rfl, Or.inr ⟨w.heap.size, 1, #[.int .i64 x.task, .int .i64 (x.case : Int), .int .i64 x.n], rfl, hB, by show (w.heap.push _)[w.heap.size]? = _; simp, Nat.le_refl _, by unfold maxLen; decide, rfl, rfl⟩⟩
section
variable {w w' : World} {ρ : Nat → Role} {k cb rb sb : Nat} {v1 v2 : Value} {c : Ch}
/-- A channel of other numbers. -/
theorem ChC.nums (h : ChC w ρ k cb rb sb v1 v2 c) (hk : Keeps (Two rb sb) w w') {nums : List Int} (hr : RingL eI w' rb sb c.size nums) : ChC w' ρ k cb rb sb v1 v2 { c with nums := nums } := by
  have hn : ∀ g q, ρ g = q → q ≠ .ring k → q ≠ .slots k → ¬ Two rb sb g := fun g q hq h1 h2 e => by
    rcases e with rfl | rfl
    · exact h1 (by rw [← hq]; exact h.p1)
    · exact h2 (by rw [← hq]; exact h.p2)
  have hcb : ¬ Two rb sb cb := hn _ _ h.p0 (by simp) (by simp)
  have hlt : cb < w.heap.size := block_lt_of_cell h.c0
  exact ⟨hk.cell_of h.c0 hcb, hk.cell_of h.c1 hcb, hk.cell_of h.c2 hcb, hk.cell_of h.c3 hcb, fun j => by rw [hk.frozen (p := ⟨cb, j, none⟩) hlt hcb]; exact h.z j, hr, Nat.lt_of_lt_of_le h.lt hk.size,
    h.r1.keeps hk fun b hb => hn b _ (h.p3 b hb) (by simp) (by simp), h.r2.keeps hk fun b hb => hn b _ (h.p4 b hb) (by simp) (by simp), h.p0, h.p1, h.p2, h.p3, h.p4⟩
end
theorem PipesAt.nums {w w' : World} {ρ : Nat → Role} {pb : Home} {vch : Value} {ptr : List Nat} {mb : Option Nat} {D : DataW Value} {N M : Nat} {s : St} (h : PipesAt w ρ pb vch ptr mb D N M s) {k cb rb sb : Nat} {v1 v2 : Value} {c : Ch}
    (hcb : ptr[k]? = some cb) (hc : s.chs[k]? = some c) (hx : ChC w ρ k cb rb sb v1 v2 c) (hk : Keeps (Two rb sb) w w') {nums : List Int} (hr : RingL eI w' rb sb c.size nums) : PipesAt w' ρ pb vch ptr mb D N M (setNums s k nums) := by
  unfold setNums
  rw [modify_set _ hc]
  refine h.put hk (fun _ _ => rfl) (fun g hg => Nat.lt_of_lt_of_le (h.dom g hg) hk.size) k (fun b e => Or.inr ?_) (fun cb' hcb' => ?_) (h.rows k c hc) (Nat.le_refl _)
  · rcases e with rfl | rfl
    · rw [hx.p1]; rfl
    · rw [hx.p2]; rfl
  · rw [hcb] at hcb'
    cases hcb'
    exact ⟨_, _, _, _, hx.nums hk hr⟩
theorem keeps_two {w w' : World} {ρ : Nat → Role} {k cb rb sb : Nat} {v1 v2 : Value} {c : Ch} (hx : ChC w ρ k cb rb sb v1 v2 c) (hk : Keeps (Two rb sb) w w') : Keeps (fun b => ρ b ≠ .free) w w' :=
  hk.mono fun g _ e => by
    rcases e with rfl | rfl
    · rw [hx.p1]; simp
    · rw [hx.p2]; simp

set_option maxRecDepth 100000 in
set_option maxHeartbeats 6400000 in
theorem send_any {w : World} {ρ : Nat → Role} {pb : Home} {vch : Value} {ptr : List Nat} {mb : Option Nat} {D : DataW Value} {N M : Nat} {s : St} (h : PipesAt w ρ pb vch ptr mb D N M s) (ok : Ok s) (hM : M ≤ 1000000) {k cb : Nat} {c : Ch}
    (hcb : ptr[k]? = some cb) (hc : s.chs[k]? = some c) (n : Int) :
    Calls Tryz.prog 167 #[.pointer (some ⟨pb.b, 8, none⟩), .pointer (some ⟨cb, 0, none⟩), .int .i64 n] w fun e w' => ∃ vw, e = .returned (.tuple #[vw, errV (Pp.send s k c n).err]) ∧ GotAt w w' ρ pb vch ptr mb N M (Pp.send s k c n) vw := by
  obtain ⟨rb, sb, v1, v2, hx⟩ := h.chs k cb c hcb hc
  obtain ⟨a2, k2, rfl, _, _⟩ := hx.r2.slice
  obtain ⟨size, nums, shut, sends, recvs⟩ := c
  have c1 := hx.c1
  have c3 := hx.c3
  have c0 := hx.c0
  simp only at c1 c3
  have HH := Lib.hid h
  have HX := Lib.hid hx
  have HCB := Lib.hid hcb
  have HC := Lib.hid hc
  have HOK := Lib.hid ok
  have HG0 : GotAt w w ρ pb vch ptr mb N M ⟨s, 0, [], 13⟩ (.slice none 0 0) := ⟨⟨_, h⟩, World.ownsRow_nil _ _ _ _, Keeps.refl _ _⟩
  clear h hx hcb hc ok
  cases shut with
  | true =>
    have hv : Pp.send s k ⟨size, nums, true, sends, recvs⟩ n = ⟨s, 0, [], 13⟩ := rfl
    rw [hv]
    have HG1 := Lib.hid HG0
    clear hv HG0
    go_enter Tryz.func167, Tryz.ntmps167
    go_wp2_with fail
    go_ret2
    exact ⟨_, rfl, HG1.out⟩
  | false =>
    clear HG0
    cases recvs with
    | cons y ys =>
      obtain ⟨t, kk⟩ := y
      have hv : Pp.send s k ⟨size, nums, false, sends, (t, kk) :: ys⟩ n = ⟨wake s t, 0, [⟨t, kk, n⟩], 0⟩ := rfl
      rw [hv]
      obtain ⟨l, x, hl, hlx, hx2, hx3⟩ := HOK.out.recvs k _ HC.out (t, kk) List.mem_cons_self
      have hgood : ∀ x ∈ l, x.good s.chs.length := fun x hx => (HOK.out.talks _ _ hl).2 x hx
      have HW := Lib.hid (wake_any HH.out hM t kk n hl hgood (HOK.out.talks _ _ hl).1)
      obtain ⟨g, rfl, -, -, -, hg, -⟩ := HX.out.r2.addr (by simp)
      obtain ⟨y1, y2⟩ := HX.out.r2.cell (i := 0) (x := (t, kk)) rfl
      rw [Nat.zero_mul] at y1 y2
      simp only at y1 y2
      have hlen : ((t, kk) :: ys).length = ys.length + 1 := rfl
      rw [hlen] at c3
      have hpos : (0 : Int) < ((ys.length + 1 : Nat) : Int) := by omega
      clear hv hl hlx hx2 hx3 hgood hlen
      generalize ys.length = m at *
      go_enter Tryz.func167, Tryz.ntmps167
      go_wp2_with fail
      refine HW.out.mono ?_
      rintro e w2 ⟨rfl, ⟨D2, h2⟩, hk2⟩
      have H2 := Lib.hid h2
      have HK2 := Lib.hid hk2
      clear h2 hk2
      go_wp2_with fail
      go_ret2
      have hka : Keeps (fun _ => False) w2 (w2.alloc (.cells #[.int .i64 t, .int .i64 (kk : Int), .int .i64 n] 162)) := (Keeps.refl _ w2).alloc _
      exact ⟨_, rfl, ⟨D2, H2.out.keeps hka fun _ _ e => e.elim⟩, own_one w2 HK2.out.size ⟨t, kk, n⟩, HK2.out.trans' hka fun _ _ e => e.elim⟩
    | nil =>
      have hcaps := HOK.out.caps k _ HC.out
      simp only at hcaps
      have c3' : w.cell? ⟨cb, 3, none⟩ = some (.slice a2 0 k2) := c3
      clear c3
      by_cases hfull : nums.length = size
      · have hv : Pp.send s k ⟨size, nums, false, sends, []⟩ n = ⟨s, 0, [], 12⟩ := by unfold Pp.send; simp [hfull]
        rw [hv]
        have HP := Lib.hid (lpushI_full HX.out.ring hfull n)
        clear hv hcaps hfull
        go_enter Tryz.func167, Tryz.ntmps167
        go_wp2_with fail
        refine HP.out.mono ?_
        rintro e w2 ⟨rfl, hr2, hk2⟩
        have HR2 := Lib.hid hr2
        have HK2 := Lib.hid hk2
        clear hr2 hk2
        go_wp2_with fail
        go_ret2
        have h3 := HH.out.nums HCB.out HC.out HX.out HK2.out HR2.out
        have h4 : setNums s k nums = s := by
          unfold setNums
          rw [modify_set _ HC.out]
          have h5 : s.chs.set k ⟨size, nums, false, sends, []⟩ = s.chs := by
            have := (List.getElem?_eq_some_iff.1 HC.out).2
            rw [← this, List.set_getElem_self]
          simp only at h5 ⊢
          rw [h5]
        rw [h4] at h3
        exact ⟨_, rfl, ⟨_, h3⟩, World.ownsRow_nil _ _ _ _, keeps_two HX.out HK2.out⟩
      · have hv : Pp.send s k ⟨size, nums, false, sends, []⟩ n = ⟨setNums s k (nums ++ [n]), 0, [], 0⟩ := by unfold Pp.send; simp [hfull]
        rw [hv]
        have HP := Lib.hid (lpushI_ok HX.out.ring (by omega : nums.length < size) n)
        clear hv hcaps hfull
        go_enter Tryz.func167, Tryz.ntmps167
        go_wp2_with fail
        refine HP.out.mono ?_
        rintro e w2 ⟨rfl, hr2, hk2⟩
        have HR2 := Lib.hid hr2
        have HK2 := Lib.hid hk2
        clear hr2 hk2
        go_wp2_with fail
        go_ret2
        exact ⟨_, rfl, ⟨_, HH.out.nums HCB.out HC.out HX.out HK2.out HR2.out⟩, World.ownsRow_nil _ _ _ _, keeps_two HX.out HK2.out⟩
end Go.Proofs.YtnjdmijcoadidaaGreatDoor

namespace Go.Proofs.YtnjdmijcoadidaaGreatDoor
open Go.RowKit Go.Maps Pp

theorem setNums_same {s : St} {k : Nat} {c : Ch} (hc : s.chs[k]? = some c) : setNums s k c.nums = s := by
  unfold setNums
  rw [modify_set _ hc]
  have h5 : s.chs.set k c = s.chs := by rw [← (List.getElem?_eq_some_iff.1 hc).2, List.set_getElem_self]
  show (⟨s.chs.set k c, s.asks⟩ : St) = s
  rw [h5]
theorem setNums_get {s : St} {k : Nat} {c : Ch} (hc : s.chs[k]? = some c) (nums : List Int) : (setNums s k nums).chs[k]? = some { c with nums := nums } := by
  have hk := (List.getElem?_eq_some_iff.1 hc).1
  unfold setNums
  rw [modify_set _ hc, List.getElem?_set_self hk]

set_option maxRecDepth 100000 in
set_option maxHeartbeats 12800000 in
theorem recv_any {w : World} {ρ : Nat → Role} {pb : Home} {vch : Value} {ptr : List Nat} {mb : Option Nat} {D : DataW Value} {N M : Nat} {s : St} (h : PipesAt w ρ pb vch ptr mb D N M s) (ok : Ok s) (hM : M ≤ 1000000) {k cb : Nat} {c : Ch}
    (hcb : ptr[k]? = some cb) (hc : s.chs[k]? = some c) :
    Calls Tryz.prog 166 #[.pointer (some ⟨pb.b, 8, none⟩), .pointer (some ⟨cb, 0, none⟩)] w fun e w' => ∃ vw, e = .returned (.tuple #[.int .i64 (Pp.recv s k c).n, vw, errV (Pp.recv s k c).err]) ∧ GotAt w w' ρ pb vch ptr mb N M (Pp.recv s k c) vw := by
  obtain ⟨rb, sb, v1, v2, hx⟩ := h.chs k cb c hcb hc
  obtain ⟨a1, k1, rfl, _, _⟩ := hx.r1.slice
  obtain ⟨size, nums, shut, sends, recvs⟩ := c
  have c2 := hx.c2
  have c0 := hx.c0
  simp only at c2
  have HH := Lib.hid h
  have HX := Lib.hid hx
  have HCB := Lib.hid hcb
  have HC := Lib.hid hc
  have HOK := Lib.hid ok
  clear h hx hcb hc ok
  cases sends with
  | nil =>
    have c2' : w.cell? ⟨cb, 2, none⟩ = some (.slice a1 0 k1) := c2
    clear c2
    cases nums with
    | nil =>
      have hv : Pp.recv s k ⟨size, [], shut, [], recvs⟩ = ⟨s, 0, [], 0⟩ := rfl
      rw [hv]
      have HP := Lib.hid (lpopI_none HX.out.ring)
      clear hv
      go_enter Tryz.func166, Tryz.ntmps166
      go_wp2_with fail
      refine HP.out.mono ?_
      rintro e w2 ⟨rfl, hr2, hk2⟩
      have HR2 := Lib.hid hr2
      have HK2 := Lib.hid hk2
      have d2 := (HX.out.nums hk2 hr2).c2
      have d2' : w2.cell? ⟨cb, 2, none⟩ = some (.slice a1 0 k1) := d2
      clear hr2 hk2 d2
      go_wp2_with fail
      go_ret3
      have h3 := HH.out.nums HCB.out HC.out HX.out HK2.out HR2.out
      have h4 : setNums s k [] = s := setNums_same HC.out
      rw [h4] at h3
      exact ⟨_, rfl, ⟨_, h3⟩, World.ownsRow_nil _ _ _ _, keeps_two HX.out HK2.out⟩
    | cons x r =>
      have hv : Pp.recv s k ⟨size, x :: r, shut, [], recvs⟩ = ⟨setNums s k r, x, [], 0⟩ := rfl
      rw [hv]
      have HP := Lib.hid (lpopI_ok HX.out.ring)
      clear hv
      go_enter Tryz.func166, Tryz.ntmps166
      go_wp2_with fail
      refine HP.out.mono ?_
      rintro e w2 ⟨rfl, hr2, hk2⟩
      have HR2 := Lib.hid hr2
      have HK2 := Lib.hid hk2
      have d2 := (HX.out.nums hk2 hr2).c2
      have d2' : w2.cell? ⟨cb, 2, none⟩ = some (.slice a1 0 k1) := d2
      clear hr2 hk2 d2
      go_wp2_with fail
      go_ret3
      exact ⟨_, rfl, ⟨_, HH.out.nums HCB.out HC.out HX.out HK2.out HR2.out⟩, World.ownsRow_nil _ _ _ _, keeps_two HX.out HK2.out⟩
  | cons y ys =>
    obtain ⟨t, kk⟩ := y
    have hlen : ((t, kk) :: ys).length = ys.length + 1 := rfl
    simp only [hlen] at c2
    obtain ⟨l, x, hl, hlx, hx2, hx3⟩ := HOK.out.sends k _ HC.out (t, kk) List.mem_cons_self
    simp only at hl hlx
    have hsent : sent s (t, kk) = x.n := by unfold sent; simp [hl, hlx]
    have HL := Lib.hid hl
    have HLX := Lib.hid hlx
    have HSENT := Lib.hid hsent
    have hkl := (List.getElem?_eq_some_iff.1 hlx).1
    obtain ⟨g, rfl, -, -, -, hg, -⟩ := HX.out.r1.addr (by simp)
    clear hlen hl hlx hsent hx2 hx3 hg
    cases nums with
    | nil =>
      have hv : Pp.recv s k ⟨size, [], shut, (t, kk) :: ys, recvs⟩ = ⟨wake s t, sent s (t, kk), [⟨t, kk, 0⟩], 0⟩ := rfl
      rw [hv, HSENT.out]
      have HP := Lib.hid (lpopI_none HX.out.ring)
      have hcaps := HOK.out.caps k _ HC.out
      simp only at hcaps
      have HCAPS := Lib.hid hcaps
      clear hv hcaps
      go_enter Tryz.func166, Tryz.ntmps166
      go_wp2_with fail
      refine HP.out.mono ?_
      rintro e w1 ⟨rfl, hr2, hk2⟩
      have hx1 := HX.out.nums hk2 hr2
      have d2 : w1.cell? ⟨cb, 2, none⟩ = some (.slice (some ⟨g, 0, none⟩) (ys.length + 1) k1) := hx1.c2
      obtain ⟨y1, y2⟩ := hx1.r1.cell (i := 0) (x := (t, kk)) rfl
      simp only [Nat.zero_mul, Nat.zero_add] at y1 y2
      have h3 : PipesAt w1 ρ pb vch ptr mb D N M s := by
        have := HH.out.nums HCB.out HC.out HX.out hk2 hr2
        rwa [show setNums s k [] = s from setNums_same HC.out] at this
      have HK1 := Lib.hid (keeps_two HX.out hk2)
      have hpos : ¬ (((ys.length + 1 : Nat) : Int) = 0) := by omega
      have hpb : (((ys.length + 1 : Nat) : Int) == 0) = false := by rw [beq_eq_false_iff_ne]; exact hpos
      have hka : Keeps (fun _ => False) w1 (w1.alloc (.cells #[.int .i64 t, .int .i64 (kk : Int)] 135)) := (Keeps.refl _ w1).alloc _
      have h4 := h3.keeps hka fun _ _ e => e.elim
      have HLS : Hid (s.asks t = some l) := HL
      obtain ⟨b, v, rfl, hb, hwf, htk, hvo, hown, hlook⟩ := h4.look HLS.out
      obtain ⟨ao, cap, rfl, hc1, hc2⟩ := htk.slice
      obtain ⟨tb, o, rfl, htb, _, _, t3⟩ := htk.at HLX.out
      have q0 : (w1.alloc (.cells #[.int .i64 t, .int .i64 (kk : Int)] 135)).cell? ⟨w1.heap.size, 0, none⟩ = some (.int .i64 t) := by rw [World.cell?_alloc_at _ _ _ _ rfl]; rfl
      have q1 : (w1.alloc (.cells #[.int .i64 t, .int .i64 (kk : Int)] 135)).cell? ⟨w1.heap.size, 1, none⟩ = some (.int .i64 (kk : Int)) := by rw [World.cell?_alloc_at _ _ _ _ rfl]; rfl
      have p1 := h4.c1
      have hlk : ∀ z, (Instr.lookup 99 (.map (some b)) (.int .i64 t) false).run Tryz.prog ((w1.alloc (.cells #[.int .i64 t, .int .i64 (kk : Int)] 135)).drewN z) = .ok (.slice (some ⟨tb, o, none⟩) l.length cap) ((w1.alloc (.cells #[.int .i64 t, .int .i64 (kk : Int)] 135)).drewN z) :=
        fun z => hlook _ _ ((keeps_drewN (Keeps.refl (fun _ => False) _) z).map hown id)
      have H4 := Lib.hid h4
      have HKA := Lib.hid (HK1.out.trans' hka fun _ _ e => e.elim)
      have hki : (0 : Int) ≤ (kk : Int) ∧ (kk : Int) < (l.length : Int) := by omega
      clear hr2 hk2 hx1 h3 h4 htk hown hlook htb hb hvo hwf
      obtain ⟨xw, xc, xn⟩ := x
      simp only at t3 ⊢
      generalize ys.length = m at *
      go_upto_region 5 with fail
      clear d2 y1 y2 c2 c0
      obtain ⟨B1, hB1⟩ : ∃ B1, B1 = w1.heap.size := ⟨_, rfl⟩
      rw [← hB1] at q0 q1 ⊢
      clear hB1 hka
      generalize w1.alloc (.cells #[.int .i64 t, .int .i64 (kk : Int)] 135) = w3 at *
      go_quiet (fail)
      have H5 : Hid (PipesAt (w3.drewN nq) ρ pb vch ptr (some b) D N M s) := Lib.hid (H4.out.keeps (keeps_drewN (Keeps.refl (fun _ => False) w3) nq) fun _ _ e => e.elim)
      have HK5 : Hid (Keeps (fun b => ρ b ≠ Role.free) w (w3.drewN nq)) := Lib.hid (keeps_drewN HKA.out nq)
      have r0 : (w3.drewN nq).cell? ⟨B1, 0, none⟩ = some (.int .i64 t) := q0
      have r1 : (w3.drewN nq).cell? ⟨B1, 1, none⟩ = some (.int .i64 (kk : Int)) := q1
      clear H4 HKA q0 q1 p1 hlk t3
      generalize w3.drewN nq = w5 at *
      have HG5 : Hid (∀ x ∈ l, x.good s.chs.length) := Lib.hid (fun x hx => (HOK.out.talks _ _ HL.out).2 x hx)
      have HW := Lib.hid (wake_any H5.out hM t kk 0 HLS.out HG5.out (HOK.out.talks _ _ HL.out).1)
      go_wp2_with fail
      refine HW.out.mono ?_
      rintro e w6 ⟨rfl, ⟨D6, h6⟩, hk6⟩
      have hkb : Keeps (fun _ => False) w6 (w6.alloc (.cells #[.int .i64 t, .int .i64 (kk : Int), .int .i64 0] 162)) := (Keeps.refl _ w6).alloc _
      have H7 : Hid (PipesAt (w6.alloc (.cells #[.int .i64 t, .int .i64 (kk : Int), .int .i64 0] 162)) ρ pb vch ptr (some b) D6 N M (wake s t)) := Lib.hid (h6.keeps hkb fun _ _ e => e.elim)
      have HK7 : Hid (Keeps (fun b => ρ b ≠ Role.free) w (w6.alloc (.cells #[.int .i64 t, .int .i64 (kk : Int), .int .i64 0] 162))) := Lib.hid ((HK5.out.trans hk6).trans' hkb fun _ _ e => e.elim)
      have HWK : Hid ((w6.alloc (.cells #[.int .i64 t, .int .i64 (kk : Int), .int .i64 0] 162)).ownsRow w.heap.size 162 3 (.slice (some ⟨w6.heap.size, 0, none⟩) 1 1) 1 (cellsK [⟨t, kk, 0⟩])) := Lib.hid (own_one w6 (Nat.le_trans HK5.out.size hk6.size) ⟨t, kk, 0⟩)
      clear h6 hk6 hkb r0 r1
      go_wp2_with fail
      go_ret3
      exact ⟨_, rfl, ⟨D6, H7.out⟩, HWK.out, HK7.out⟩
    | cons x0 r =>
      have hv : Pp.recv s k ⟨size, x0 :: r, shut, (t, kk) :: ys, recvs⟩ = ⟨setNums (wake (setNums s k r) t) k (r ++ [sent s (t, kk)]), x0, [⟨t, kk, 0⟩], 0⟩ := rfl
      rw [hv, HSENT.out]
      have HP := Lib.hid (lpopI_ok HX.out.ring)
      have hcaps := HOK.out.caps k _ HC.out
      simp only at hcaps
      have HCAPS := Lib.hid hcaps
      clear hv hcaps
      go_enter Tryz.func166, Tryz.ntmps166
      go_wp2_with fail
      refine HP.out.mono ?_
      rintro e w1 ⟨rfl, hr2, hk2⟩
      have hx1 := HX.out.nums hk2 hr2
      have d2 : w1.cell? ⟨cb, 2, none⟩ = some (.slice (some ⟨g, 0, none⟩) (ys.length + 1) k1) := hx1.c2
      obtain ⟨y1, y2⟩ := hx1.r1.cell (i := 0) (x := (t, kk)) rfl
      simp only [Nat.zero_mul, Nat.zero_add] at y1 y2
      have h3 : PipesAt w1 ρ pb vch ptr mb D N M (setNums s k r) := HH.out.nums HCB.out HC.out HX.out hk2 hr2
      have HK1 := Lib.hid (keeps_two HX.out hk2)
      have hpos : ¬ (((ys.length + 1 : Nat) : Int) = 0) := by omega
      have hpb : (((ys.length + 1 : Nat) : Int) == 0) = false := by rw [beq_eq_false_iff_ne]; exact hpos
      have hka : Keeps (fun _ => False) w1 (w1.alloc (.cells #[.int .i64 t, .int .i64 (kk : Int)] 135)) := (Keeps.refl _ w1).alloc _
      have h4 := h3.keeps hka fun _ _ e => e.elim
      have HLS : Hid ((setNums s k r).asks t = some l) := HL
      obtain ⟨b, v, rfl, hb, hwf, htk, hvo, hown, hlook⟩ := h4.look HLS.out
      obtain ⟨ao, cap, rfl, hc1, hc2⟩ := htk.slice
      obtain ⟨tb, o, rfl, htb, _, _, t3⟩ := htk.at HLX.out
      have q0 : (w1.alloc (.cells #[.int .i64 t, .int .i64 (kk : Int)] 135)).cell? ⟨w1.heap.size, 0, none⟩ = some (.int .i64 t) := by rw [World.cell?_alloc_at _ _ _ _ rfl]; rfl
      have q1 : (w1.alloc (.cells #[.int .i64 t, .int .i64 (kk : Int)] 135)).cell? ⟨w1.heap.size, 1, none⟩ = some (.int .i64 (kk : Int)) := by rw [World.cell?_alloc_at _ _ _ _ rfl]; rfl
      have p1 := h4.c1
      have hlk : ∀ z, (Instr.lookup 99 (.map (some b)) (.int .i64 t) false).run Tryz.prog ((w1.alloc (.cells #[.int .i64 t, .int .i64 (kk : Int)] 135)).drewN z) = .ok (.slice (some ⟨tb, o, none⟩) l.length cap) ((w1.alloc (.cells #[.int .i64 t, .int .i64 (kk : Int)] 135)).drewN z) :=
        fun z => hlook _ _ ((keeps_drewN (Keeps.refl (fun _ => False) _) z).map hown id)
      have H4 := Lib.hid h4
      have HKA := Lib.hid (HK1.out.trans' hka fun _ _ e => e.elim)
      have hki : (0 : Int) ≤ (kk : Int) ∧ (kk : Int) < (l.length : Int) := by omega
      clear hr2 hk2 hx1 h3 h4 htk hown hlook htb hb hvo hwf
      obtain ⟨xw, xc, xn⟩ := x
      simp only at t3 ⊢
      generalize ys.length = m at *
      go_upto_region 5 with fail
      clear d2 y1 y2 c2 c0
      obtain ⟨B1, hB1⟩ : ∃ B1, B1 = w1.heap.size := ⟨_, rfl⟩
      rw [← hB1] at q0 q1 ⊢
      clear hB1 hka
      generalize w1.alloc (.cells #[.int .i64 t, .int .i64 (kk : Int)] 135) = w3 at *
      go_quiet (fail)
      have H5 : Hid (PipesAt (w3.drewN nq) ρ pb vch ptr (some b) D N M (setNums s k r)) := Lib.hid (H4.out.keeps (keeps_drewN (Keeps.refl (fun _ => False) w3) nq) fun _ _ e => e.elim)
      have HK5 : Hid (Keeps (fun b => ρ b ≠ Role.free) w (w3.drewN nq)) := Lib.hid (keeps_drewN HKA.out nq)
      have r0 : (w3.drewN nq).cell? ⟨B1, 0, none⟩ = some (.int .i64 t) := q0
      have r1 : (w3.drewN nq).cell? ⟨B1, 1, none⟩ = some (.int .i64 (kk : Int)) := q1
      clear H4 HKA q0 q1 p1 hlk t3
      generalize w3.drewN nq = w5 at *
      have HG5 : Hid (∀ x ∈ l, x.good (setNums s k r).chs.length) := Lib.hid (fun x hx => by
        unfold setNums
        rw [List.length_modify]
        exact (HOK.out.talks _ _ HL.out).2 x hx)
      have HW := Lib.hid (wake_any H5.out hM t kk 0 HLS.out HG5.out (HOK.out.talks _ _ HL.out).1)
      go_wp2_with fail
      refine HW.out.mono ?_
      rintro e w6 ⟨rfl, ⟨D6, h6⟩, hk6⟩
      have hkb : Keeps (fun _ => False) w6 (w6.alloc (.cells #[.int .i64 t, .int .i64 (kk : Int), .int .i64 0] 162)) := (Keeps.refl _ w6).alloc _
      have H7 : Hid (PipesAt (w6.alloc (.cells #[.int .i64 t, .int .i64 (kk : Int), .int .i64 0] 162)) ρ pb vch ptr (some b) D6 N M (wake (setNums s k r) t)) := Lib.hid (h6.keeps hkb fun _ _ e => e.elim)
      have HK7 : Hid (Keeps (fun b => ρ b ≠ Role.free) w (w6.alloc (.cells #[.int .i64 t, .int .i64 (kk : Int), .int .i64 0] 162))) := Lib.hid ((HK5.out.trans hk6).trans' hkb fun _ _ e => e.elim)
      have HWK : Hid ((w6.alloc (.cells #[.int .i64 t, .int .i64 (kk : Int), .int .i64 0] 162)).ownsRow w.heap.size 162 3 (.slice (some ⟨w6.heap.size, 0, none⟩) 1 1) 1 (cellsK [⟨t, kk, 0⟩])) := Lib.hid (own_one w6 (Nat.le_trans HK5.out.size hk6.size) ⟨t, kk, 0⟩)
      have HOFF : Hid (¬ ρ w6.heap.size ≠ .free) := Lib.hid fun e => by
        have := h6.dom _ e
        omega
      clear h6 hk6 hkb r0 r1
      obtain ⟨c7, hc7, hless⟩ := strike_get (task := t) (l := l) (fun x hx => (HG5.out x hx).1.1) (setNums_get HC.out r)
      have hc7' : (wake (setNums s k r) t).chs[k]? = some c7 := by rw [wake_some HLS.out]; exact hc7
      obtain ⟨rb7, sb7, v17, v27, hx7⟩ := H7.out.chs k cb c7 HCB.out hc7'
      have e0 := hx7.c0
      have hnums : c7.nums = r := hless.nums
      have hsize : c7.size = size := hless.size
      have hring := hx7.ring
      rw [hnums] at hring
      have HP7 := Lib.hid (lpushI_ok hring (by rw [hsize]; have := HCAPS.out.2; rw [List.length_cons] at this; omega) xn)
      have HX7 := Lib.hid hx7
      have HC7 := Lib.hid hc7'
      clear hx7 hring hnums hsize hc7 hc7' hless
      go_wp2_with fail
      refine HP7.out.mono ?_
      rintro e w8 ⟨rfl, hr8, hk8⟩
      have HR8 := Lib.hid hr8
      have HK8 := Lib.hid hk8
      clear hr8 hk8
      go_wp2_with fail
      go_ret3
      refine ⟨_, rfl, ⟨D6, H7.out.nums HCB.out HC7.out HX7.out HK8.out HR8.out⟩, ?_, HK7.out.trans (keeps_two HX7.out HK8.out)⟩
      refine HK8.out.row HWK.out fun g hg e => ?_
      cases hg
      have h9 := HOFF.out
      rcases e with e | e
      · have := HX7.out.p1; rw [← e] at this; exact h9 (by rw [this]; simp)
      · have := HX7.out.p2; rw [← e] at this; exact h9 (by rw [this]; simp)
end Go.Proofs.YtnjdmijcoadidaaGreatDoor

namespace Go.Proofs.YtnjdmijcoadidaaGreatDoor
open Go.RowKit Go.Maps Pp

theorem own_mono {w : World} {B B' : Nat} {e : TypeId} {size n : Nat} {v : Value} {xs : List Value} (h : w.ownsRow B e size v n xs) (hB : B' ≤ B) : w.ownsRow B' e size v n xs := by
  refine ⟨h.1, ?_⟩
  rcases h.2 with h0 | ⟨g, cap, cur, e1, e2, e3⟩
  · exact Or.inl h0
  · exact Or.inr ⟨g, cap, cur, e1, Nat.le_trans hB e2, e3⟩
theorem GotAt.from {w w1 w' : World} {ρ : Nat → Role} {pb : Home} {vch : Value} {ptr : List Nat} {mb : Option Nat} {N M : Nat} {g : Got} {vw : Value} (h : GotAt w1 w' ρ pb vch ptr mb N M g vw) (hk : Keeps (fun b => ρ b ≠ .free) w w1) : GotAt w w' ρ pb vch ptr mb N M g vw :=
  ⟨h.at_, own_mono h.wk hk.size, hk.trans h.keep⟩

set_option maxRecDepth 100000 in
set_option maxHeartbeats 6400000 in
theorem do_any {w : World} {ρ : Nat → Role} {pb : Home} {vch : Value} {ptr : List Nat} {mb : Option Nat} {D : DataW Value} {N M : Nat} {s : St} (h : PipesAt w ρ pb vch ptr mb D N M s) (ok : Ok s) (hM : M ≤ 1000000) (what n : Int) {k : Nat} {c : Ch}
    (hc : s.chs[k]? = some c) :
    Calls Tryz.prog 138 #[.pointer (some ⟨pb.b, 8, none⟩), .agg #[.int .i64 what, .int .i64 ((k : Int) + 1), .int .i64 n]] w fun e w' => ∃ vw, e = .returned (.tuple #[.int .i64 (doT s ⟨what, (k : Int) + 1, n⟩).n, vw, errV (doT s ⟨what, (k : Int) + 1, n⟩).err]) ∧
      GotAt w w' ρ pb vch ptr mb N M (doT s ⟨what, (k : Int) + 1, n⟩) vw := by
  have hkl := (List.getElem?_eq_some_iff.1 hc).1
  have hmay : may s.chs.length ((k : Int) + 1) = true := by unfold may; simp; omega
  have hka : Keeps (fun _ => False) w (w.alloc (.cells #[.int .i64 what, .int .i64 ((k : Int) + 1), .int .i64 n] 132)) := (Keeps.refl _ w).alloc _
  have h1 := h.keeps hka fun _ _ e => e.elim
  have HM := Lib.hid hmay
  have H1 := Lib.hid h1
  have HK1 : Hid (Keeps (fun b => ρ b ≠ .free) w (w.alloc (.cells #[.int .i64 what, .int .i64 ((k : Int) + 1), .int .i64 n] 132))) := Lib.hid (hka.mono fun _ _ e => e.elim)
  rcases h1.chan hmay with ⟨e0, _⟩ | ⟨k', cb, rb, sb, v1, v2, c', e0, e1, e2, e3, _, _⟩
  · omega
  obtain rfl : k = k' := by omega
  rw [hc] at e1
  cases e1
  have HCP := Lib.hid e3
  have hd : ∀ q : Got, (q = if what = 10 then Pp.recv s k c else Pp.send s k c n) → doT s ⟨what, (k : Int) + 1, n⟩ = q := fun q hq => by
    unfold doT
    simp only
    rw [show ((k : Int) + 1 - 1).toNat = k by omega, hc, hq]
  have HD := Lib.hid hd
  have HC := Lib.hid hc
  have HCB := Lib.hid e2
  have HOK := Lib.hid ok
  clear h hka h1 hmay hd e3 e2 ok e0
  by_cases h10 : what = 10
  · subst h10
    rw [HD.out (Pp.recv s k c) (by simp)]
    have HR := Lib.hid (recv_any H1.out HOK.out hM HCB.out HC.out)
    generalize Pp.recv s k c = G at *
    go_enter Tryz.func138, Tryz.ntmps138
    go_wp2_with fail
    refine (channel_any H1.out _ HM.out).mono ?_
    rintro e w6 ⟨rfl, rfl⟩
    rw [HCP.out]
    go_wp2_with fail
    refine HR.out.mono ?_
    rintro e w7 ⟨vw, rfl, hg⟩
    have HG := Lib.hid (hg.from HK1.out)
    clear hg
    go_wp2_with fail
    go_ret3
    exact ⟨_, rfl, HG.out⟩
  · have e10 : (what == 10) = false := by rw [beq_eq_false_iff_ne]; exact h10
    rw [HD.out (Pp.send s k c n) (by rw [if_neg h10])]
    have hs0 : (Pp.send s k c n).n = 0 := by
      unfold Pp.send
      split
      · rfl
      · split
        · rfl
        · split <;> rfl
    rw [hs0]
    have HR := Lib.hid (send_any H1.out HOK.out hM HCB.out HC.out n)
    clear hs0
    generalize Pp.send s k c n = G at *
    go_enter Tryz.func138, Tryz.ntmps138
    go_wp2_with fail
    refine (channel_any H1.out _ HM.out).mono ?_
    rintro e w6 ⟨rfl, rfl⟩
    rw [HCP.out]
    go_wp2_with fail
    refine HR.out.mono ?_
    rintro e w7 ⟨vw, rfl, hg⟩
    have HG := Lib.hid (hg.from HK1.out)
    clear hg
    go_wp2_with fail
    go_ret3
    exact ⟨_, rfl, HG.out⟩

/-- What other says of the rest, k ones behind the beginning, o the Else so far. -/
structure OtherJ (w wr : World) (m : Nat) (l : List Tk) (k : Nat) (o : Int) : Prop where
  keep : Keeps (fun _ => False) w wr
  rest : Pp.other m l 0 (-1) = Pp.other m (l.drop k) k o
  o : o = -1 ∨ 0 ≤ o
set_option maxRecDepth 100000 in
set_option maxHeartbeats 6400000 in
theorem other_any {w : World} {ρ : Nat → Role} {pb : Home} {vch : Value} {ptr : List Nat} {mb : Option Nat} {D : DataW Value} {N M : Nat} {s : St} (h : PipesAt w ρ pb vch ptr mb D N M s) {v : Value} {l : List Tk} (hl : TalksAt w v l) (h6 : l.length ≤ 1000000) :
    Calls Tryz.prog 135 #[.pointer (some ⟨pb.b, 8, none⟩), v] w fun e w' => e = .returned (.tuple #[.int .i64 (Pp.other s.chs.length l 0 (-1)).1, errV (Pp.other s.chs.length l 0 (-1)).2]) ∧ Keeps (fun _ => False) w w' := by
  obtain ⟨ao, cap, rfl, hc1, hc2⟩ := hl.slice
  have HH := Lib.hid h
  have HT := Lib.hid hl
  obtain ⟨p, hp⟩ : ∃ p, Pp.other s.chs.length l 0 (-1) = p := ⟨_, rfl⟩
  rw [hp]
  have HP := Lib.hid hp
  have HJ0 : Hid (OtherJ w w s.chs.length l 0 (-1)) := Lib.hid ⟨Keeps.refl _ _, rfl, Or.inl rfl⟩
  clear h hl hp
  go_enter Tryz.func135, Tryz.ntmps135
  go_wp2_with fail
  go_loopw [6, 11] (fun ov kv wr => ∃ (k : Nat) (o : Int), k ≤ l.length ∧ kv = .int .i64 k ∧ ov = .int .i64 o ∧ OtherJ w wr s.chs.length l k o) (fun _ kv _ => l.length - (intOf kv).toNat)
  case atStart => exact ⟨0, -1, Nat.zero_le _, rfl, rfl, HJ0.out⟩
  case round =>
    obtain ⟨k, o, hk, rfl, rfl, hJ⟩ := hrel
    have HJ := Lib.hid hJ
    clear hJ HJ0
    by_cases hkl : k < l.length
    · obtain ⟨x, hx⟩ : ∃ x, l[k]? = some x := ⟨_, List.getElem?_eq_getElem hkl⟩
      have hdrop : l.drop k = x :: l.drop (k + 1) := by rw [List.drop_eq_getElem_cons hkl, (List.getElem?_eq_some_iff.1 hx).2]
      obtain ⟨tb, to, rfl, htb, c1, c2, c3⟩ := (HT.out.keeps HJ.out.keep fun _ _ e => e).at hx
      have hki : (0 : Int) ≤ (k : Int) ∧ (k : Int) < (l.length : Int) := by omega
      obtain ⟨xw, xc, xn⟩ := x
      simp only at c1 c2 c3
      have hr := HJ.out.rest
      rw [hdrop, HP.out, Pp.other] at hr
      have hko : o = -1 ∨ 0 ≤ o := HJ.out.o
      have hka : Keeps (fun _ => False) wr (wr.alloc (.cells #[.int .i64 xw, .int .i64 xc, .int .i64 xn] 132)) := (Keeps.refl _ wr).alloc _
      have HKA := Lib.hid (HJ.out.keep.trans hka)
      have HP1 := Lib.hid (HH.out.keeps (HJ.out.keep.trans hka) fun _ _ e => e.elim)
      clear hx hdrop hka
      simp only at hr
      by_cases h40 : xw = 40
      · rw [if_pos h40] at hr
        subst h40
        by_cases ho : 0 ≤ o
        · rw [if_pos ho] at hr
          subst hr
          go_wp2_with fail
          go_ret2
          exact ⟨rfl, HKA.out⟩
        · rw [if_neg ho] at hr
          have HR := Lib.hid hr
          have hol : o < 0 := by omega
          clear hr
          go_wp2_with fail
          go_roundw
          case rel => exact ⟨k + 1, k, by omega, by go_num, rfl, HKA.out, by rw [HP.out]; exact HR.out, Or.inr (by omega)⟩
          case measure => simp [intOf]; omega
      · rw [if_neg h40] at hr
        have e40 : (xw == 40) = false := by rw [beq_eq_false_iff_ne]; exact h40
        by_cases hw : xw ≠ 3 ∧ xw ≠ 10
        · rw [if_pos hw] at hr
          subst hr
          have e3 : (xw != 3) = true := bne_iff_ne.2 hw.1
          have e10 : (xw != 10) = true := bne_iff_ne.2 hw.2
          clear hw
          go_wp2_with fail
          go_ret2
          exact ⟨rfl, HKA.out⟩
        · rw [if_neg hw] at hr
          have hw2 : xw = 3 ∨ xw = 10 := by omega
          have HMAY := Lib.hid (may_any HP1.out xc)
          cases hmay : may s.chs.length xc with
          | false =>
            rw [if_pos hmay] at hr
            rw [hmay] at HMAY
            subst hr
            clear hw hmay
            rcases hw2 with rfl | rfl
            all_goals
              go_wp2_with fail
              refine HMAY.out.mono ?_
              rintro e w6 ⟨rfl, rfl⟩
              go_wp2_with fail
              go_ret2
              exact ⟨rfl, HKA.out⟩
          | true =>
            rw [if_neg (by rw [hmay]; decide)] at hr
            rw [hmay] at HMAY
            have HR := Lib.hid hr
            clear hw hmay hr
            rcases hw2 with rfl | rfl
            all_goals
              go_wp2_with fail
              refine HMAY.out.mono ?_
              rintro e w6 ⟨rfl, rfl⟩
              go_wp2_with fail
              go_roundw
              case rel => exact ⟨k + 1, o, by omega, by go_num, rfl, HKA.out, by rw [HP.out]; exact HR.out, hko⟩
              case measure => simp [intOf]; omega
    · obtain rfl : k = l.length := by omega
      have hr := HJ.out.rest
      rw [List.drop_length, HP.out, Pp.other] at hr
      subst hr
      go_wp2_with fail
      go_ret2
      exact ⟨rfl, HJ.out.keep⟩
end Go.Proofs.YtnjdmijcoadidaaGreatDoor

namespace Go.Proofs.YtnjdmijcoadidaaGreatDoor
open Go.RowKit Go.Maps Pp

/-- What may stand where nothing is wrong. -/
def Fine (m : Nat) (l : List Tk) : Prop := ∀ x ∈ l, x.what = 40 ∨ x.good m
theorem other_fine {m : Nat} {l : List Tk} {k : Nat} {o : Int} (h : (Pp.other m l k o).2 = 0) : Fine m l := by
  induction l generalizing k o with
  | nil => intro x hx; cases hx
  | cons t l ih =>
    unfold Pp.other at h
    intro x hx
    by_cases e : t.what = 40
    · rw [if_pos e] at h
      split at h
      · exact absurd h (by decide)
      · rcases List.mem_cons.1 hx with rfl | hx
        · exact Or.inl e
        · exact ih h x hx
    · rw [if_neg e] at h
      split at h
      · exact absurd h (by decide)
      · next e2 =>
        split at h
        · exact absurd h (by decide)
        · next e3 =>
          rcases List.mem_cons.1 hx with rfl | hx
          · refine Or.inr ⟨?_, ?_⟩
            · unfold may at e3; simp at e3; exact e3
            · omega
          · exact ih h x hx
theorem frees_le (chs : List Ch) : ∀ (l : List Tk) (k : Nat), (frees chs l k).length ≤ l.length
  | [], _ => Nat.le_refl _
  | t :: l, k => by
    have := frees_le chs l (k + 1)
    unfold frees
    split <;> simp <;> omega
/-- The places so far. -/
structure FreeJ (w wr : World) (chs : List Ch) (l : List Tk) (v : Value) (ks : List Nat) (k : Nat) : Prop where
  own : OwnI wr w.heap.size v (ks.map fun (j : Nat) => (j : Int))
  keep : Keeps (fun _ => False) w wr
  rest : frees chs l 0 = ks ++ frees chs (l.drop k) k
  len : ks.length ≤ k

set_option maxRecDepth 100000 in
set_option maxHeartbeats 6400000 in
theorem free_any {w : World} {ρ : Nat → Role} {pb : Home} {vch : Value} {ptr : List Nat} {mb : Option Nat} {D : DataW Value} {N M : Nat} {s : St} (h : PipesAt w ρ pb vch ptr mb D N M s) {v : Value} {l : List Tk} (hl : TalksAt w v l) (h6 : l.length ≤ 100000) (hf : Fine s.chs.length l) :
    Calls Tryz.prog 136 #[.pointer (some ⟨pb.b, 8, none⟩), v] w fun e w' => ∃ u, e = .returned u ∧ OwnI w' w.heap.size u ((frees s.chs l 0).map fun (j : Nat) => (j : Int)) ∧ Keeps (fun _ => False) w w' := by
  obtain ⟨ao, cap, rfl, hc1, hc2⟩ := hl.slice
  have HH := Lib.hid h
  have HT := Lib.hid hl
  have HF := Lib.hid hf
  have HJ0 : Hid (FreeJ w w s.chs l (.slice none 0 0) [] 0) := Lib.hid ⟨ownI_nil _ _, Keeps.refl _ _, rfl, Nat.le_refl _⟩
  clear h hl hf
  go_enter Tryz.func136, Tryz.ntmps136
  go_wp2_with fail
  go_loopw [5, 11] (fun fv kv wr => ∃ (k : Nat) (ks : List Nat), k ≤ l.length ∧ kv = .int .i64 k ∧ FreeJ w wr s.chs l fv ks k) (fun _ kv _ => l.length - (intOf kv).toNat)
  case atStart => exact ⟨0, [], Nat.zero_le _, rfl, HJ0.out⟩
  case round =>
    obtain ⟨k, ks, hk, rfl, hJ⟩ := hrel
    obtain ⟨a5, c5, hv5⟩ := hJ.own.slice
    rw [List.length_map] at hv5
    subst hv5
    have HJ := Lib.hid hJ
    clear hJ HJ0
    by_cases hkl : k < l.length
    · obtain ⟨x, hx⟩ : ∃ x, l[k]? = some x := ⟨_, List.getElem?_eq_getElem hkl⟩
      have hdrop : l.drop k = x :: l.drop (k + 1) := by rw [List.drop_eq_getElem_cons hkl, (List.getElem?_eq_some_iff.1 hx).2]
      have hgx := HF.out x (List.mem_of_getElem? hx)
      obtain ⟨tb, to, rfl, htb, c1, c2, c3⟩ := (HT.out.keeps HJ.out.keep fun _ _ e => e).at hx
      have hki : (0 : Int) ≤ (k : Int) ∧ (k : Int) < (l.length : Int) := by omega
      obtain ⟨xw, xc, xn⟩ := x
      simp only at c1 c2 c3
      have hr := HJ.out.rest
      rw [hdrop, frees] at hr
      have hka : Keeps (fun _ => False) wr (wr.alloc (.cells #[.int .i64 xw, .int .i64 xc, .int .i64 xn] 132)) := (Keeps.refl _ wr).alloc _
      have HKA := Lib.hid (HJ.out.keep.trans hka)
      have HP1 := Lib.hid (HH.out.keeps (HJ.out.keep.trans hka) fun _ _ e => e.elim)
      have HO1 := Lib.hid (HJ.out.own.keeps hka fun _ _ e => e)
      have hlen := HJ.out.len
      clear hx hdrop hka
      -- one that can't be done
      have HNO : Hid (isFree s.chs ⟨xw, xc, xn⟩ = false → ∀ n, FreeJ w ((wr.alloc (.cells #[.int .i64 xw, .int .i64 xc, .int .i64 xn] 132)).drewN n) s.chs l (.slice a5 ks.length c5) ks (k + 1)) := Lib.hid fun e n =>
        ⟨HO1.out.keeps (keeps_drewN (Keeps.refl (fun _ => False) _) n) fun _ _ e => e, keeps_drewN HKA.out n, by rw [hr, e]; rfl, by omega⟩
      have HYES : Hid (isFree s.chs ⟨xw, xc, xn⟩ = true → frees s.chs l 0 = (ks ++ [k]) ++ frees s.chs (l.drop (k + 1)) (k + 1)) := Lib.hid fun e => by rw [hr, e]; simp
      clear hr
      by_cases h40 : xw = 40
      · subst h40
        have HN := Lib.hid (HNO.out (by simp [isFree]) 0)
        clear HNO HYES
        go_wp2_with fail
        go_roundw
        case rel => exact ⟨k + 1, ks, by omega, by go_num, HN.out⟩
        case measure => simp [intOf]; omega
      · have e40 : (xw == 40) = false := by rw [beq_eq_false_iff_ne]; exact h40
        have hgood : Tk.good s.chs.length ⟨xw, xc, xn⟩ := hgx.resolve_left h40
        have hmay : may s.chs.length xc = true := by unfold may; simp [hgood.1.1, hgood.1.2]
        have HMAY := Lib.hid hmay
        rcases HP1.out.chan hmay with ⟨h0, hn0, hc0⟩ | ⟨kc, cb, rb, sb, v1, v2, c, hxc, hcg, hcp, hcp2, hchn, hch⟩
        · have HN0 := Lib.hid hn0
          have HN := Lib.hid (HNO.out (by unfold isFree; rw [hc0]; simp) 0)
          clear HNO HYES hn0 hc0 hmay hgx hgood h0
          go_wp2_with fail
          refine (channel_any HP1.out xc HMAY.out).mono ?_
          rintro e w6 ⟨rfl, rfl⟩
          rw [HN0.out]
          go_wp2_with fail
          go_roundw
          case rel => exact ⟨k + 1, ks, by omega, by go_num, HN.out⟩
          case measure => simp [intOf]; omega
        · have HCP := Lib.hid hcp2
          have HCF := Lib.hid (cfree_any hch xw)
          have hfr : isFree s.chs ⟨xw, xc, xn⟩ = c.free xw := by unfold isFree; rw [hchn]; simp [h40]
          rw [hfr] at HNO HYES
          clear hcp2 hmay hgx hgood hch hchn hfr hcg hcp hxc
          cases hfx : c.free xw with
          | false =>
            rw [hfx] at HCF
            have HN := Lib.hid (HNO.out hfx)
            clear hfx HNO HYES
            go_wp2_with fail
            refine (channel_any HP1.out xc HMAY.out).mono ?_
            rintro e w6 ⟨rfl, rfl⟩
            rw [HCP.out]
            go_wp2_with fail
            refine HCF.out.mono ?_
            rintro e w6 ⟨rfl, m, rfl⟩
            go_wp2_with fail
            go_roundw
            case rel => exact ⟨k + 1, ks, by omega, by go_num, HN.out m⟩
            case measure => simp [intOf]; omega
          | true =>
            rw [hfx] at HCF
            have HY := Lib.hid (HYES.out hfx)
            have HO2 : Hid (∀ m, OwnI ((wr.alloc (.cells #[.int .i64 xw, .int .i64 xc, .int .i64 xn] 132)).drewN m) w.heap.size (.slice a5 ks.length c5) (ks.map fun (j : Nat) => (j : Int))) := Lib.hid fun m => HO1.out.keeps (keeps_drewN (Keeps.refl (fun _ => False) _) m) fun _ _ e => e
            have HK2 : Hid (∀ m, Keeps (fun _ => False) w ((wr.alloc (.cells #[.int .i64 xw, .int .i64 xc, .int .i64 xn] 132)).drewN m)) := Lib.hid fun m => keeps_drewN HKA.out m
            clear hfx HNO HYES
            go_wp2_with fail
            refine (channel_any HP1.out xc HMAY.out).mono ?_
            rintro e w6 ⟨rfl, rfl⟩
            rw [HCP.out]
            go_wp2_with fail
            refine HCF.out.mono ?_
            rintro e w6 ⟨rfl, m, rfl⟩
            have HO3 := Lib.hid (HO2.out m)
            have HK3 := Lib.hid (HK2.out m)
            clear HO2 HK2
            have hz : w.heap.size ≤ ((wr.alloc (.cells #[.int .i64 xw, .int .i64 xc, .int .i64 xn] 132)).drewN m).heap.size := HK3.out.size
            generalize (wr.alloc (.cells #[.int .i64 xw, .int .i64 xc, .int .i64 xn] 132)).drewN m = w5 at *
            go_wp2_with (at_builtin; go_loud (refine wpList_appendI rfl _ _ rfl _ w.heap.size _ (ks.map fun (j : Nat) => (j : Int)) (k : Int) HO3.out rfl rfl (by simp; omega) hz ?_; intro a6 c6 w6 hO6 hK6 hN6; have HO6 := Lib.hid hO6; have HK6 := Lib.hid hK6; clear hO6 hK6 hN6))
            go_roundw
            case rel =>
              refine ⟨k + 1, ks ++ [k], by omega, by go_num, ?_, ?_, HY.out, by simp; omega⟩
              · have := HO6.out
                rw [List.length_map] at this
                rw [List.map_append]
                exact this
              · exact HK3.out.trans' HK6.out fun g hg e => by
                  have := HO3.out.le g e
                  omega
            case measure => simp [intOf]; omega
    · obtain rfl : k = l.length := by omega
      have hr := HJ.out.rest
      rw [List.drop_length, frees, List.append_nil] at hr
      have HR := Lib.hid hr
      clear hr
      go_wp2_with fail
      go_ret
      exact ⟨_, rfl, by rw [HR.out]; exact HJ.out.own, HJ.out.keep⟩
end Go.Proofs.YtnjdmijcoadidaaGreatDoor

namespace Go.Proofs.YtnjdmijcoadidaaGreatDoor
open Go.RowKit Go.Maps Pp

def cellsL (l : List Tk) : List Value := l.flatMap fun x => [.int .i64 x.what, .int .i64 x.chan, .int .i64 x.n]
theorem cellsL_cons (x : Tk) (l : List Tk) : cellsL (x :: l) = .int .i64 x.what :: .int .i64 x.chan :: .int .i64 x.n :: cellsL l := rfl
theorem cellsL_len (l : List Tk) : (cellsL l).length = l.length * 3 := by
  induction l with
  | nil => rfl
  | cons w r ih => rw [cellsL_cons, List.length_cons, List.length_cons, List.length_cons, ih, List.length_cons]; omega
theorem cellsL_get : ∀ (l : List Tk) (i : Nat) (x : Tk), l[i]? = some x → (cellsL l)[i * 3]? = some (.int .i64 x.what) ∧ (cellsL l)[i * 3 + 1]? = some (.int .i64 x.chan) ∧ (cellsL l)[i * 3 + 2]? = some (.int .i64 x.n) := by
  intro l
  induction l with
  | nil => intro i x h; cases h
  | cons p r ih =>
    intro i x h
    cases i with
    | zero => cases h; exact ⟨rfl, rfl, rfl⟩
    | succ i =>
      have := ih i x (by simpa using h)
      rw [cellsL_cons]
      refine ⟨?_, ?_, ?_⟩
      · rw [show (i + 1) * 3 = i * 3 + 1 + 1 + 1 by omega]; simpa using this.1
      · rw [show (i + 1) * 3 + 1 = i * 3 + 1 + 1 + 1 + 1 by omega]; simpa using this.2.1
      · rw [show (i + 1) * 3 + 2 = i * 3 + 2 + 1 + 1 + 1 by omega]; simpa using this.2.2
theorem get_cellsL : ∀ (l : List Tk) (j : Nat) (u : Value), (cellsL l)[j]? = some u → ∃ i x, l[i]? = some x ∧ ((j = i * 3 ∧ u = .int .i64 x.what) ∨ (j = i * 3 + 1 ∧ u = .int .i64 x.chan) ∨ (j = i * 3 + 2 ∧ u = .int .i64 x.n)) := by
  intro l
  induction l with
  | nil => intro j u h; simp [cellsL] at h
  | cons p r ih =>
    intro j u h
    rw [cellsL_cons] at h
    match j with
    | 0 => simp at h; exact ⟨0, p, rfl, Or.inl ⟨rfl, h.symm⟩⟩
    | 1 => simp at h; exact ⟨0, p, rfl, Or.inr (Or.inl ⟨rfl, h.symm⟩)⟩
    | 2 => simp at h; exact ⟨0, p, rfl, Or.inr (Or.inr ⟨rfl, h.symm⟩)⟩
    | j + 3 =>
      simp at h
      obtain ⟨i, x, h1, h2⟩ := ih j u h
      refine ⟨i + 1, x, by simpa using h1, ?_⟩
      rcases h2 with ⟨h3, h4⟩ | ⟨h3, h4⟩ | ⟨h3, h4⟩
      · exact Or.inl ⟨by omega, h4⟩
      · exact Or.inr (Or.inl ⟨by omega, h4⟩)
      · exact Or.inr (Or.inr ⟨by omega, h4⟩)
theorem addr_addP (b o j : Nat) : (⟨b, o, none⟩ : Addr).add j = ⟨b, o + j, none⟩ := by
  unfold Addr.add
  split <;> simp_all
/-- A row of talks of one's own is to be read. -/
theorem talks_of_own {w : World} {B : Nat} {v : Value} {l : List Tk} (h : w.ownsRow B 132 3 v l.length (cellsL l)) : TalksAt w v l := by
  have hc := h
  rcases h.2 with ⟨rfl, h0⟩ | ⟨g, cap, cur, rfl, hb, hg, h3, h4, h5, h6⟩
  · exact ⟨none, 0, 0, rfl, by omega, Nat.le_refl _, Nat.zero_le _, fun h => absurd h (Nat.lt_irrefl _)⟩
  · refine ⟨_, _, _, rfl, rfl, h3, h4, fun _ => ⟨g, 0, rfl, (Array.getElem?_eq_some_iff.1 hg).1, fun i x hx => ?_⟩⟩
    obtain ⟨e1, e2, e3⟩ := cellsL_get l i x hx
    have f1 := World.ownsRow.cells hc (g := g) rfl _ _ e1
    have f2 := World.ownsRow.cells hc (g := g) rfl _ _ e2
    have f3 := World.ownsRow.cells hc (g := g) rfl _ _ e3
    rw [addr_addP] at f1 f2 f3
    exact ⟨f1, by rw [Nat.add_assoc]; exact f2, by rw [Nat.add_assoc]; exact f3⟩
theorem info_talk : (Tryz.prog.info? 132).map (fun i => (i.zero, i.size, i.bytes)) = some (some (.agg #[.int .i64 0, .int .i64 0, .int .i64 0]), 3, 24) := by kernel_rfl
theorem info_wait : (Tryz.prog.info? 135).map (fun i => (i.zero, i.size, i.bytes)) = some (some (.agg #[.int .i64 0, .int .i64 0]), 2, 16) := by kernel_rfl
theorem tinfoP {i : Option TypeInfo} {z : Value} {n m : Nat} (h : i.map (fun i => (i.zero, i.size, i.bytes)) = some (some z, n, m)) : ∃ i0, i = some i0 ∧ i0.zero = some z ∧ i0.size = n ∧ i0.bytes = m := by
  cases i with
  | none => cases h
  | some i0 =>
    simp at h
    exact ⟨i0, rfl, h.1, h.2.1, h.2.2⟩

set_option maxRecDepth 100000 in
set_option maxHeartbeats 1600000 in
theorem cloneT_any (w : World) {v : Value} {l : List Tk} (hl : TalksAt w v l) (h6 : l.length ≤ 1000000) :
    Calls Tryz.prog 168 #[v] w fun e w' => ∃ u, e = .returned u ∧ w'.ownsRow w.heap.size 132 3 u l.length (cellsL l) ∧ Below w.heap.size w w' := by
  obtain ⟨ao, n, cap, rfl, hn, h1, h2, h3⟩ := hl
  obtain ⟨i0, hi, hz0, hz1, hz2⟩ := tinfoP info_talk
  cases ao with
  | none =>
    have hl0 : l = [] := by
      rcases Nat.eq_zero_or_pos n with h0 | h0
      · exact List.eq_nil_of_length_eq_zero (by omega)
      · obtain ⟨b, o, e, _⟩ := h3 h0; cases e
    subst hl0
    have heq := Lib.run_eql_slice_nil (P := Tryz.prog) w 86 132 none n cap 0 0 Tryz.underlying86
    rw [Option.isNone_none] at heq
    clear h3 hn
    go_enter Tryz.func168, Tryz.ntmps168
    go_wp2_with fail
    go_ret
    exact ⟨_, rfl, World.ownsRow_nil _ _ _ _, Below.refl _ _⟩
  | some ad =>
    have hcell : ∀ j u, (cellsL l)[j]? = some u → w.cell? (ad.add j) = some u := fun j u hu => by
      obtain ⟨i, x, e1, e2⟩ := get_cellsL l j u hu
      have hi2 := (List.getElem?_eq_some_iff.1 e1).1
      obtain ⟨b, o, e3, _, e4⟩ := h3 (by omega)
      cases e3
      obtain ⟨f1, f2, f3⟩ := e4 i x e1
      rw [addr_addP]
      rcases e2 with ⟨rfl, rfl⟩ | ⟨rfl, rfl⟩ | ⟨rfl, rfl⟩
      · exact f1
      · rw [← Nat.add_assoc]; exact f2
      · rw [← Nat.add_assoc]; exact f3
    have h1c : ∀ u ∈ cellsL l, u.oneCell' = true := fun u hu => by
      obtain ⟨j, hj⟩ := List.mem_iff_getElem?.1 hu
      obtain ⟨i, x, _, e2⟩ := get_cellsL l j u hj
      rcases e2 with ⟨_, rfl⟩ | ⟨_, rfl⟩ | ⟨_, rfl⟩ <;> rfl
    have HC := Lib.hid hcell
    have HL := Lib.hid (cellsL_len l)
    clear hcell h3
    subst hn
    have heq := Lib.run_eql_slice_nil (P := Tryz.prog) w 86 132 (some ad) l.length cap 0 0 Tryz.underlying86
    rw [Option.isNone_some] at heq
    go_enter Tryz.func168, Tryz.ntmps168
    have HOWN : Hid ((w.alloc (.cells #[] 132)).ownsRow w.heap.size 132 3 (.slice (some ⟨w.heap.size, 0, none⟩) 0 0) 0 []) := Lib.hid ⟨rfl, Or.inr ⟨w.heap.size, 0, #[], rfl, Nat.le_refl _, by show (w.heap.push _)[w.heap.size]? = _; simp, Nat.le_refl _, Nat.zero_le _, rfl, rfl⟩⟩
    have HCA : Hid (∀ j u, (cellsL l)[j]? = some u → (w.alloc (.cells #[] 132)).cell? (ad.add j) = some u) := Lib.hid fun j u hu => by
      exact Go.Lib.cell?_alloc_some _ (HC.out j u hu)
    go_wp2_with (at_builtin; refine wpList_append_own _ rfl _ _ 86 rfl w.heap.size 132 i0 (.agg #[.int .i64 0, .int .i64 0, .int .i64 0]) 3 24 Tryz.underlying86 hi hz0 hz1 hz2 rfl (by decide) _ 0 [] rfl HOWN.out ad l.length cap (cellsL l) rfl HL.out HCA.out h1c (by unfold maxLen; omega) (by omega) (by simp) ?_)
    intro v' w' ho' hg' _
    have HO := Lib.hid ho'
    have HG := Lib.hid hg'
    clear ho' hg'
    go_wp2_with fail
    go_ret
    refine ⟨_, rfl, ?_, ?_⟩
    · exact HO.out
    · exact ((Below.refl w.heap.size w).alloc (Nat.le_refl _) _).trans ((Keeps.of_grownBy (S := fun g => g = w.heap.size) HG.out fun g _ e => by cases e; rfl).below (by simp) fun g _ e => by omega)

theorem cellsW_one (r : List (Int × Nat)) : ∀ u ∈ cellsW r, u.oneCell' = true := by
  induction r with
  | nil => intro u hu; simp [cellsW] at hu
  | cons p r ih =>
    intro u hu
    have e : cellsW (p :: r) = .int .i64 p.1 :: .int .i64 (p.2 : Int) :: cellsW r := rfl
    rw [e] at hu
    rcases List.mem_cons.1 hu with rfl | hu
    · rfl
    · rcases List.mem_cons.1 hu with rfl | hu
      · rfl
      · exact ih u hu
set_option maxRecDepth 100000 in
set_option maxHeartbeats 1600000 in
theorem cloneW_any (w : World) {v : Value} {r : List (Int × Nat)} (hl : RowW w v r) (h6 : r.length ≤ 1000000000) :
    Calls Tryz.prog 67 #[v] w fun e w' => ∃ u, e = .returned u ∧ w'.ownsRow w.heap.size 135 2 u r.length (cellsW r) ∧ Below w.heap.size w w' := by
  obtain ⟨i0, hi, hz0, hz1, hz2⟩ := tinfoP info_wait
  have hc := hl
  rcases hl.2 with ⟨rfl, h0⟩ | ⟨g, cap, cur, rfl, hb, hg, h3, h4, h5, h6'⟩
  · obtain rfl : r = [] := List.eq_nil_of_length_eq_zero h0
    have heq := Lib.run_eql_slice_nil (P := Tryz.prog) w 74 135 none 0 0 0 0 Tryz.underlying74
    rw [Option.isNone_none] at heq
    clear hl hc h0
    go_enter Tryz.func67, Tryz.ntmps67
    go_wp2_with fail
    go_ret
    exact ⟨_, rfl, World.ownsRow_nil _ _ _ _, Below.refl _ _⟩
  · obtain ⟨ad, had⟩ : ∃ ad : Addr, ad = ⟨g, 0, none⟩ := ⟨_, rfl⟩
    have HC : Hid (∀ j u, (cellsW r)[j]? = some u → w.cell? (ad.add j) = some u) := Lib.hid fun j u hu => by rw [had]; exact World.ownsRow.cells hc (g := g) rfl j u hu
    have HL := Lib.hid (cellsW_len r)
    have h1c := cellsW_one r
    rw [← had]
    have heq := Lib.run_eql_slice_nil (P := Tryz.prog) w 74 135 (some ad) r.length cap 0 0 Tryz.underlying74
    rw [Option.isNone_some] at heq
    clear hl hc had h5 h6'
    have HOWN : Hid ((w.alloc (.cells #[] 135)).ownsRow w.heap.size 135 2 (.slice (some ⟨w.heap.size, 0, none⟩) 0 0) 0 []) := Lib.hid ⟨rfl, Or.inr ⟨w.heap.size, 0, #[], rfl, Nat.le_refl _, by show (w.heap.push _)[w.heap.size]? = _; simp, Nat.le_refl _, Nat.zero_le _, rfl, rfl⟩⟩
    have HCA : Hid (∀ j u, (cellsW r)[j]? = some u → (w.alloc (.cells #[] 135)).cell? (ad.add j) = some u) := Lib.hid fun j u hu => by
      exact Go.Lib.cell?_alloc_some _ (HC.out j u hu)
    go_enter Tryz.func67, Tryz.ntmps67
    go_wp2_with (at_builtin; refine wpList_append_own _ rfl _ _ 74 rfl w.heap.size 135 i0 (.agg #[.int .i64 0, .int .i64 0]) 2 16 Tryz.underlying74 hi hz0 hz1 hz2 rfl (by decide) _ 0 [] rfl HOWN.out ad r.length cap (cellsW r) rfl HL.out HCA.out h1c (by unfold maxLen; omega) (by omega) (by simp) ?_)
    intro v' w' ho' hg' _
    have HO := Lib.hid ho'
    have HG := Lib.hid hg'
    clear ho' hg'
    go_wp2_with fail
    go_ret
    refine ⟨_, rfl, ?_, ?_⟩
    · exact HO.out
    · exact ((Below.refl w.heap.size w).alloc (Nat.le_refl _) _).trans ((Keeps.of_grownBy (S := fun g => g = w.heap.size) HG.out fun g _ e => by cases e; rfl).below (by simp) fun g _ e => by omega)
end Go.Proofs.YtnjdmijcoadidaaGreatDoor

namespace Go.Proofs.YtnjdmijcoadidaaGreatDoor
open Go.RowKit Go.Maps Pp

/-- 'row = append(row, y)'. -/
theorem wpList_appendW {ops : Array Oper} {rest : List Oper} {o : Oper} {a : Act} {Q : Exit → Act → World → Prop} (hgd : o.guard = none) (s x : Operand)
    (ho : o.op = .call { callee := .builtin .append, args := #[s, x], argTypes := #[74, 74] }) (w : World) (v : Value) (r : List (Int × Nat)) (y1 : Int) (y2 : Nat) (hown : RowW w v r) (hs : a.eval s = v)
    (hx : a.eval x = .slice (some ⟨w.heap.size, 0, none⟩) 1 1) (hl : r.length ≤ 100000000)
    (h : ∀ ao' cap' w', RowW w' (.slice ao' (r.length + 1) cap') (r ++ [(y1, y2)]) → Keeps (fun b => v.ownBlock = some b) w w' → (∀ k, (Value.slice ao' (r.length + 1) cap').ownBlock = some k → v.ownBlock = some k ∨ w.heap.size ≤ k) →
      wpList Tryz.prog ops Q rest (a.put o.dst (.slice ao' (r.length + 1) cap')) w') : wpList Tryz.prog ops Q (o :: rest) a (w.alloc (.cells #[.int .i64 y1, .int .i64 (y2 : Int)] 135)) := by
  obtain ⟨i0, hi, hz0, hz1, hz2⟩ := tinfoP info_wait
  have hnew : ∀ j u, [Value.int .i64 y1, Value.int .i64 (y2 : Int)][j]? = some u → (w.alloc (.cells #[.int .i64 y1, .int .i64 (y2 : Int)] 135)).cell? ((⟨w.heap.size, 0, none⟩ : Addr).add j) = some u := fun j u hu => by
    rw [addr_addP, World.cell?_alloc_at _ _ _ _ rfl]
    rcases j with _ | _ | j
    · exact hu
    · exact hu
    · simp at hu
  refine wpList_append_own_at _ hgd s x 74 ho 0 135 i0 (.agg #[.int .i64 0, .int .i64 0]) 2 16 Tryz.underlying74 hi hz0 hz1 hz2 rfl (by decide) v r.length (cellsW r) hs (World.ownsRow.alloc hown _) ⟨w.heap.size, 0, none⟩ 1 1 [.int .i64 y1, .int .i64 (y2 : Int)] hx rfl
    hnew (fun u hu => by simp at hu; rcases hu with rfl | rfl <;> rfl) (by unfold maxLen; omega) (by omega) (Nat.zero_le _) ?_
  intro v' w' h1 h2 _ h4
  have hO : RowW w' v' (r ++ [(y1, y2)]) := by
    unfold RowW
    rw [cellsW_append, List.length_append]
    exact h1
  obtain ⟨ao', cap', e, _, _⟩ := hO.slice
  rw [List.length_append] at e
  have e' : v' = .slice ao' (r.length + 1) cap' := e
  subst e'
  refine h _ _ _ hO (keeps_append h2 fun k e => e) fun k hk => ?_
  rcases h4 with h4 | h4
  · exact Or.inl (h4 ▸ hk)
  · rw [h4] at hk
    cases hk
    exact Or.inr (by simp)

section
variable {w w' : World} {ρ : Nat → Role} {pb : Home} {vch : Value} {ptr : List Nat} {mb : Option Nat} {D : DataW Value} {N M : Nat} {s : St}
theorem PipesAt.mono (h : PipesAt w ρ pb vch ptr mb D N M s) {N' M' : Nat} (hN : N ≤ N') (hM : M ≤ M') : PipesAt w ρ pb vch ptr mb D N' M' s :=
  ⟨h.c0, h.c1, h.z, h.row, h.len, h.many, h.chs, fun k c hc => by have := h.rows k c hc; omega, h.map0, fun b hb => ⟨(h.map1 b hb).1.mono hN, (h.map1 b hb).2⟩, h.has, h.talk, h.p0, h.p1, h.dom, h.rest⟩
/-- New blocks, of a role. -/
def roleFrom (ρ : Nat → Role) (lo hi : Nat) (r : Role) (b : Nat) : Role := if lo ≤ b ∧ b < hi then r else ρ b
theorem roleFrom_old {ρ : Nat → Role} {lo hi : Nat} {r : Role} {b : Nat} (h : b < lo) : roleFrom ρ lo hi r b = ρ b := by unfold roleFrom; rw [if_neg (by omega)]
theorem roleFrom_new {ρ : Nat → Role} {lo hi : Nat} {r : Role} {b : Nat} (h : lo ≤ b) (h2 : b < hi) : roleFrom ρ lo hi r b = r := by unfold roleFrom; rw [if_pos ⟨h, h2⟩]
theorem roleFrom_dom {ρ : Nat → Role} {lo hi : Nat} {r : Role} (hd : ∀ b, ρ b ≠ .free → b < lo) (hl : lo ≤ hi) : ∀ b, roleFrom ρ lo hi r b ≠ .free → b < hi := fun b h => by
  unfold roleFrom at h
  split at h
  · omega
  · have := hd b h; omega
/-- The map is made. -/
theorem PipesAt.made (h : PipesAt w ρ pb vch ptr none D N M s) : PipesAt ((w.alloc (.map #[] 0)).setCell ⟨pb.b, 9, none⟩ (.map (some w.heap.size))) (roleFrom ρ w.heap.size (w.heap.size + 1) .asks) pb vch ptr (some w.heap.size) (.map []) 0 M s ∧
    Keeps (fun b => b = pb.b) w ((w.alloc (.map #[] 0)).setCell ⟨pb.b, 9, none⟩ (.map (some w.heap.size))) := by
  have hk0 : Keeps (fun _ => False) w (w.alloc (.map #[] 0)) := (Keeps.refl _ w).alloc _
  have h1 := h.same (ρ' := roleFrom ρ w.heap.size (w.heap.size + 1) .asks) hk0 (fun b hb => roleFrom_old hb) (fun b hb => by simpa using roleFrom_dom h.dom (Nat.le_succ _) b hb) fun _ e => e.elim
  have hk1 := keeps_set1 (w.alloc (.map #[] 0)) ⟨pb.b, 9, none⟩ (.map (some w.heap.size))
  have hk1' : Keeps (fun b => b = pb.b) (w.alloc (.map #[] 0)) ((w.alloc (.map #[] 0)).setCell ⟨pb.b, 9, none⟩ (.map (some w.heap.size))) := hk1
  have hn : ∀ g r, roleFrom ρ w.heap.size (w.heap.size + 1) .asks g = r → r ≠ .pipes → ¬ g = pb.b := fun g r hr h3 e => h3 (by rw [← hr, e]; exact h1.p0)
  have hempty : ∀ t : Int, s.asks t = none := fun t => by
    have h2 := h.has t
    rw [h.map0 rfl] at h2
    cases hs : s.asks t with
    | none => rfl
    | some l => rw [hs] at h2; cases h2
  have hrole : roleFrom ρ w.heap.size (w.heap.size + 1) .asks w.heap.size = .asks := roleFrom_new (Nat.le_refl _) (Nat.lt_succ_self _)
  refine ⟨⟨?_, World.cell?_setCell_same _ _ _ h1.c1, fun j => by rw [World.frozen?_setCell]; exact h1.z j, hk1'.row h1.row fun g hg => hn g _ (h1.p1 g hg) (by simp), h1.len, h1.many, fun k cb c hcb hc => ?_, h1.rows, fun e => (by cases e), fun b hb => ?_,
    fun t => by rw [hempty t]; rfl, fun t l hl => (by rw [hempty t] at hl; cases hl), h1.p0, h1.p1, fun g hg => Nat.lt_of_lt_of_le (h1.dom g hg) hk1'.size, fun j h8 h9 => by rw [World.cell?_setCell_other _ _ _ _ (fun e => h9 (by injection e with _ e; exact e.symm))]; exact h1.rest j h8 h9⟩, (hk0.mono fun _ _ e => e.elim).trans hk1'⟩
  · rw [cell_set_other (off_ne (by decide) pb.b)]; exact h1.c0
  · obtain ⟨rb, sb, v1, v2, h3⟩ := h1.chs k cb c hcb hc
    exact ⟨rb, sb, v1, v2, h3.keeps hk1' fun g _ hg e => by rw [e, h1.p0] at hg; exact hg⟩
  · cases hb
    refine ⟨hk1'.map (World.ownsMap_made w Tryz.prog 3 (heldE)) (hn _ _ hrole (by simp)), hrole⟩
/-- A task's talks are noted. -/
theorem PipesAt.note (h : PipesAt w ρ pb vch ptr mb D N M s) {b : Nat} (hb : mb = some b) {t : Int} {l : List Tk} {u : Value} (hwf : (Lit.int .i64 t).wf = true) (hk : Keeps (fun k => k = b) w w') (ho : w'.ownsMap Tryz.prog 3 heldE b (N + 1) (D.put (.int .i64 t) (.held u)))
    (hu : TalksAt w u l) (hur : ∀ g, u.ownBlock = some g → ρ g = .talks t) :
    PipesAt w' ρ pb vch ptr mb (D.put (.int .i64 t) (.held u)) (N + 1) M ⟨s.chs, fun x => if x = t then some l else s.asks x⟩ := by
  obtain ⟨h1, h2⟩ := h.map1 b hb
  have hI := h1.isMap
  have hkl : WideAt.IsKeyLit (Lit.int .i64 t) := trivial
  have hoff : ∀ {v : Value} {q : Int}, (∀ g, v.ownBlock = some g → ρ g = .talks q) → Off v (fun k => k = b) := fun hv g hg e => by
    have := hv g hg
    rw [e, h2] at this
    cases this
  refine h.turn hb hk ho (fun x => ?_) fun x m hm => ?_
  · by_cases e : x = t
    · subst e
      rw [Maps.has_put_same hI hkl]; simp
    · rw [Maps.has_put_other (lit_neI e), h.has, if_neg e]
  · split at hm
    · next e =>
      subst e
      cases hm
      exact ⟨hwf, u, fun z => Maps.atKey_put_same hI hkl _ z, hu.keeps hk (hoff hur), hur⟩
    · next e =>
      obtain ⟨h3, v, h4, h5, h6⟩ := h.talk x m hm
      exact ⟨h3, v, fun z => by rw [Maps.atKey_put_other (lit_neI e)]; exact h4 z, h5.keeps hk (hoff h6), h6⟩
end
theorem lay_succ {task : Int} {l : List Tk} {i : Nat} {x : Tk} (hx : l[i]? = some x) : ∀ (chs : List Ch) (k : Nat), lay task chs (l.take (i + 1)) k = layAt task (lay task chs (l.take i) k) x (k + i) := by
  induction l generalizing i with
  | nil => cases hx
  | cons t l ih =>
    intro chs k
    cases i with
    | zero => cases hx; rfl
    | succ i =>
      rw [List.take_succ_cons, List.take_succ_cons, lay, lay, ih (by simpa using hx)]
      congr 1
      omega
theorem layAt_zero {task : Int} {chs : List Ch} {x : Tk} {i : Nat} (h : x.chan = 0) : layAt task chs x i = chs := by unfold layAt; rw [if_pos h]
theorem layAt_set {task : Int} {chs : List Ch} {x : Tk} {i k : Nat} {c : Ch} (h : x.chan = (k : Int) + 1) (hc : chs[k]? = some c) : layAt task chs x i = chs.set k (c.lay task x.what i) := by
  unfold layAt
  rw [if_neg (by omega), show (x.chan - 1).toNat = k by omega, modify_set _ hc]
end Go.Proofs.YtnjdmijcoadidaaGreatDoor

namespace Go.Proofs.YtnjdmijcoadidaaGreatDoor
open Go.RowKit Go.Maps Pp

theorem run_equalIn_map_nil {P : Program} (w : World) (d : Nat) (t k e : TypeId) (m : Option Nat) (h : P.underlying t = some (.map k e)) : (Op.equalIn (d + 1) t (.map m) (.map none)).run P w = .ok m.isNone w := by
  cases m <;> simp [Op.equalIn, run_underlying h]
theorem run_eql_map_nil {P : Program} (w : World) (t k e : TypeId) (m : Option Nat) (h : P.underlying t = some (.map k e)) : (binOp .eql t (.map m) (.map none)).run P w = .ok (.bool m.isNone) w := by
  simp only [binOp]
  simp [Op.equal, Op.maxDepth, run_equalIn_map_nil w 9999 t k e m h]
/-- So many of a task's talks stand in their rows. -/
structure WaitJ (w wr : World) (ρ : Nat → Role) (pb : Home) (vch : Value) (ptr : List Nat) (b : Nat) (D : DataW Value) (N M : Nat) (s : St) (task : Int) (l : List Tk) (i : Nat) : Prop where
  at_ : ∃ ρ', PipesAt wr ρ' pb vch ptr (some b) D N (M + i) ⟨lay task s.chs (l.take i) 0, s.asks⟩ ∧ ∀ g, g < w.heap.size → ρ' g = ρ g
  keep : Keeps (fun g => ρ g ≠ .free) w wr

/-- Talks of no length lie nowhere. -/
theorem TalksAt.keeps0 {S : Nat → Prop} {w w' : World} {v : Value} {l : List Tk} (h : TalksAt w v l) (hk : Keeps S w w') (ho : 0 < l.length → Off v S) : TalksAt w' v l := by
  rcases Nat.eq_zero_or_pos l.length with h0 | h0
  · obtain ⟨ao, n, cap, hv, hn, hc, hm, hx⟩ := h
    exact ⟨ao, n, cap, hv, hn, hc, hm, fun h1 => by omega⟩
  · exact h.keeps hk (ho h0)
set_option maxRecDepth 100000 in
set_option maxHeartbeats 6400000 in
theorem wait_any0 {w : World} {ρ : Nat → Role} {pb : Home} {vch : Value} {ptr : List Nat} {mb : Option Nat} {D : DataW Value} {N M : Nat} {s : St} (h : PipesAt w ρ pb vch ptr mb D N M s) (hN : N ≤ 1000000000) (hM : M ≤ 10000000) (task : Int) (hwf : (Lit.int .i64 task).wf = true) {v : Value} {l : List Tk}
    (hl : TalksAt w v l) (hvo : 0 < l.length → ∀ g, v.ownBlock = some g → ρ g = .free) (hg : ∀ x ∈ l, x.good s.chs.length) (h6 : l.length ≤ 6) :
    Calls Tryz.prog 139 #[.pointer (some ⟨pb.b, 8, none⟩), .int .i64 task, v] w fun e w' => (e = .returned (.tuple #[])) ∧ (∃ ρ' mb' D', PipesAt w' ρ' pb vch ptr mb' D' (N + 1) (M + 6) (Pp.wait s task l) ∧ ∀ g, g < w.heap.size → ρ' g = ρ g) ∧
      Keeps (fun b => ρ b ≠ .free) w w' := by
  obtain ⟨ao, cap, rfl, hc1, hc2⟩ := hl.slice
  have HWF := Lib.hid hwf
  have HTW := Lib.hid hl
  have HVO := Lib.hid hvo
  have HG := Lib.hid hg
  have HDOM := Lib.hid h.dom
  have p1 := h.c1
  cases mb with
  | none =>
    have hmm := @run_makeMap Tryz.prog
    have heq := run_eql_map_nil (P := Tryz.prog) w 99 3 86 none Tryz.underlying99
    rw [Option.isNone_none] at heq
    have hz1 : (w.alloc (.map #[] 0)).frozen? ⟨pb.b, 9, none⟩ = false := by rw [World.frozen?_alloc_past _ _ _ h.lt]; exact h.z 9
    have hp1 := Go.Lib.cell?_alloc_some (.map #[] 0) h.c1
    obtain ⟨h1, hk1⟩ := h.made
    have HP1 := Lib.hid (h1.mono (Nat.zero_le N) (Nat.le_refl M))
    have HT1 : Hid (TalksAt ((w.alloc (.map #[] 0)).setCell ⟨pb.b, 9, none⟩ (.map (some w.heap.size))) (.slice ao l.length cap) l) := Lib.hid (hl.keeps0 hk1 fun h0 g hg e => by (have := hvo h0 g hg; rw [e, h.p0] at this; cases this))
    have HX1 : Hid (∀ g, g < w.heap.size → roleFrom ρ w.heap.size (w.heap.size + 1) .asks g = ρ g) := Lib.hid fun g hg => roleFrom_old hg
    have HKF : Hid (Keeps (fun b => ρ b ≠ .free) w ((w.alloc (.map #[] 0)).setCell ⟨pb.b, 9, none⟩ (.map (some w.heap.size)))) := Lib.hid (hk1.mono fun g _ e => by rw [e, h.p0]; simp)
    have hpbl : ¬ pb.b = w.heap.size := by have := h.lt; omega
    clear h h1 hk1 hl hwf hvo hg
    go_enter Tryz.func139, Tryz.ntmps139
    go_upto_region 2 with fail
    clear hz1 hmm p1 hp1 heq
    generalize (w.alloc (.map #[] 0)).setCell ⟨pb.b, 9, none⟩ (.map (some w.heap.size)) = w1 at *
    generalize roleFrom ρ w.heap.size (w.heap.size + 1) .asks = ρ1 at *
    have p2 := HP1.out.c1
    have HPBL : Hid (pb.b < w1.heap.size) := Lib.hid HP1.out.lt
    have HTD : Hid (∀ n, TalksAt (w1.drewN n) (.slice ao l.length cap) l) := Lib.hid fun n => HT1.out.keeps (keeps_drewN (Keeps.refl (fun _ => False) w1) n) fun _ _ e => e
    go_region_with (go_at_call 168; refine (cloneT_any _ (HTD.out _) (by omega)).mono ?_; rintro e w3 ⟨u, rfl, ho3, hb3⟩; have HO3 : Hid (w3.ownsRow w1.heap.size 132 3 u l.length (cellsL l)) := Lib.hid ho3; have HB3 : Hid (Below w1.heap.size w1 w3) := Lib.hid ⟨hb3.os, hb3.tape, hb3.output, hb3.size, hb3.block⟩; have p3 : w3.cell? ⟨pb.b, 9, none⟩ = some (.map (some w.heap.size)) := (HB3.out.cell (p := ⟨pb.b, 9, none⟩) HPBL.out).trans p2; obtain ⟨w4, hmu, hown4, hgrow4⟩ := World.ownsMap.update ((Keeps.of_new HB3.out).map (S := fun _ => False) (HP1.out.map1 _ rfl).1 id) keyedP Tryz.underlying99 (by unfold maxLen; omega) (keyOf_int_mk Tryz.underlying3 HWF.out) (val := u) (d := .held u) (ps := []) rfl; have HO4 := Lib.hid hown4; have HG4 := Lib.hid hgrow4; clear ho3 hb3 hown4 hgrow4)
    all_goals
      have HK34 : Hid (Keeps (fun g => g = w.heap.size) w3 w4) := Lib.hid (Keeps.of_grownBy HG4.out fun g _ e => by cases e; rfl)
      have HP4 : Hid (PipesAt w4 (roleFrom ρ1 w1.heap.size w3.heap.size (.talks task)) pb vch ptr (some w.heap.size) ((DataW.map []).put (.int .i64 task) (.held u)) (N + 1) M ⟨s.chs, fun x => if x = task then some l else s.asks x⟩) := Lib.hid (by
        have h3 := HP1.out.same (ρ' := roleFrom ρ1 w1.heap.size w3.heap.size (.talks task)) (Keeps.of_new (S := fun _ => False) HB3.out) (fun g hg => roleFrom_old hg) (roleFrom_dom HP1.out.dom HB3.out.size) fun _ e => e.elim
        refine h3.note rfl HWF.out HK34.out HO4.out (talks_of_own HO3.out) fun g hg => ?_
        have := World.ownsRow.lt HO3.out g hg
        exact roleFrom_new this.1 this.2)
      have HX4 : Hid (∀ g, g < w.heap.size → roleFrom ρ1 w1.heap.size w3.heap.size (.talks task) g = ρ g) := Lib.hid fun g hg => (roleFrom_old (Nat.lt_of_lt_of_le hg HKF.out.size)).trans (HX1.out g hg)
      have HK4 : Hid (Keeps (fun g => ρ g ≠ .free) w w4) := Lib.hid ((HKF.out.trans (Keeps.of_new HB3.out)).trans' HK34.out fun g hg e => by
        have h1 := (HP1.out.map1 _ rfl).2
        have hx9 : ρ1 g = ρ g := HX1.out g hg
        rw [← hx9, e, h1]; simp)
      have HJ0 : Hid (WaitJ w w4 ρ pb vch ptr w.heap.size ((DataW.map []).put (.int .i64 task) (.held u)) (N + 1) M ⟨s.chs, fun x => if x = task then some l else s.asks x⟩ task l 0) := Lib.hid ⟨⟨_, HP4.out, HX4.out⟩, HK4.out⟩
      clear p2 p3 hmu
      go_wp2_with fail
      go_loopw [28] (fun t wr => ∃ i : Nat, i ≤ l.length ∧ t = .int .i64 i ∧ WaitJ w wr ρ pb vch ptr w.heap.size ((DataW.map []).put (.int .i64 task) (.held u)) (N + 1) M ⟨s.chs, fun x => if x = task then some l else s.asks x⟩ task l i) (fun t _ => l.length - (intOf t).toNat)
      case atStart => exact ⟨0, Nat.zero_le _, rfl, HJ0.out⟩
      case round =>
        obtain ⟨i, hi, rfl, hJ⟩ := hrel
        have HJ := Lib.hid hJ
        clear hJ HJ0
        by_cases hil : i < l.length
        · obtain ⟨x, hx⟩ : ∃ x, l[i]? = some x := ⟨_, List.getElem?_eq_getElem hil⟩
          have HX := Lib.hid hx
          have HGX := Lib.hid (HG.out x (List.mem_of_getElem? hx))
          obtain ⟨ρ', hp, hxr⟩ := HJ.out.at_
          have htr : TalksAt wr (.slice ao l.length cap) l := HTW.out.keeps0 HJ.out.keep fun h0 g hg e => e (HVO.out h0 g hg)
          obtain ⟨tb, o, rfl, htb, c1, c2, c3⟩ := htr.at hx
          have hii : (0 : Int) ≤ (i : Int) ∧ (i : Int) < (l.length : Int) := by omega
          obtain ⟨xw, xc, xn⟩ := x
          simp only at c1 c2 c3
          have hka : Keeps (fun _ => False) wr (wr.alloc (.cells #[.int .i64 xw, .int .i64 xc, .int .i64 xn] 132)) := (Keeps.refl _ wr).alloc _
          have HP6 := Lib.hid (hp.keeps hka fun _ _ e => e.elim)
          have HKA := Lib.hid (HJ.out.keep.trans' hka fun _ _ e => e.elim)
          have HXR := Lib.hid hxr
          have hm6 : may (lay task s.chs (l.take i) 0).length xc = true := by
            rw [lay_len]
            unfold may
            obtain ⟨h1, _⟩ := HGX.out
            simp only at h1
            simp [h1.1, h1.2]
          have HM6 := Lib.hid hm6
          have HC6 := Lib.hid (HP6.out.chan hm6)
          clear hka hm6 hx htr hp hxr htb
          rcases HC6.out with ⟨h0, hn0, _⟩ | ⟨kc, cb, rb, sb, v1, v2, c, hxc, hcg, hcp, hcp2, _, hch⟩
          · have HN0 := Lib.hid hn0
            have HS0 : Hid (lay task s.chs (l.take (i + 1)) 0 = lay task s.chs (l.take i) 0) := Lib.hid ((lay_succ HX.out s.chs 0).trans (layAt_zero h0))
            clear hn0 h0 HC6
            go_wp2_with fail
            refine (channel_any HP6.out xc HM6.out).mono ?_
            rintro e w6 ⟨rfl, rfl⟩
            rw [HN0.out]
            go_wp2_with fail
            go_roundw
            case rel =>
              refine ⟨i + 1, by omega, by go_num, ⟨ρ', ?_, HXR.out⟩, HKA.out⟩
              have := HP6.out.mono (Nat.le_refl (N + 1)) (Nat.le_succ (M + i))
              simp only at this ⊢
              rw [HS0.out]; exact this
            case measure => simp [intOf]; omega
          · have HCH := Lib.hid hch
            have HCP := Lib.hid hcp2
            have HXC := Lib.hid hxc
            have HCG := Lib.hid hcg
            have HCB := Lib.hid hcp
            obtain ⟨a1, k1, hv1, _, _⟩ := hch.r1.slice
            obtain ⟨a2, k2, hv2, _, _⟩ := hch.r2.slice
            subst hv1
            subst hv2
            have c2' := hch.c2
            have c3' := hch.c3
            have z2 := hch.z 2
            have z3 := hch.z 3
            have HROWS := Lib.hid (HP6.out.rows kc c hcg)
            have hrs1 := HROWS.out.1
            have hrs2 := HROWS.out.2
            clear hch hcp2 hxc hcg hcp HC6
            by_cases h3 : xw = 3
            · subst h3
              have hrow := row_any (wr.alloc (.cells #[.int .i64 3, .int .i64 xc, .int .i64 xn] 132)) cb 3
              rw [if_pos rfl] at hrow
              have HROW := Lib.hid hrow
              have hclt : cb < (wr.alloc (.cells #[.int .i64 3, .int .i64 xc, .int .i64 xn] 132)).heap.size := block_lt_of_cell HCH.out.c0
              have hcb : ¬ (Value.slice a1 c.sends.length k1).ownBlock = some cb := fun e => by
                have h1 := HCH.out.p3 cb e
                rw [HCH.out.p0] at h1
                cases h1
              have HCLT := Lib.hid hclt
              have HNCB := Lib.hid hcb
              clear hrow hclt hcb
              go_wp2_with fail
              refine (channel_any HP6.out xc HM6.out).mono ?_
              rintro e w6 ⟨rfl, rfl⟩
              rw [HCP.out]
              go_wp2_with fail
              refine HROW.out.mono ?_
              rintro e w6 ⟨rfl, rfl⟩
              clear c1 c2 c3
              generalize wr.alloc (.cells #[.int .i64 3, .int .i64 xc, .int .i64 xn] 132) = w6 at *
              go_wp2_with (at_builtin; go_loud (refine wpList_appendW rfl _ _ rfl w6 _ c.sends task i HCH.out.r1 rfl rfl (by omega) ?_; intro a6 c6 w7 hO7 hK7 hN7; have HO7 := Lib.hid hO7; have HK7 := Lib.hid hK7; have HN7 := Lib.hid hN7; have y2 : w7.cell? ⟨cb, 2, none⟩ = some (Value.slice a1 c.sends.length k1) := hK7.cell_of c2' HNCB.out; have y3 : w7.frozen? ⟨cb, 2, none⟩ = false := (by rw [hK7.frozen (p := ⟨cb, 2, none⟩) HCLT.out HNCB.out]; exact z2); clear hO7 hK7 hN7))
              have HR7 : Hid (∀ g, (Value.slice a6 (c.sends.length + 1) c6).ownBlock = some g → roleFrom ρ' w6.heap.size w7.heap.size (.sends kc) g = .sends kc) := Lib.hid fun g hg => by
                rcases HN7.out g hg with h1 | h1
                · have h2 := HCH.out.p3 g h1
                  rw [roleFrom_old (HP6.out.dom g (by rw [h2]; simp))]; exact h2
                · exact roleFrom_new h1 (HO7.out.lt g hg)
              have HC7 := Lib.hid ((HCH.out.role (ρ' := roleFrom ρ' w6.heap.size w7.heap.size (.sends kc)) fun g hg => roleFrom_old hg).sends HK7.out HO7.out HR7.out)
              have HK8 : Hid (Keeps (fun g => (Value.slice a1 c.sends.length k1).ownBlock = some g ∨ g = cb) w6 (w7.setCell ⟨cb, 2, none⟩ (.slice a6 (c.sends.length + 1) c6))) := Lib.hid ((HK7.out.mono (S' := fun g => (Value.slice a1 c.sends.length k1).ownBlock = some g ∨ g = cb) fun _ _ e => Or.inl e).setCell (p := ⟨cb, 2, none⟩) (Or.inl (Or.inr rfl)) _)
              have HST : Hid (lay task s.chs (l.take (i + 1)) 0 = (lay task s.chs (l.take i) 0).set kc (c.lay task 3 i)) := Lib.hid ((lay_succ HX.out s.chs 0).trans (by rw [Nat.zero_add]; exact layAt_set HXC.out HCG.out))
              have HLAY : Hid (Ch.lay task 3 i c = { c with sends := c.sends ++ [(task, i)] }) := Lib.hid (by unfold Ch.lay; rw [if_pos rfl])
              have HJ7 : Hid (WaitJ w (w7.setCell ⟨cb, 2, none⟩ (.slice a6 (c.sends.length + 1) c6)) ρ pb vch ptr w.heap.size ((DataW.map []).put (.int .i64 task) (.held u)) (N + 1) M ⟨s.chs, fun x => if x = task then some l else s.asks x⟩ task l (i + 1)) := Lib.hid (by
                refine ⟨⟨roleFrom ρ' w6.heap.size w7.heap.size (.sends kc), ?_, fun g hg => ?_⟩, HKA.out.trans' HK8.out fun g hg e => ?_⟩
                · have h1 := HP6.out.put (M' := M + (i + 1)) (ρ' := roleFrom ρ' w6.heap.size w7.heap.size (.sends kc)) HK8.out (fun g hg => roleFrom_old hg) (fun g hg => by
                    have := roleFrom_dom HP6.out.dom HK7.out.size g hg
                    simpa using this) kc (c' := c.lay task 3 i) (fun g e => Or.inr (by
                    rcases e with e | e
                    · rw [HCH.out.p3 g e]; rfl
                    · rw [e, HCH.out.p0]; rfl)) (fun cb' hcb' => by
                      rw [HCB.out] at hcb'
                      cases hcb'
                      have h9 := HC7.out
                      rw [HLAY.out]
                      exact ⟨_, _, _, _, h9⟩) (by
                      rw [HLAY.out]
                      have h6 := HROWS.out
                      constructor
                      · show (c.sends ++ [(task, i)]).length ≤ _; rw [List.length_append, List.length_singleton]; omega
                      · show c.recvs.length ≤ _; omega) (by omega)
                  simp only at h1 ⊢
                  rw [HST.out]; exact h1
                · rw [roleFrom_old (Nat.lt_of_lt_of_le hg HKA.out.size)]; exact HXR.out g hg
                · rw [← HXR.out g hg]
                  rcases e with e | e
                  · rw [HCH.out.p3 g e]; simp
                  · rw [e, HCH.out.p0]; simp)
              clear c2' c3' z2 z3 hrs1 hrs2
              go_wp2_with fail
              go_roundw
              case rel => exact ⟨i + 1, by omega, by go_num, HJ7.out⟩
              case measure => simp [intOf]; omega
            · have e3 : (xw == 3) = false := by rw [beq_eq_false_iff_ne]; exact h3
              have hrow := row_any (wr.alloc (.cells #[.int .i64 xw, .int .i64 xc, .int .i64 xn] 132)) cb xw
              rw [if_neg h3] at hrow
              have HROW := Lib.hid hrow
              have hclt : cb < (wr.alloc (.cells #[.int .i64 xw, .int .i64 xc, .int .i64 xn] 132)).heap.size := block_lt_of_cell HCH.out.c0
              have hcb : ¬ (Value.slice a2 c.recvs.length k2).ownBlock = some cb := fun e => by
                have h1 := HCH.out.p4 cb e
                rw [HCH.out.p0] at h1
                cases h1
              have HCLT := Lib.hid hclt
              have HNCB := Lib.hid hcb
              clear hrow hclt hcb
              go_wp2_with fail
              refine (channel_any HP6.out xc HM6.out).mono ?_
              rintro e w6 ⟨rfl, rfl⟩
              rw [HCP.out]
              go_wp2_with fail
              refine HROW.out.mono ?_
              rintro e w6 ⟨rfl, rfl⟩
              clear c1 c2 c3
              generalize wr.alloc (.cells #[.int .i64 xw, .int .i64 xc, .int .i64 xn] 132) = w6 at *
              go_wp2_with (at_builtin; go_loud (refine wpList_appendW rfl _ _ rfl w6 _ c.recvs task i HCH.out.r2 rfl rfl (by omega) ?_; intro a6 c6 w7 hO7 hK7 hN7; have HO7 := Lib.hid hO7; have HK7 := Lib.hid hK7; have HN7 := Lib.hid hN7; have y2 : w7.cell? ⟨cb, 3, none⟩ = some (Value.slice a2 c.recvs.length k2) := hK7.cell_of c3' HNCB.out; have y3 : w7.frozen? ⟨cb, 3, none⟩ = false := (by rw [hK7.frozen (p := ⟨cb, 3, none⟩) HCLT.out HNCB.out]; exact z3); clear hO7 hK7 hN7))
              have HR7 : Hid (∀ g, (Value.slice a6 (c.recvs.length + 1) c6).ownBlock = some g → roleFrom ρ' w6.heap.size w7.heap.size (.recvs kc) g = .recvs kc) := Lib.hid fun g hg => by
                rcases HN7.out g hg with h1 | h1
                · have h2 := HCH.out.p4 g h1
                  rw [roleFrom_old (HP6.out.dom g (by rw [h2]; simp))]; exact h2
                · exact roleFrom_new h1 (HO7.out.lt g hg)
              have HC7 := Lib.hid ((HCH.out.role (ρ' := roleFrom ρ' w6.heap.size w7.heap.size (.recvs kc)) fun g hg => roleFrom_old hg).recvs HK7.out HO7.out HR7.out)
              have HK8 : Hid (Keeps (fun g => (Value.slice a2 c.recvs.length k2).ownBlock = some g ∨ g = cb) w6 (w7.setCell ⟨cb, 3, none⟩ (.slice a6 (c.recvs.length + 1) c6))) := Lib.hid ((HK7.out.mono (S' := fun g => (Value.slice a2 c.recvs.length k2).ownBlock = some g ∨ g = cb) fun _ _ e => Or.inl e).setCell (p := ⟨cb, 3, none⟩) (Or.inl (Or.inr rfl)) _)
              have HST : Hid (lay task s.chs (l.take (i + 1)) 0 = (lay task s.chs (l.take i) 0).set kc (c.lay task xw i)) := Lib.hid ((lay_succ HX.out s.chs 0).trans (by rw [Nat.zero_add]; exact layAt_set HXC.out HCG.out))
              have HLAY : Hid (Ch.lay task xw i c = { c with recvs := c.recvs ++ [(task, i)] }) := Lib.hid (by unfold Ch.lay; rw [if_neg h3])
              have HJ7 : Hid (WaitJ w (w7.setCell ⟨cb, 3, none⟩ (.slice a6 (c.recvs.length + 1) c6)) ρ pb vch ptr w.heap.size ((DataW.map []).put (.int .i64 task) (.held u)) (N + 1) M ⟨s.chs, fun x => if x = task then some l else s.asks x⟩ task l (i + 1)) := Lib.hid (by
                refine ⟨⟨roleFrom ρ' w6.heap.size w7.heap.size (.recvs kc), ?_, fun g hg => ?_⟩, HKA.out.trans' HK8.out fun g hg e => ?_⟩
                · have h1 := HP6.out.put (M' := M + (i + 1)) (ρ' := roleFrom ρ' w6.heap.size w7.heap.size (.recvs kc)) HK8.out (fun g hg => roleFrom_old hg) (fun g hg => by
                    have := roleFrom_dom HP6.out.dom HK7.out.size g hg
                    simpa using this) kc (c' := c.lay task xw i) (fun g e => Or.inr (by
                    rcases e with e | e
                    · rw [HCH.out.p4 g e]; rfl
                    · rw [e, HCH.out.p0]; rfl)) (fun cb' hcb' => by
                      rw [HCB.out] at hcb'
                      cases hcb'
                      have h9 := HC7.out
                      rw [HLAY.out]
                      exact ⟨_, _, _, _, h9⟩) (by
                      rw [HLAY.out]
                      have h6 := HROWS.out
                      constructor
                      · show c.sends.length ≤ _; omega
                      · show (c.recvs ++ [(task, i)]).length ≤ _; rw [List.length_append, List.length_singleton]; omega) (by omega)
                  simp only at h1 ⊢
                  rw [HST.out]; exact h1
                · rw [roleFrom_old (Nat.lt_of_lt_of_le hg HKA.out.size)]; exact HXR.out g hg
                · rw [← HXR.out g hg]
                  rcases e with e | e
                  · rw [HCH.out.p4 g e]; simp
                  · rw [e, HCH.out.p0]; simp)
              clear c2' c3' z2 z3 hrs1 hrs2
              go_wp2_with fail
              go_roundw
              case rel => exact ⟨i + 1, by omega, by go_num, HJ7.out⟩
              case measure => simp [intOf]; omega
        · obtain rfl : i = l.length := by omega
          have HE := HJ.out
          go_wp2_with fail
          go_end0
          obtain ⟨ρ', h1, h2⟩ := HE.at_
          rw [List.take_length] at h1
          refine ⟨rfl, ⟨ρ', _, _, h1.mono (Nat.le_refl _) (by omega), h2⟩, HE.keep⟩
  | some b =>
    have heq := run_eql_map_nil (P := Tryz.prog) w 99 3 86 (some b) Tryz.underlying99
    rw [Option.isNone_some] at heq
    have HP1 := Lib.hid h
    have HT1 := Lib.hid hl
    have HKF : Hid (Keeps (fun b => ρ b ≠ .free) w w) := Lib.hid (Keeps.refl _ _)
    clear h hl hwf hvo hg
    go_enter Tryz.func139, Tryz.ntmps139
    go_upto_region 2 with fail
    clear p1 heq
    have p2 := HP1.out.c1
    have HPBL : Hid (pb.b < w.heap.size) := Lib.hid HP1.out.lt
    have HTD : Hid (∀ n, TalksAt (w.drewN n) (.slice ao l.length cap) l) := Lib.hid fun n => HT1.out.keeps (keeps_drewN (Keeps.refl (fun _ => False) w) n) fun _ _ e => e
    go_region_with (go_at_call 168; refine (cloneT_any _ (HTD.out _) (by omega)).mono ?_; rintro e w3 ⟨u, rfl, ho3, hb3⟩; have HO3 : Hid (w3.ownsRow w.heap.size 132 3 u l.length (cellsL l)) := Lib.hid ho3; have HB3 : Hid (Below w.heap.size w w3) := Lib.hid ⟨hb3.os, hb3.tape, hb3.output, hb3.size, hb3.block⟩; have p3 : w3.cell? ⟨pb.b, 9, none⟩ = some (.map (some b)) := (HB3.out.cell (p := ⟨pb.b, 9, none⟩) HPBL.out).trans p2; obtain ⟨w4, hmu, hown4, hgrow4⟩ := World.ownsMap.update ((Keeps.of_new HB3.out).map (S := fun _ => False) (HP1.out.map1 _ rfl).1 id) keyedP Tryz.underlying99 (by unfold maxLen; omega) (keyOf_int_mk Tryz.underlying3 HWF.out) (val := u) (d := .held u) (ps := []) rfl; have HO4 := Lib.hid hown4; have HG4 := Lib.hid hgrow4; clear ho3 hb3 hown4 hgrow4)
    all_goals
      have HK34 : Hid (Keeps (fun g => g = b) w3 w4) := Lib.hid (Keeps.of_grownBy HG4.out fun g _ e => by cases e; rfl)
      have HP4 : Hid (PipesAt w4 (roleFrom ρ w.heap.size w3.heap.size (.talks task)) pb vch ptr (some b) (D.put (.int .i64 task) (.held u)) (N + 1) M ⟨s.chs, fun x => if x = task then some l else s.asks x⟩) := Lib.hid (by
        have h3 := HP1.out.same (ρ' := roleFrom ρ w.heap.size w3.heap.size (.talks task)) (Keeps.of_new (S := fun _ => False) HB3.out) (fun g hg => roleFrom_old hg) (roleFrom_dom HP1.out.dom HB3.out.size) fun _ e => e.elim
        refine h3.note rfl HWF.out HK34.out HO4.out (talks_of_own HO3.out) fun g hg => ?_
        have := World.ownsRow.lt HO3.out g hg
        exact roleFrom_new this.1 this.2)
      have HX4 : Hid (∀ g, g < w.heap.size → roleFrom ρ w.heap.size w3.heap.size (.talks task) g = ρ g) := Lib.hid fun g hg => (roleFrom_old (Nat.lt_of_lt_of_le hg HKF.out.size)).trans ((fun _ _ => rfl) g hg)
      have HK4 : Hid (Keeps (fun g => ρ g ≠ .free) w w4) := Lib.hid ((HKF.out.trans (Keeps.of_new HB3.out)).trans' HK34.out fun g hg e => by
        have h1 := (HP1.out.map1 _ rfl).2
        have hx9 : ρ g = ρ g := (fun _ _ => rfl) g hg
        rw [← hx9, e, h1]; simp)
      have HJ0 : Hid (WaitJ w w4 ρ pb vch ptr b (D.put (.int .i64 task) (.held u)) (N + 1) M ⟨s.chs, fun x => if x = task then some l else s.asks x⟩ task l 0) := Lib.hid ⟨⟨_, HP4.out, HX4.out⟩, HK4.out⟩
      clear p2 p3 hmu
      go_wp2_with fail
      go_loopw [28] (fun t wr => ∃ i : Nat, i ≤ l.length ∧ t = .int .i64 i ∧ WaitJ w wr ρ pb vch ptr b (D.put (.int .i64 task) (.held u)) (N + 1) M ⟨s.chs, fun x => if x = task then some l else s.asks x⟩ task l i) (fun t _ => l.length - (intOf t).toNat)
      case atStart => exact ⟨0, Nat.zero_le _, rfl, HJ0.out⟩
      case round =>
        obtain ⟨i, hi, rfl, hJ⟩ := hrel
        have HJ := Lib.hid hJ
        clear hJ HJ0
        by_cases hil : i < l.length
        · obtain ⟨x, hx⟩ : ∃ x, l[i]? = some x := ⟨_, List.getElem?_eq_getElem hil⟩
          have HX := Lib.hid hx
          have HGX := Lib.hid (HG.out x (List.mem_of_getElem? hx))
          obtain ⟨ρ', hp, hxr⟩ := HJ.out.at_
          have htr : TalksAt wr (.slice ao l.length cap) l := HTW.out.keeps0 HJ.out.keep fun h0 g hg e => e (HVO.out h0 g hg)
          obtain ⟨tb, o, rfl, htb, c1, c2, c3⟩ := htr.at hx
          have hii : (0 : Int) ≤ (i : Int) ∧ (i : Int) < (l.length : Int) := by omega
          obtain ⟨xw, xc, xn⟩ := x
          simp only at c1 c2 c3
          have hka : Keeps (fun _ => False) wr (wr.alloc (.cells #[.int .i64 xw, .int .i64 xc, .int .i64 xn] 132)) := (Keeps.refl _ wr).alloc _
          have HP6 := Lib.hid (hp.keeps hka fun _ _ e => e.elim)
          have HKA := Lib.hid (HJ.out.keep.trans' hka fun _ _ e => e.elim)
          have HXR := Lib.hid hxr
          have hm6 : may (lay task s.chs (l.take i) 0).length xc = true := by
            rw [lay_len]
            unfold may
            obtain ⟨h1, _⟩ := HGX.out
            simp only at h1
            simp [h1.1, h1.2]
          have HM6 := Lib.hid hm6
          have HC6 := Lib.hid (HP6.out.chan hm6)
          clear hka hm6 hx htr hp hxr htb
          rcases HC6.out with ⟨h0, hn0, _⟩ | ⟨kc, cb, rb, sb, v1, v2, c, hxc, hcg, hcp, hcp2, _, hch⟩
          · have HN0 := Lib.hid hn0
            have HS0 : Hid (lay task s.chs (l.take (i + 1)) 0 = lay task s.chs (l.take i) 0) := Lib.hid ((lay_succ HX.out s.chs 0).trans (layAt_zero h0))
            clear hn0 h0 HC6
            go_wp2_with fail
            refine (channel_any HP6.out xc HM6.out).mono ?_
            rintro e w6 ⟨rfl, rfl⟩
            rw [HN0.out]
            go_wp2_with fail
            go_roundw
            case rel =>
              refine ⟨i + 1, by omega, by go_num, ⟨ρ', ?_, HXR.out⟩, HKA.out⟩
              have := HP6.out.mono (Nat.le_refl (N + 1)) (Nat.le_succ (M + i))
              simp only at this ⊢
              rw [HS0.out]; exact this
            case measure => simp [intOf]; omega
          · have HCH := Lib.hid hch
            have HCP := Lib.hid hcp2
            have HXC := Lib.hid hxc
            have HCG := Lib.hid hcg
            have HCB := Lib.hid hcp
            obtain ⟨a1, k1, hv1, _, _⟩ := hch.r1.slice
            obtain ⟨a2, k2, hv2, _, _⟩ := hch.r2.slice
            subst hv1
            subst hv2
            have c2' := hch.c2
            have c3' := hch.c3
            have z2 := hch.z 2
            have z3 := hch.z 3
            have HROWS := Lib.hid (HP6.out.rows kc c hcg)
            have hrs1 := HROWS.out.1
            have hrs2 := HROWS.out.2
            clear hch hcp2 hxc hcg hcp HC6
            by_cases h3 : xw = 3
            · subst h3
              have hrow := row_any (wr.alloc (.cells #[.int .i64 3, .int .i64 xc, .int .i64 xn] 132)) cb 3
              rw [if_pos rfl] at hrow
              have HROW := Lib.hid hrow
              have hclt : cb < (wr.alloc (.cells #[.int .i64 3, .int .i64 xc, .int .i64 xn] 132)).heap.size := block_lt_of_cell HCH.out.c0
              have hcb : ¬ (Value.slice a1 c.sends.length k1).ownBlock = some cb := fun e => by
                have h1 := HCH.out.p3 cb e
                rw [HCH.out.p0] at h1
                cases h1
              have HCLT := Lib.hid hclt
              have HNCB := Lib.hid hcb
              clear hrow hclt hcb
              go_wp2_with fail
              refine (channel_any HP6.out xc HM6.out).mono ?_
              rintro e w6 ⟨rfl, rfl⟩
              rw [HCP.out]
              go_wp2_with fail
              refine HROW.out.mono ?_
              rintro e w6 ⟨rfl, rfl⟩
              clear c1 c2 c3
              generalize wr.alloc (.cells #[.int .i64 3, .int .i64 xc, .int .i64 xn] 132) = w6 at *
              go_wp2_with (at_builtin; go_loud (refine wpList_appendW rfl _ _ rfl w6 _ c.sends task i HCH.out.r1 rfl rfl (by omega) ?_; intro a6 c6 w7 hO7 hK7 hN7; have HO7 := Lib.hid hO7; have HK7 := Lib.hid hK7; have HN7 := Lib.hid hN7; have y2 : w7.cell? ⟨cb, 2, none⟩ = some (Value.slice a1 c.sends.length k1) := hK7.cell_of c2' HNCB.out; have y3 : w7.frozen? ⟨cb, 2, none⟩ = false := (by rw [hK7.frozen (p := ⟨cb, 2, none⟩) HCLT.out HNCB.out]; exact z2); clear hO7 hK7 hN7))
              have HR7 : Hid (∀ g, (Value.slice a6 (c.sends.length + 1) c6).ownBlock = some g → roleFrom ρ' w6.heap.size w7.heap.size (.sends kc) g = .sends kc) := Lib.hid fun g hg => by
                rcases HN7.out g hg with h1 | h1
                · have h2 := HCH.out.p3 g h1
                  rw [roleFrom_old (HP6.out.dom g (by rw [h2]; simp))]; exact h2
                · exact roleFrom_new h1 (HO7.out.lt g hg)
              have HC7 := Lib.hid ((HCH.out.role (ρ' := roleFrom ρ' w6.heap.size w7.heap.size (.sends kc)) fun g hg => roleFrom_old hg).sends HK7.out HO7.out HR7.out)
              have HK8 : Hid (Keeps (fun g => (Value.slice a1 c.sends.length k1).ownBlock = some g ∨ g = cb) w6 (w7.setCell ⟨cb, 2, none⟩ (.slice a6 (c.sends.length + 1) c6))) := Lib.hid ((HK7.out.mono (S' := fun g => (Value.slice a1 c.sends.length k1).ownBlock = some g ∨ g = cb) fun _ _ e => Or.inl e).setCell (p := ⟨cb, 2, none⟩) (Or.inl (Or.inr rfl)) _)
              have HST : Hid (lay task s.chs (l.take (i + 1)) 0 = (lay task s.chs (l.take i) 0).set kc (c.lay task 3 i)) := Lib.hid ((lay_succ HX.out s.chs 0).trans (by rw [Nat.zero_add]; exact layAt_set HXC.out HCG.out))
              have HLAY : Hid (Ch.lay task 3 i c = { c with sends := c.sends ++ [(task, i)] }) := Lib.hid (by unfold Ch.lay; rw [if_pos rfl])
              have HJ7 : Hid (WaitJ w (w7.setCell ⟨cb, 2, none⟩ (.slice a6 (c.sends.length + 1) c6)) ρ pb vch ptr b (D.put (.int .i64 task) (.held u)) (N + 1) M ⟨s.chs, fun x => if x = task then some l else s.asks x⟩ task l (i + 1)) := Lib.hid (by
                refine ⟨⟨roleFrom ρ' w6.heap.size w7.heap.size (.sends kc), ?_, fun g hg => ?_⟩, HKA.out.trans' HK8.out fun g hg e => ?_⟩
                · have h1 := HP6.out.put (M' := M + (i + 1)) (ρ' := roleFrom ρ' w6.heap.size w7.heap.size (.sends kc)) HK8.out (fun g hg => roleFrom_old hg) (fun g hg => by
                    have := roleFrom_dom HP6.out.dom HK7.out.size g hg
                    simpa using this) kc (c' := c.lay task 3 i) (fun g e => Or.inr (by
                    rcases e with e | e
                    · rw [HCH.out.p3 g e]; rfl
                    · rw [e, HCH.out.p0]; rfl)) (fun cb' hcb' => by
                      rw [HCB.out] at hcb'
                      cases hcb'
                      have h9 := HC7.out
                      rw [HLAY.out]
                      exact ⟨_, _, _, _, h9⟩) (by
                      rw [HLAY.out]
                      have h6 := HROWS.out
                      constructor
                      · show (c.sends ++ [(task, i)]).length ≤ _; rw [List.length_append, List.length_singleton]; omega
                      · show c.recvs.length ≤ _; omega) (by omega)
                  simp only at h1 ⊢
                  rw [HST.out]; exact h1
                · rw [roleFrom_old (Nat.lt_of_lt_of_le hg HKA.out.size)]; exact HXR.out g hg
                · rw [← HXR.out g hg]
                  rcases e with e | e
                  · rw [HCH.out.p3 g e]; simp
                  · rw [e, HCH.out.p0]; simp)
              clear c2' c3' z2 z3 hrs1 hrs2
              go_wp2_with fail
              go_roundw
              case rel => exact ⟨i + 1, by omega, by go_num, HJ7.out⟩
              case measure => simp [intOf]; omega
            · have e3 : (xw == 3) = false := by rw [beq_eq_false_iff_ne]; exact h3
              have hrow := row_any (wr.alloc (.cells #[.int .i64 xw, .int .i64 xc, .int .i64 xn] 132)) cb xw
              rw [if_neg h3] at hrow
              have HROW := Lib.hid hrow
              have hclt : cb < (wr.alloc (.cells #[.int .i64 xw, .int .i64 xc, .int .i64 xn] 132)).heap.size := block_lt_of_cell HCH.out.c0
              have hcb : ¬ (Value.slice a2 c.recvs.length k2).ownBlock = some cb := fun e => by
                have h1 := HCH.out.p4 cb e
                rw [HCH.out.p0] at h1
                cases h1
              have HCLT := Lib.hid hclt
              have HNCB := Lib.hid hcb
              clear hrow hclt hcb
              go_wp2_with fail
              refine (channel_any HP6.out xc HM6.out).mono ?_
              rintro e w6 ⟨rfl, rfl⟩
              rw [HCP.out]
              go_wp2_with fail
              refine HROW.out.mono ?_
              rintro e w6 ⟨rfl, rfl⟩
              clear c1 c2 c3
              generalize wr.alloc (.cells #[.int .i64 xw, .int .i64 xc, .int .i64 xn] 132) = w6 at *
              go_wp2_with (at_builtin; go_loud (refine wpList_appendW rfl _ _ rfl w6 _ c.recvs task i HCH.out.r2 rfl rfl (by omega) ?_; intro a6 c6 w7 hO7 hK7 hN7; have HO7 := Lib.hid hO7; have HK7 := Lib.hid hK7; have HN7 := Lib.hid hN7; have y2 : w7.cell? ⟨cb, 3, none⟩ = some (Value.slice a2 c.recvs.length k2) := hK7.cell_of c3' HNCB.out; have y3 : w7.frozen? ⟨cb, 3, none⟩ = false := (by rw [hK7.frozen (p := ⟨cb, 3, none⟩) HCLT.out HNCB.out]; exact z3); clear hO7 hK7 hN7))
              have HR7 : Hid (∀ g, (Value.slice a6 (c.recvs.length + 1) c6).ownBlock = some g → roleFrom ρ' w6.heap.size w7.heap.size (.recvs kc) g = .recvs kc) := Lib.hid fun g hg => by
                rcases HN7.out g hg with h1 | h1
                · have h2 := HCH.out.p4 g h1
                  rw [roleFrom_old (HP6.out.dom g (by rw [h2]; simp))]; exact h2
                · exact roleFrom_new h1 (HO7.out.lt g hg)
              have HC7 := Lib.hid ((HCH.out.role (ρ' := roleFrom ρ' w6.heap.size w7.heap.size (.recvs kc)) fun g hg => roleFrom_old hg).recvs HK7.out HO7.out HR7.out)
              have HK8 : Hid (Keeps (fun g => (Value.slice a2 c.recvs.length k2).ownBlock = some g ∨ g = cb) w6 (w7.setCell ⟨cb, 3, none⟩ (.slice a6 (c.recvs.length + 1) c6))) := Lib.hid ((HK7.out.mono (S' := fun g => (Value.slice a2 c.recvs.length k2).ownBlock = some g ∨ g = cb) fun _ _ e => Or.inl e).setCell (p := ⟨cb, 3, none⟩) (Or.inl (Or.inr rfl)) _)
              have HST : Hid (lay task s.chs (l.take (i + 1)) 0 = (lay task s.chs (l.take i) 0).set kc (c.lay task xw i)) := Lib.hid ((lay_succ HX.out s.chs 0).trans (by rw [Nat.zero_add]; exact layAt_set HXC.out HCG.out))
              have HLAY : Hid (Ch.lay task xw i c = { c with recvs := c.recvs ++ [(task, i)] }) := Lib.hid (by unfold Ch.lay; rw [if_neg h3])
              have HJ7 : Hid (WaitJ w (w7.setCell ⟨cb, 3, none⟩ (.slice a6 (c.recvs.length + 1) c6)) ρ pb vch ptr b (D.put (.int .i64 task) (.held u)) (N + 1) M ⟨s.chs, fun x => if x = task then some l else s.asks x⟩ task l (i + 1)) := Lib.hid (by
                refine ⟨⟨roleFrom ρ' w6.heap.size w7.heap.size (.recvs kc), ?_, fun g hg => ?_⟩, HKA.out.trans' HK8.out fun g hg e => ?_⟩
                · have h1 := HP6.out.put (M' := M + (i + 1)) (ρ' := roleFrom ρ' w6.heap.size w7.heap.size (.recvs kc)) HK8.out (fun g hg => roleFrom_old hg) (fun g hg => by
                    have := roleFrom_dom HP6.out.dom HK7.out.size g hg
                    simpa using this) kc (c' := c.lay task xw i) (fun g e => Or.inr (by
                    rcases e with e | e
                    · rw [HCH.out.p4 g e]; rfl
                    · rw [e, HCH.out.p0]; rfl)) (fun cb' hcb' => by
                      rw [HCB.out] at hcb'
                      cases hcb'
                      have h9 := HC7.out
                      rw [HLAY.out]
                      exact ⟨_, _, _, _, h9⟩) (by
                      rw [HLAY.out]
                      have h6 := HROWS.out
                      constructor
                      · show c.sends.length ≤ _; omega
                      · show (c.recvs ++ [(task, i)]).length ≤ _; rw [List.length_append, List.length_singleton]; omega) (by omega)
                  simp only at h1 ⊢
                  rw [HST.out]; exact h1
                · rw [roleFrom_old (Nat.lt_of_lt_of_le hg HKA.out.size)]; exact HXR.out g hg
                · rw [← HXR.out g hg]
                  rcases e with e | e
                  · rw [HCH.out.p4 g e]; simp
                  · rw [e, HCH.out.p0]; simp)
              clear c2' c3' z2 z3 hrs1 hrs2
              go_wp2_with fail
              go_roundw
              case rel => exact ⟨i + 1, by omega, by go_num, HJ7.out⟩
              case measure => simp [intOf]; omega
        · obtain rfl : i = l.length := by omega
          have HE := HJ.out
          go_wp2_with fail
          go_end0
          obtain ⟨ρ', h1, h2⟩ := HE.at_
          rw [List.take_length] at h1
          refine ⟨rfl, ⟨ρ', _, _, h1.mono (Nat.le_refl _) (by omega), h2⟩, HE.keep⟩
theorem wait_any {w : World} {ρ : Nat → Role} {pb : Home} {vch : Value} {ptr : List Nat} {mb : Option Nat} {D : DataW Value} {N M : Nat} {s : St} (h : PipesAt w ρ pb vch ptr mb D N M s) (hN : N ≤ 1000000000) (hM : M ≤ 10000000) (task : Int) (hwf : (Lit.int .i64 task).wf = true) {v : Value} {l : List Tk}
    (hl : TalksAt w v l) (hvo : ∀ g, v.ownBlock = some g → ρ g = .free) (hg : ∀ x ∈ l, x.good s.chs.length) (h6 : l.length ≤ 6) :
    Calls Tryz.prog 139 #[.pointer (some ⟨pb.b, 8, none⟩), .int .i64 task, v] w fun e w' => (e = .returned (.tuple #[])) ∧ (∃ ρ' mb' D', PipesAt w' ρ' pb vch ptr mb' D' (N + 1) (M + 6) (Pp.wait s task l) ∧ ∀ g, g < w.heap.size → ρ' g = ρ g) ∧
      Keeps (fun b => ρ b ≠ .free) w w' :=
  wait_any0 h hN hM task hwf hl (fun _ => hvo) hg h6
end Go.Proofs.YtnjdmijcoadidaaGreatDoor
