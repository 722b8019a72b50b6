/-
  Package clock's queue in memory, and the walks of sooner, Len, Less.
-/
import Derived.Test.YtonpbbflloljgaaRows
import Derived.Test.YtonpbbflloljgaaHeapL
import Derived.Test.YtonpbbflloljgaaKeeps
import Derived.WalkKit
import Derived.WalkSpells
import Derived.WalkLawsBesides
import Derived.Lib.Hide
import Derived.IntWalk
import Derived.Deep.Draws
import Derived.Deep.QuietTactic
import Derived.BigQuiet
import Derived.StillTailTactics
import Derived.Maps.OwnOps
namespace Go.Proofs.Ytonpbbflloljgaa
open Go.RowKit Go.Maps

abbrev vE (e : Hp.E) : List Value := [.int .i64 e.1, .int .i64 e.2]
/-- The entries' cells. -/
def flatE (l : List Hp.E) : List Value := l.flatMap vE
theorem flatE_append (l m : List Hp.E) : flatE (l ++ m) = flatE l ++ flatE m := by unfold flatE; rw [List.flatMap_append]
theorem flatE_length (l : List Hp.E) : (flatE l).length = l.length * 2 := by
  induction l with
  | nil => rfl
  | cons e l ih => simp only [flatE, List.flatMap_cons, List.length_append] at ih ⊢; rw [ih]; simp; omega
theorem flatE_get (l : List Hp.E) (i : Nat) (h : i < l.length) : (flatE l)[i * 2]? = some (.int .i64 (Hp.g l i).1) ∧ (flatE l)[i * 2 + 1]? = some (.int .i64 (Hp.g l i).2) := by
  have e1 : flatE l = flatE (l.take i) ++ (vE l[i] ++ flatE (l.drop (i + 1))) := by
    conv => lhs; rw [← List.take_append_drop i l]
    rw [flatE_append, List.drop_eq_getElem_cons h]; rfl
  have e2 : (flatE (l.take i)).length = i * 2 := by rw [flatE_length, List.length_take]; omega
  rw [Hp.g_eq h, e1]
  constructor
  · rw [List.getElem?_append_right (by omega), e2, Nat.sub_self]; rfl
  · rw [List.getElem?_append_right (by omega), e2, Nat.add_sub_cancel_left]; rfl

/-- A queue behind its Clock's first field: its entries, its places, and what is less. -/
structure QAt (w : World) (cb : Nat) (v : Value) (mb : Nat) (l : List Hp.E) (D : DataW Unit) : Prop where
  c0 : w.cell? ⟨cb, 1, none⟩ = some v
  c1 : w.cell? ⟨cb, 2, none⟩ = some (.map (some mb))
  c2 : w.cell? ⟨cb, 3, none⟩ = some (.func (.func 19) #[] #[])
  z0 : w.frozen? ⟨cb, 1, none⟩ = false
  own : w.ownsRow 0 51 2 v l.length (flatE l)
  map : w.ownsMap Try.prog 3 (plainElem Try.prog 3) mb 1000000 D
  ne : v.ownBlock ≠ some cb
theorem QAt.lt {w : World} {cb mb : Nat} {v : Value} {l : List Hp.E} {D : DataW Unit} (h : QAt w cb v mb l D) : cb < w.heap.size := block_lt_of_cell h.c0
theorem QAt.nem {w : World} {cb mb : Nat} {v : Value} {l : List Hp.E} {D : DataW Unit} (h : QAt w cb v mb l D) : mb ≠ cb := fun e => by
  obtain ⟨es, ck, h1, _⟩ := h.map
  have := h.c0
  subst e
  simp [World.cell?, h1] at this
theorem QAt.nev {w : World} {cb mb : Nat} {v : Value} {l : List Hp.E} {D : DataW Unit} (h : QAt w cb v mb l D) : v.ownBlock ≠ some mb := fun e => by
  obtain ⟨es, ck, h1, _⟩ := h.map
  rcases h.own.2 with ⟨rfl, _⟩ | ⟨g, cap, cur, rfl, _, h2, _⟩
  · cases e
  · cases e
    rw [h1] at h2
    cases h2
/-- Its blocks. -/
def QF (cb mb : Nat) (v : Value) (b : Nat) : Prop := b = cb ∨ b = mb ∨ v.ownBlock = some b
theorem QAt.keeps {S : Nat → Prop} {w w' : World} {cb mb : Nat} {v : Value} {l : List Hp.E} {D : DataW Unit} (h : QAt w cb v mb l D) (k : Keeps S w w') (hs : ∀ b, QF cb mb v b → ¬ S b) : QAt w' cb v mb l D :=
  ⟨k.cell_of h.c0 (hs _ (Or.inl rfl)), k.cell_of h.c1 (hs _ (Or.inl rfl)), k.cell_of h.c2 (hs _ (Or.inl rfl)), by rw [k.frozen h.lt (hs _ (Or.inl rfl))]; exact h.z0,
    k.row h.own (fun b e => hs b (Or.inr (Or.inr e))), k.map h.map (hs _ (Or.inr (Or.inl rfl))), h.ne⟩
theorem QAt.next {w w' : World} {cb mb : Nat} {v : Value} {l : List Hp.E} {D : DataW Unit} (h : QAt w cb v mb l D) (hb : Below w.heap.size w w') : QAt w' cb v mb l D :=
  h.keeps (S := fun _ => False) (Keeps.of_new hb) (fun _ _ e => e)
theorem QAt.drewN {w : World} {cb mb : Nat} {v : Value} {l : List Hp.E} {D : DataW Unit} (h : QAt w cb v mb l D) (n : Nat) : QAt (w.drewN n) cb v mb l D := ⟨h.c0, h.c1, h.c2, h.z0, h.own, h.map, h.ne⟩
/-- The entries' slice, and its cells. -/
theorem QAt.slice {w : World} {cb mb : Nat} {v : Value} {l : List Hp.E} {D : DataW Unit} (h : QAt w cb v mb l D) : ∃ ao cap, v = .slice ao l.length cap ∧ (0 < l.length → ∃ eb, ao = some ⟨eb, 0, none⟩) := by
  rcases h.own.2 with ⟨rfl, h0⟩ | ⟨g, cap, cur, rfl, _⟩
  · exact ⟨none, 0, by rw [h0], fun hl => by omega⟩
  · exact ⟨_, _, rfl, fun _ => ⟨_, rfl⟩⟩
theorem QAt.cells {w : World} {cb mb eb n cap : Nat} {l : List Hp.E} {D : DataW Unit} (h : QAt w cb (.slice (some ⟨eb, 0, none⟩) n cap) mb l D) (i : Nat) (hi : i < l.length) :
    w.cell? ⟨eb, i * 2, none⟩ = some (.int .i64 (Hp.g l i).1) ∧ w.cell? ⟨eb, i * 2 + 1, none⟩ = some (.int .i64 (Hp.g l i).2) := by
  obtain ⟨h1, h2⟩ := flatE_get l i hi
  have ha : ∀ j, (⟨eb, 0, none⟩ : Addr).add j = ⟨eb, j, none⟩ := fun j => by unfold Addr.add; split <;> simp_all
  have k1 := World.ownsRow.cells h.own (g := eb) rfl _ _ h1
  have k2 := World.ownsRow.cells h.own (g := eb) rfl _ _ h2
  rw [ha] at k1 k2
  exact ⟨k1, k2⟩
theorem QAt.free {w : World} {cb mb eb n cap : Nat} {l : List Hp.E} {D : DataW Unit} (h : QAt w cb (.slice (some ⟨eb, 0, none⟩) n cap) mb l D) (j : Nat) : w.frozen? ⟨eb, j, none⟩ = false := by
  rcases h.own.2 with ⟨h0, _⟩ | ⟨g, cap', cur, e, _, h2, _⟩
  · cases h0
  · cases e
    simp [World.frozen?, h2]

/-- A queue's blocks alone may turn; the Clock's own time doesn't. -/
structure KQ (cb mb : Nat) (v : Value) (w w' : World) : Prop where
  k : Keeps (QF cb mb v) w w'
  n : w'.cell? ⟨cb, 0, none⟩ = w.cell? ⟨cb, 0, none⟩
  z : w'.frozen? ⟨cb, 0, none⟩ = w.frozen? ⟨cb, 0, none⟩
theorem KQ.refl (cb mb : Nat) (v : Value) (w : World) : KQ cb mb v w w := ⟨Keeps.refl _ _, rfl, rfl⟩
theorem KQ.trans {cb mb : Nat} {v : Value} {a b c : World} (h : KQ cb mb v a b) (k : KQ cb mb v b c) : KQ cb mb v a c := ⟨h.k.trans k.k, k.n.trans h.n, k.z.trans h.z⟩
theorem KQ.new {cb mb : Nat} {v : Value} {w w' : World} (hlt : cb < w.heap.size) (hb : Below w.heap.size w w') : KQ cb mb v w w' := ⟨Keeps.of_new hb, hb.cell (p := ⟨cb, 0, none⟩) hlt, hb.frozen (p := ⟨cb, 0, none⟩) hlt⟩
theorem KQ.rows {cb mb : Nat} {v : Value} {w w' : World} (h : Keeps (fun b => b = mb ∨ v.ownBlock = some b) w w') (hlt : cb < w.heap.size) (hm : mb ≠ cb) (hv : v.ownBlock ≠ some cb) : KQ cb mb v w w' :=
  ⟨h.mono fun _ _ e => Or.inr e, h.cell (p := ⟨cb, 0, none⟩) hlt (fun e => e.elim (fun e => hm e.symm) hv), h.frozen (p := ⟨cb, 0, none⟩) hlt (fun e => e.elim (fun e => hm e.symm) hv)⟩
theorem KQ.set1 {cb mb : Nat} {v : Value} {w w' : World} (h : KQ cb mb v w w') (u : Value) : KQ cb mb v w (w'.setCell ⟨cb, 1, none⟩ u) :=
  ⟨h.k.setCell (p := ⟨cb, 1, none⟩) (Or.inl (Or.inl rfl)) u, by rw [World.cell?_setCell_other _ _ _ _ (by intro e; injection e with _ e; omega)]; exact h.n, by rw [World.frozen?_setCell]; exact h.z⟩
theorem KQ.alloc {cb mb : Nat} {v : Value} {w w' : World} (h : KQ cb mb v w w') (hlt : cb < w'.heap.size) (o : Obj) : KQ cb mb v w (w'.alloc o) :=
  h.trans (KQ.new hlt ((Below.refl _ _).alloc (Nat.le_refl _) o))

set_option maxRecDepth 100000 in
set_option maxHeartbeats 1600000 in
theorem sooner_any (a b : Hp.E) (w : World) :
    Calls Try.prog 19 #[.agg #[.int .i64 a.1, .int .i64 a.2], .agg #[.int .i64 b.1, .int .i64 b.2]] w fun e w' => e = .returned (.bool (decide (Hp.lt a b))) ∧ Below w.heap.size w w' := by
  obtain ⟨a1, a2⟩ := a
  obtain ⟨b1, b2⟩ := b
  have hb : Below w.heap.size w ((w.alloc (.cells #[.int .i64 a1, .int .i64 a2] 51)).alloc (.cells #[.int .i64 b1, .int .i64 b2] 51)) := ((Below.refl _ _).alloc (Nat.le_refl _) _).alloc (by simp) _
  by_cases h : a1 = b1
  · subst h
    have hd : decide (Hp.lt (a1, a2) (a1, b2)) = decide (a2 < b2) := by rw [Bool.eq_iff_iff, decide_eq_true_eq, decide_eq_true_eq]; unfold Hp.lt; simp
    rw [hd]
    clear hd
    go_enter Try.func19, Try.ntmps19
    go_wp2_with fail
    go_ret
    exact ⟨rfl, hb⟩
  · have hd : decide (Hp.lt (a1, a2) (b1, b2)) = decide (a1 < b1) := by rw [Bool.eq_iff_iff, decide_eq_true_eq, decide_eq_true_eq]; unfold Hp.lt; simp [h]
    have hne : (a1 != b1) = true := by rw [bne_iff_ne]; exact h
    rw [hd]
    clear hd
    go_enter Try.func19, Try.ntmps19
    go_wp2_with fail
    go_ret
    exact ⟨rfl, hb⟩

set_option maxRecDepth 100000 in
set_option maxHeartbeats 1600000 in
theorem qlen_of (w : World) (cb : Nat) (ao : Option Addr) (n cap : Nat) (h : w.cell? ⟨cb, 1, none⟩ = some (.slice ao n cap)) :
    Calls Try.prog 23 #[.pointer (some ⟨cb, 1, none⟩)] w fun e w' => e = .returned (.int .i64 n) ∧ w = w' := by
  go_enter Try.func23, Try.ntmps23
  go_wp2_with fail
  go_ret
  exact ⟨rfl, rfl⟩

set_option maxRecDepth 100000 in
set_option maxHeartbeats 1600000 in
theorem less_any {cb mb : Nat} {v : Value} {l : List Hp.E} {D : DataW Unit} (w : World) (h : QAt w cb v mb l D) (i j : Nat) (hi : i < l.length) (hj : j < l.length) :
    Calls Try.prog 60 #[.pointer (some ⟨cb, 1, none⟩), .int .i64 i, .int .i64 j] w fun e w' => e = .returned (.bool (decide (Hp.lt (Hp.g l i) (Hp.g l j)))) ∧ Below w.heap.size w w' := by
  obtain ⟨ao, cap, rfl, hao⟩ := h.slice
  obtain ⟨eb, rfl⟩ := hao (by omega)
  have c0 := h.c0
  have c2 := h.c2
  obtain ⟨p1, p2⟩ := h.cells i hi
  obtain ⟨q1, q2⟩ := h.cells j hj
  have hii : (0 : Int) ≤ (i : Int) ∧ (i : Int) < (l.length : Int) := by omega
  have hjj : (0 : Int) ≤ (j : Int) ∧ (j : Int) < (l.length : Int) := by omega
  clear h hao
  have HSO : Hid (∀ W : World, Calls Try.prog 19 #[.agg #[.int .i64 (Hp.g l i).1, .int .i64 (Hp.g l i).2], .agg #[.int .i64 (Hp.g l j).1, .int .i64 (Hp.g l j).2]] W fun e w' => e = .returned (.bool (decide (Hp.lt (Hp.g l i) (Hp.g l j)))) ∧ Below W.heap.size W w') := Lib.hid fun W => sooner_any _ _ W
  generalize decide (Hp.lt (Hp.g l i) (Hp.g l j)) = d at *
  generalize Hp.g l i = a at *
  generalize Hp.g l j = b at *
  obtain ⟨a1, a2⟩ := a
  obtain ⟨b1, b2⟩ := b
  go_enter Try.func60, Try.ntmps60
  go_wp2_with fail
  go_still_tail 18, (by kernel_rfl)
  change wpList _ _ _ _ _ w.drew
  go_wp2_with fail
  refine (HSO.out _).mono ?_
  rintro e w' ⟨rfl, hb⟩
  go_wp2_with fail
  go_ret
  exact ⟨rfl, ⟨hb.os, hb.tape, hb.output, hb.size, hb.block⟩⟩
end Go.Proofs.Ytonpbbflloljgaa
