/-
  The walk of slices.DeleteFunc at a row of those that wait: one task stands there no more.
-/
import Derived.Test.YtpehmghnfbkaaaaDoorPipeAt
import Derived.Lib.BufferMore
import Derived.Lib.SliceRun
import Derived.RegionTactic
import Derived.StillTailTactics
namespace Go.Proofs.YtpehmghnfbkaaaaDoor
open Go.RowKit Go.Maps Pp

theorem own_setG {w : World} {base g n cap off size : Nat} {e : TypeId} {xs : List Value} (h : w.ownsRow base e size (.slice (some ⟨g, 0, none⟩) n cap) n xs) (u : Value) :
    (w.setCell ⟨g, off, none⟩ u).ownsRow base e size (.slice (some ⟨g, 0, none⟩) n cap) n (xs.set off u) := by
  refine ⟨by rw [List.length_set]; exact h.1, ?_⟩
  rcases h.2 with ⟨q, _⟩ | ⟨g', cap', cur, q, hb, hg, h1, h2, h3, h4⟩
  · cases q
  · cases q
    refine Or.inr ⟨g, cap, cur.setIfInBounds off u, rfl, hb, Go.Lib.heap_setCell_same hg u, h1, h2, by simpa using h3, ?_⟩
    rw [Array.toList_setIfInBounds, List.take_set, h4]
theorem own_setCells {base g n cap size : Nat} {e : TypeId} {xs : List Value} : ∀ (vs : List Value) (o : Nat) {w : World}, w.ownsRow base e size (.slice (some ⟨g, 0, none⟩) n cap) n xs → xs.length ≤ o →
    (w.setCells g o vs).ownsRow base e size (.slice (some ⟨g, 0, none⟩) n cap) n xs
  | [], _, _, h, _ => h
  | v :: vs, o, w, h, ho => own_setCells vs (o + 1) (w := w.setCell ⟨g, o, none⟩ v) (by
      have := own_setG (off := o) h v
      rwa [List.set_eq_of_length_le ho] at this) (by omega)
theorem own_cut {w : World} {base g n cap size i : Nat} {e : TypeId} {xs : List Value} (h : w.ownsRow base e size (.slice (some ⟨g, 0, none⟩) n cap) n xs) (hi : i ≤ n) :
    w.ownsRow base e size (.slice (some ⟨g, 0, none⟩) i cap) i (xs.take (i * size)) := by
  have hm : i * size ≤ n * size := Nat.mul_le_mul_right _ hi
  refine ⟨by rw [List.length_take, h.1]; omega, ?_⟩
  rcases h.2 with ⟨q, _⟩ | ⟨g', cap', cur, q, hb, hg, h1, h2, h3, h4⟩
  · cases q
  · cases q
    exact Or.inr ⟨g, cap, cur, rfl, hb, hg, by omega, h2, h3, by rw [← h4, List.take_take, Nat.min_eq_left hm]⟩
theorem keeps_setCellsG (b : Nat) : ∀ (vs : List Value) (o : Nat) (w : World), Keeps (fun k => k = b) w (w.setCells b o vs)
  | [], _, w => Keeps.refl _ w
  | v :: r, o, w => ((Keeps.refl (fun k => k = b) w).setCell (p := ⟨b, o, none⟩) (Or.inl rfl) v).trans (keeps_setCellsG b r (o + 1) _)
theorem cellsW_set : ∀ (r : List (Int × Nat)) (i : Nat) (x : Int × Nat), i < r.length → ((cellsW r).set (i * 2) (.int .i64 x.1)).set (i * 2 + 1) (.int .i64 (x.2 : Int)) = cellsW (r.set i x) := by
  intro r
  induction r with
  | nil => intro i x h; cases h
  | cons p r ih =>
    intro i x h
    have e : ∀ (q : Int × Nat) l, cellsW (q :: l) = .int .i64 q.1 :: .int .i64 (q.2 : Int) :: cellsW l := fun _ _ => rfl
    cases i with
    | zero => rfl
    | succ i =>
      rw [e, List.set_cons_succ, e, show (i + 1) * 2 = i * 2 + 1 + 1 by omega, List.set_cons_succ, List.set_cons_succ, List.set_cons_succ, show i * 2 + 2 = (i * 2 + 1) + 1 by omega, List.set_cons_succ, ih i x (by simpa using h)]
theorem cellsW_take : ∀ (r : List (Int × Nat)) (i : Nat), (cellsW r).take (i * 2) = cellsW (r.take i) := by
  intro r
  induction r with
  | nil => intro i; simp [cellsW]
  | cons p r ih =>
    intro i
    have e : ∀ (q : Int × Nat) l, cellsW (q :: l) = .int .i64 q.1 :: .int .i64 (q.2 : Int) :: cellsW l := fun _ _ => rfl
    cases i with
    | zero => rfl
    | succ i => rw [e, show (i + 1) * 2 = i * 2 + 1 + 1 by omega, List.take_succ_cons, List.take_succ_cons, ih, List.take_succ_cons, e]
theorem cellsW_get : ∀ (r : List (Int × Nat)) (i : Nat) (x : Int × Nat), r[i]? = some x → (cellsW r)[i * 2]? = some (.int .i64 x.1) ∧ (cellsW r)[i * 2 + 1]? = some (.int .i64 (x.2 : Int)) := by
  intro r
  induction r with
  | nil => intro i x h; cases h
  | cons p r ih =>
    intro i x h
    have e : ∀ (q : Int × Nat) l, cellsW (q :: l) = .int .i64 q.1 :: .int .i64 (q.2 : Int) :: cellsW l := fun _ _ => rfl
    cases i with
    | zero => cases h; exact ⟨rfl, rfl⟩
    | succ i =>
      have := ih i x (by simpa using h)
      rw [e, show (i + 1) * 2 = i * 2 + 1 + 1 by omega, List.getElem?_cons_succ, List.getElem?_cons_succ, List.getElem?_cons_succ, show i * 2 + 2 = (i * 2 + 1) + 1 by omega, List.getElem?_cons_succ]
      exact this
/-- What lies in a row's cells. -/
theorem RowW.cell {w : World} {g n cap : Nat} {r : List (Int × Nat)} (h : RowW w (.slice (some ⟨g, 0, none⟩) n cap) r) {i : Nat} {x : Int × Nat} (hx : r[i]? = some x) :
    w.cell? ⟨g, i * 2, none⟩ = some (.int .i64 x.1) ∧ w.cell? ⟨g, i * 2 + 1, none⟩ = some (.int .i64 (x.2 : Int)) := by
  obtain ⟨h1, h2⟩ := cellsW_get r i x hx
  have ha : ∀ j, (⟨g, 0, none⟩ : Addr).add j = ⟨g, j, none⟩ := fun j => by unfold Addr.add; split <;> simp_all
  have e1 := World.ownsRow.cells h (g := g) rfl _ _ h1
  have e2 := World.ownsRow.cells h (g := g) rfl _ _ h2
  rw [ha] at e1 e2
  exact ⟨e1, e2⟩
theorem RowW.addr {w : World} {ao : Option Addr} {n cap : Nat} {r : List (Int × Nat)} (h : RowW w (.slice ao n cap) r) (hn : 0 < r.length) : ∃ g, ao = some ⟨g, 0, none⟩ ∧ n = r.length ∧ n ≤ cap ∧ cap ≤ maxLen ∧ g < w.heap.size ∧ ∀ j, w.frozen? ⟨g, j, none⟩ = false := by
  rcases h.2 with ⟨q, q2⟩ | ⟨g, cap', cur, q, hb, hg, h1, h2, _, _⟩
  · omega
  · injection q with q1 q2 q3
    subst q3
    exact ⟨g, q1, q2, by omega, h2, (Array.getElem?_eq_some_iff.1 hg).1, fun j => frozen_of_row _ _ _ _ _ hg⟩
theorem RowW.set {w : World} {g n cap i : Nat} {r : List (Int × Nat)} (h : RowW w (.slice (some ⟨g, 0, none⟩) n cap) r) (hn : n = r.length) (hi : i < r.length) (x : Int × Nat) :
    RowW ((w.setCell ⟨g, i * 2, none⟩ (.int .i64 x.1)).setCell ⟨g, i * 2 + 1, none⟩ (.int .i64 (x.2 : Int))) (.slice (some ⟨g, 0, none⟩) n cap) (r.set i x) := by
  subst hn
  unfold RowW at *
  have := own_setG (off := i * 2 + 1) (own_setG (off := i * 2) h (.int .i64 x.1)) (.int .i64 (x.2 : Int))
  rw [cellsW_set _ _ _ hi] at this
  rwa [List.length_set]
theorem RowW.cut {w : World} {g n cap i : Nat} {r : List (Int × Nat)} (h : RowW w (.slice (some ⟨g, 0, none⟩) n cap) r) (hn : n = r.length) (hi : i ≤ r.length) : RowW w (.slice (some ⟨g, 0, none⟩) i cap) (r.take i) := by
  subst hn
  unfold RowW at *
  have := own_cut (i := i) h hi
  rw [cellsW_take] at this
  rwa [List.length_take, Nat.min_eq_left hi]

set_option maxRecDepth 100000 in
set_option maxHeartbeats 1600000 in
theorem del_any (t : Int) (k : Int) (task : Int) (bx : Nat) (W : World) (hb : W.cell? ⟨bx, 0, none⟩ = some (.int .i64 task)) :
    Calls Tryd.prog 52 #[.agg #[.int .i64 t, .int .i64 k], .pointer (some ⟨bx, 0, none⟩)] W fun e w' => e = .returned (.bool (decide (t = task))) ∧ Below W.heap.size W w' := by
  have hlt := block_lt_of_cell hb
  have hb2 : (W.alloc (.cells #[.int .i64 t, .int .i64 k] 90)).cell? ⟨bx, 0, none⟩ = some (.int .i64 task) := by rw [World.cell?_alloc_past _ _ _ hlt]; exact hb
  go_enter Tryd.func52, Tryd.ntmps52
  go_wp2_with fail
  go_ret
  refine ⟨?_, (Below.refl _ W).alloc (Nat.le_refl _) _⟩
  rfl
end Go.Proofs.YtpehmghnfbkaaaaDoor
