/-
  A call's own row of tokens: a text, a place written anew.
-/
import Derived.Test.YthkfdhglgonmnaaGreatDoorLexRow
import Derived.Lib.BufferMore
namespace Go.Proofs.YthkfdhglgonmnaaGreatDoor
open Go.RowKit Lx

theorem cellsT_cons (p : Tok) (ps : List Tok) : cellsT (p :: ps) = .int .i64 p.kind :: .string (mkT p.text) :: .int .i64 p.at_ :: cellsT ps := rfl
theorem cellsT_append (a b : List Tok) : cellsT (a ++ b) = cellsT a ++ cellsT b := by simp [cellsT]
theorem cellsT_text : ∀ (ts : List Tok) (i : Nat) (t : Tok) (l : B), ts[i]? = some t → (cellsT ts).set (i * 3 + 1) (.string (mkT l)) = cellsT (ts.set i ⟨t.kind, l, t.at_⟩) := by
  intro ts
  induction ts with
  | nil => intro i t l h; cases h
  | cons p ps ih =>
    intro i t l h
    cases i with
    | zero => cases h; rfl
    | succ i =>
      have := ih i t l (by simpa using h)
      rw [List.set_cons_succ, cellsT_cons, cellsT_cons, show (i + 1) * 3 + 1 = (i * 3 + 1) + 1 + 1 + 1 by omega, List.set_cons_succ, List.set_cons_succ, List.set_cons_succ, this]
theorem cellsT_place : ∀ (ts : List Tok) (i : Nat) (t : Tok) (a : Nat), ts[i]? = some t → (cellsT ts).set (i * 3 + 2) (.int .i64 (a : Int)) = cellsT (ts.set i ⟨t.kind, t.text, a⟩) := by
  intro ts
  induction ts with
  | nil => intro i t l h; cases h
  | cons p ps ih =>
    intro i t l h
    cases i with
    | zero => cases h; rfl
    | succ i =>
      have := ih i t l (by simpa using h)
      rw [List.set_cons_succ, cellsT_cons, cellsT_cons, show (i + 1) * 3 + 2 = (i * 3 + 2) + 1 + 1 + 1 by omega, List.set_cons_succ, List.set_cons_succ, List.set_cons_succ, this]

theorem own_set {w : World} {base g n cap off : Nat} {e : TypeId} {xs : List Value} (h : w.ownsRow base e 3 (.slice (some ⟨g, 0, none⟩) n cap) n xs) (u : Value) :
    (w.setCell ⟨g, off, none⟩ u).ownsRow base e 3 (.slice (some ⟨g, 0, none⟩) n cap) n (xs.set off u) := by
  refine ⟨by rw [List.length_set]; exact h.1, ?_⟩
  rcases h.2 with ⟨q, _⟩ | ⟨g', cap', cur, q, hb, hg, h1, h2, h3, h4⟩
  · cases q
  · cases q
    refine Or.inr ⟨g, cap, cur.setIfInBounds off u, rfl, hb, Go.Lib.heap_setCell_same hg u, h1, h2, by simpa using h3, ?_⟩
    rw [Array.toList_setIfInBounds, List.take_set, h4]
/-- Where a row that is not empty lies; it may be written. -/
theorem own_form {w : World} {base n cap : Nat} {ao : Option Addr} {ts : List Tok} (h : w.ownsRow base 35 3 (.slice ao n cap) n (cellsT ts)) (hn : 0 < n) :
    ∃ g, ao = some ⟨g, 0, none⟩ ∧ base ≤ g ∧ g < w.heap.size ∧ n ≤ cap ∧ cap ≤ maxLen ∧ ∀ j, w.frozen? ⟨g, j, none⟩ = false := by
  rcases h.2 with ⟨q, _⟩ | ⟨g, cap', cur, q, hb, hg, h1, h2, _, _⟩
  · injection q with q1 q2; omega
  · injection q with q1 q2 q3
    subst q3
    exact ⟨g, q1, hb, (Array.getElem?_eq_some_iff.1 hg).1, h1, h2, fun j => frozen_of_row _ _ _ _ _ hg⟩
theorem own_slice {w : World} {base n : Nat} {v : Value} {xs : List Value} {e : TypeId} (h : w.ownsRow base e 3 v n xs) : ∃ ao cap, v = .slice ao n cap ∧ n ≤ cap ∧ cap ≤ maxLen := by
  rcases h.2 with ⟨rfl, rfl⟩ | ⟨g, cap, cur, rfl, _, _, h1, h2, _⟩
  · exact ⟨_, _, rfl, Nat.le_refl _, Nat.zero_le _⟩
  · exact ⟨_, _, rfl, h1, h2⟩
end Go.Proofs.YthkfdhglgonmnaaGreatDoor
