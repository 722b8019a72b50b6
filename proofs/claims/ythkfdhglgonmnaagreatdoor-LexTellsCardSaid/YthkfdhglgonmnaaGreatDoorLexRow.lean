/-
  Tokens in memory, as a slice.
-/
import Derived.Test.YthkfdhglgonmnaaGreatDoorLexW9
namespace Go.Proofs.YthkfdhglgonmnaaGreatDoor
open Go.RowKit Lx

/-- Tokens that stand in memory, as a slice. -/
def RowT (w : World) (v : Value) (ts : List Tok) : Prop :=
  (v = .slice none 0 0 ∧ ts = []) ∨ ∃ g cap, v = .slice (some ⟨g, 0, none⟩) ts.length cap ∧ ts.length ≤ cap ∧ cap ≤ maxLen ∧ g < w.heap.size ∧
    ∀ i t, ts[i]? = some t → w.cell? ⟨g, i * 3, none⟩ = some (.int .i64 t.kind) ∧ w.cell? ⟨g, i * 3 + 1, none⟩ = some (.string (mkT t.text)) ∧ w.cell? ⟨g, i * 3 + 2, none⟩ = some (.int .i64 t.at_)
theorem rowT_own {w : World} {base : Nat} {v : Value} {ts : List Tok} (h : w.ownsRow base 35 3 v ts.length (cellsT ts)) : RowT w v ts := by
  rcases h.2 with ⟨rfl, h0⟩ | ⟨g, cap, cur, rfl, _, hg, h1, h2, _⟩
  · exact Or.inl ⟨rfl, List.eq_nil_of_length_eq_zero h0⟩
  · exact Or.inr ⟨g, cap, rfl, h1, h2, (Array.getElem?_eq_some_iff.1 hg).1, fun i t hi => own_cells h i t hi⟩
theorem RowT.below {w w' : World} {n : Nat} {v : Value} {ts : List Tok} (h : RowT w v ts) (hb : Below n w w') (hn : w.heap.size ≤ n) : RowT w' v ts := by
  rcases h with h | ⟨g, cap, h1, h2, h3, h4, h5⟩
  · exact Or.inl h
  · refine Or.inr ⟨g, cap, h1, h2, h3, Nat.lt_of_lt_of_le h4 hb.size, fun i t hi => ?_⟩
    rw [hb.cell (p := ⟨g, i * 3, none⟩) (Nat.lt_of_lt_of_le h4 hn), hb.cell (p := ⟨g, i * 3 + 1, none⟩) (Nat.lt_of_lt_of_le h4 hn), hb.cell (p := ⟨g, i * 3 + 2, none⟩) (Nat.lt_of_lt_of_le h4 hn)]
    exact h5 i t hi

end Go.Proofs.YthkfdhglgonmnaaGreatDoor
