/-
  What Lex's answer tells: its error, by api.Tell; the cell that MaxLen lies in.
-/
import Derived.Test.YthkfdhglgonmnaaGreatDoorLexOwn
import Derived.Test.YthkfdhglgonmnaaGreatDoorTellAt
namespace Go.Proofs.YthkfdhglgonmnaaGreatDoor
open Go.RowKit Lx

/-- api.Tell tells k of this error, from a world on. -/
def Tells (W : World) (x : Value) (k : Nat) : Prop := ∀ W', Below W.heap.size W W' → ErrT W' → Calls Tryz.prog 24 #[x] W' fun e w' => e = .returned (.int .i64 k) ∧ Below W'.heap.size W' w'
theorem tells_nil (W : World) : Tells W .nilIface 0 := fun W' _ _ => (tell_nil W').mono fun _ _ ⟨h1, h2⟩ => ⟨h1, h2 ▸ Below.refl _ _⟩
theorem tells_errno (W : World) (k : Nat) : Tells W (.iface 24 (.int .i64 k)) k := fun W' _ hE => tell_errno k W' hE
theorem tells_at {W : World} {cb r a : Nat} {x : Value} (h : AtErr W cb x r a) : Tells W x r := by
  obtain ⟨b, rfl, _, h0, _⟩ := h
  intro W' hb hE
  exact tell_at r b W' hE (by rw [hb.cell (p := ⟨b, 0, none⟩) (block_lt_of_cell h0)]; exact h0)
theorem Tells.below {W W' : World} {x : Value} {k : Nat} (h : Tells W x k) (hb : Below W.heap.size W W') : Tells W' x k := fun W2 h2 hE => h W2 (hb.trans (h2.mono hb.size)) hE

/-- What Lex's answer comes to, for what the law asks. -/
theorem lex_parts {w w' : World} {s : ByteArray} {e : Ending} (h : LexSays w w' s e) : ∃ v x, e = .returned (.tuple #[v, x]) ∧
    ((4000 < s.size ∧ v = .slice none 0 0 ∧ Tells w' x 4) ∨ (¬ 4000 < s.size ∧ ∃ ts, lx s.data.toList 0 false = (ts, none) ∧ Tells w' x 0 ∧ w'.ownsRow (w.heap.size + 1) 35 3 v ts.length (cellsT ts)) ∨
     (¬ 4000 < s.size ∧ ∃ ts r a, lx s.data.toList 0 false = (ts, some (r, a)) ∧ v = .slice none 0 0 ∧ Tells w' x r)) := by
  unfold LexSays at h
  by_cases hs : 4000 < s.size
  · rw [if_pos hs] at h
    exact ⟨_, _, h, Or.inl ⟨hs, rfl, tells_errno w' 4⟩⟩
  · rw [if_neg hs] at h
    cases hl : lx s.data.toList 0 false with
    | mk ts er =>
      rw [hl] at h
      cases er with
      | none =>
        obtain ⟨v, he, ho⟩ := h
        exact ⟨v, _, he, Or.inr (Or.inl ⟨hs, ts, rfl, tells_nil w', ho⟩)⟩
      | some p =>
        obtain ⟨r, a⟩ := p
        obtain ⟨x, he, hx⟩ := h
        exact ⟨_, x, he, Or.inr (Or.inr ⟨hs, ts, r, a, rfl, rfl, tells_at hx⟩)⟩

/-- What internal/bytealg.MaxLen holds: some int. -/
def MaxL (w : World) : Prop := ∃ m, w.cell? ⟨6, 0, none⟩ = some (.int .i64 m)
theorem MaxL.below {w w' : World} (h : MaxL w) (hb : Below w.heap.size w w') : MaxL w' := by
  obtain ⟨m, hm⟩ := h
  exact ⟨m, by rw [hb.cell (p := ⟨6, 0, none⟩) (block_lt_of_cell hm)]; exact hm⟩
end Go.Proofs.YthkfdhglgonmnaaGreatDoor
