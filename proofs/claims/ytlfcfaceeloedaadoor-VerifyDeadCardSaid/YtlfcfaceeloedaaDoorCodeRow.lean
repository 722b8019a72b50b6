/-
  Rows of instructions and of numbers of the call's own. Of chapter 14.
-/
import Derived.Test.YtlfcfaceeloedaaDoorCodeAt
import Derived.Test.YtlfcfaceeloedaaDoorStepA
namespace Go.Proofs.YtlfcfaceeloedaaDoor
open Go.RowKit Cd

theorem info_ins : (Tryd.prog.info? 37).map (fun i => (i.zero, i.size, i.bytes)) = some (some (.agg #[.int .i64 0, .int .i64 0]), 2, 16) := by kernel_rfl
def cellsL (l : List Int) : List Value := l.map (Value.int .i64)
def cellsN (l : List In) : List Value := l.flatMap fun i => [.int .i64 i.1, .int .i64 i.2]
theorem cellsN_snoc (l : List In) (i : In) : cellsN l ++ [.int .i64 i.1, .int .i64 i.2] = cellsN (l ++ [i]) := by simp [cellsN]
theorem cellsL_snoc (l : List Int) (i : Int) : cellsL l ++ [.int .i64 i] = cellsL (l ++ [i]) := by simp [cellsL]
theorem cellsN_length (l : List In) : (cellsN l).length = l.length * 2 := by
  induction l with
  | nil => rfl
  | cons p ps ih => simp only [cellsN, List.flatMap_cons, List.length_append, List.length_cons, List.length_nil] at ih ⊢; omega
theorem cellsN_get : ∀ (l : List In) (i : Nat) (x : In), l[i]? = some x → (cellsN l)[i * 2]? = some (.int .i64 x.1) ∧ (cellsN l)[i * 2 + 1]? = some (.int .i64 x.2)
  | [], _, _, h => by cases h
  | y :: l, 0, x, h => by cases h; exact ⟨rfl, rfl⟩
  | y :: l, i + 1, x, h => by
    have := cellsN_get l i x (by simpa using h)
    have e : cellsN (y :: l) = .int .i64 y.1 :: .int .i64 y.2 :: cellsN l := rfl
    rw [e]
    refine ⟨?_, ?_⟩
    · rw [show (i + 1) * 2 = i * 2 + 1 + 1 by omega]; simpa using this.1
    · rw [show (i + 1) * 2 + 1 = i * 2 + 1 + 1 + 1 by omega]; simpa using this.2
theorem addr0 (g j : Nat) : (⟨g, 0, none⟩ : Addr).add j = ⟨g, j, none⟩ := by unfold Addr.add; split <;> simp_all
theorem own_ints {w : World} {B n : Nat} {v : Value} {l : List Int} (h : w.ownsRow B 3 1 v n (cellsL l)) : IntsAt w v l := by
  have hl : l.length = n := by simpa [cellsL] using h.1
  subst hl
  exact OwnI.ints (B := B) h
theorem own_ins {w : World} {B n : Nat} {v : Value} {l : List In} (h : w.ownsRow B 37 2 v n (cellsN l)) : InsAt w v l := by
  have hl : l.length = n := by have := h.1; rw [cellsN_length] at this; omega
  have hc := h
  rcases h.2 with ⟨rfl, h0⟩ | ⟨g, cap, cur, rfl, hb, hg, h3, h4, h5, h6⟩
  · obtain rfl : l = [] := List.eq_nil_of_length_eq_zero (by omega)
    exact insAt_nil w
  · refine ⟨_, _, _, rfl, hl.symm, h3, h4, fun _ => ⟨g, 0, rfl, (Array.getElem?_eq_some_iff.1 hg).1, fun i x hi => ?_⟩⟩
    obtain ⟨e1, e2⟩ := cellsN_get l i x hi
    have f1 := World.ownsRow.cells hc (g := g) rfl _ _ e1
    have f2 := World.ownsRow.cells hc (g := g) rfl _ _ e2
    rw [addr0] at f1 f2
    rw [Nat.zero_add]
    exact ⟨f1, f2⟩
theorem own_mono {w : World} {B B' n size : Nat} {e : TypeId} {v : Value} {xs : List Value} (h : w.ownsRow B e size v n xs) (hB : B' ≤ B) : w.ownsRow B' e size v n xs :=
  ⟨h.1, h.2.imp id fun ⟨g, c, cur, e1, e2, e3⟩ => ⟨g, c, cur, e1, Nat.le_trans hB e2, e3⟩⟩

theorem bel_next {w a b : World} (h : Below w.heap.size w a) (k : Below a.heap.size a b) : Below w.heap.size w b := h.trans (k.mono h.size)
end Go.Proofs.YtlfcfaceeloedaaDoor
