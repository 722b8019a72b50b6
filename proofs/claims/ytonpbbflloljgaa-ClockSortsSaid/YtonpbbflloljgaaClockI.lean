/-
  A clock's ids; which blocks it may grow by.
-/
import Derived.Test.YtonpbbflloljgaaClockW
import Derived.Laws.EntriesVeiled
namespace Go.Proofs.Ytonpbbflloljgaa
open Go.RowKit Go.Maps

/-- An id is to come. -/
def IdIn (l : List Hp.E) (id : Int) : Prop := ∃ i, i < l.length ∧ (Hp.g l i).2 = id
theorem Pl.has_false {l : List Hp.E} {D : DataW Unit} (h : Pl l D) {id : Int} (hn : ¬ IdIn l id) : Maps.has D (.int .i64 id) = false := by
  cases e : Maps.has D (.int .i64 id) with
  | false => rfl
  | true => exact absurd ((h.has id).1 e) hn
theorem nil_look (id : Int) (hw : (Lit.int .i64 id).wf = true) (w : World) : (Instr.lookup 26 (.map none) (.int .i64 id) true).run Try.prog w = .ok (.tuple #[.int .i64 0, .bool false]) w := by
  have := Maps.look_nil (P := Try.prog) (t := 26) (w := w) true keyedI Try.underlying26 (zero_int w) (keyOf_int_mk Try.underlying3 hw)
  simpa using this

theorem perm_ids {l l' : List Hp.E} {x : Hp.E} (h : l.Perm (x :: l')) : ∀ i, i < l'.length → ∃ j, j < l.length ∧ Hp.g l j = Hp.g l' i := fun i hi => by
  have hm : l'[i] ∈ l := h.mem_iff.2 (List.mem_cons_of_mem _ (List.getElem_mem hi))
  obtain ⟨j, hj, e⟩ := List.mem_iff_getElem.1 hm
  exact ⟨j, hj, by rw [Hp.g_eq hj, Hp.g_eq hi, e]⟩
/-- New blocks alone beside the old ones. -/
def Grows (w : World) (F F' : Nat → Prop) : Prop := ∀ b, F' b → F b ∨ w.heap.size ≤ b
theorem QF.only {w : World} {cb mb : Nat} {v v' : Value} {F : Nat → Prop} (h : ∀ b, QF cb mb v b → F b) (hv : ∀ k, v'.ownBlock = some k → v.ownBlock = some k ∨ w.heap.size ≤ k) : ∀ b, QF cb mb v' b → F b ∨ w.heap.size ≤ b := by
  rintro b (rfl | rfl | e)
  · exact Or.inl (h _ (Or.inl rfl))
  · exact Or.inl (h _ (Or.inr (Or.inl rfl)))
  · rcases hv b e with e2 | e2
    · exact Or.inl (h _ (Or.inr (Or.inr e2)))
    · exact Or.inr e2
end Go.Proofs.Ytonpbbflloljgaa
