/-
  The walk of deals, at what PipeMeets asks behind each.
-/
import Derived.Test.YtpehmghnfbkaaaaPipeNF
import Derived.Test.YtpehmghnfbkaaaaPipeL2
import Derived.Test.YtpehmghnfbkaaaaPick
namespace Go.Proofs.Ytpehmghnfbkaaaa
open Go.RowKit Go.Maps Pp

structure De where
  talks : List Tk
  draw : Int
/-- Deals, to be read. -/
def DealsAt (w : World) (v : Value) (l : List De) : Prop :=
  ∃ ao n cap, v = .slice ao n cap ∧ n = l.length ∧ n ≤ cap ∧ cap ≤ maxLen ∧ (0 < n → ∃ b o, ao = some ⟨b, o, none⟩ ∧ b < w.heap.size ∧
    ∀ i d, l[i]? = some d → ∃ vt, w.cell? ⟨b, o + i * 2, none⟩ = some vt ∧ w.cell? ⟨b, o + i * 2 + 1, none⟩ = some (.int .i64 d.draw) ∧ TalksAt w vt d.talks ∧ (-9223372036854775808 ≤ d.draw ∧ d.draw ≤ 9223372036854775807))
theorem cellsL_set : ∀ (l : List Tk) (j : Nat) (x : Tk) (c : Int), l[j]? = some x → (cellsL l).set (j * 3 + 1) (.int .i64 c) = cellsL (l.set j { x with chan := c }) := by
  intro l
  induction l with
  | nil => intro j x c h; cases h
  | cons p r ih =>
    intro j x c h
    cases j with
    | zero => cases h; rfl
    | succ j =>
      rw [List.set_cons_succ, cellsL_cons, cellsL_cons, ← ih j x c (by simpa using h), show (j + 1) * 3 + 1 = j * 3 + 1 + 1 + 1 + 1 by omega]
      rfl
theorem own_free {w : World} {B g n cap m : Nat} {t : TypeId} {cs : List Value} {k : Nat} (h : w.ownsRow B t k (.slice (some ⟨g, 0, none⟩) n cap) m cs) (j : Nat) : w.frozen? ⟨g, j, none⟩ = false := by
  rcases h.2 with ⟨e, _⟩ | ⟨g', cap', cur, e, _, hg, _⟩
  · cases e
  · cases e
    simp [World.frozen?, hg]
theorem talk_err {s : St} {task : Int} {l : List Tk} {draw : Int} (h : (Pp.talk s task l draw).err ≠ 0) : (Pp.talk s task l draw).st = s := by
  have hd : ∀ t : Tk, (Pp.doT s t).err ≠ 0 → (Pp.doT s t).st = s := fun t ht => by
    unfold Pp.doT at ht ⊢
    split
    · rfl
    · next c hc =>
      simp only [hc] at ht
      split
      · next h10 =>
        rw [if_pos h10] at ht
        unfold Pp.recv at ht ⊢
        split at ht <;> simp at ht
      · next h10 =>
        rw [if_neg h10] at ht
        unfold Pp.send at ht ⊢
        split at ht
        · rw [if_pos (by assumption)]
        · split at ht
          · simp at ht
          · split at ht
            · simp_all
            · simp at ht
  unfold Pp.talk at h ⊢
  split at h
  · rw [if_pos (by assumption)]
  · rw [if_neg (by assumption)]
    split at h
    · rw [if_pos (by assumption)]
    · rw [if_neg (by assumption)]
      split at h
      · rw [if_pos (by assumption)]
      · rw [if_neg (by assumption)]
        split at h
        · rw [if_pos (by assumption)]
          simp only at h ⊢
          split at h
          · next he =>
            rw [if_pos he]
            exact hd _ he
          · simp at h
        · split at h <;> simp at h
end Go.Proofs.Ytpehmghnfbkaaaa
