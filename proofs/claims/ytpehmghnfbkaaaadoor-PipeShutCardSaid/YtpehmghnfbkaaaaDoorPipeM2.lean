/-
  Plain mathematics: a task that waits, and channels that are shut. No program.
-/
import Derived.Test.YtpehmghnfbkaaaaDoorPipeM
namespace Go.Proofs.YtpehmghnfbkaaaaDoor
namespace Pp

/-- Where a task stands in a row. -/
def rowT (task what chan : Int) : List Tk → Nat → List (Int × Nat)
  | [], _ => []
  | t :: l, i => if t.what = what ∧ t.chan = chan then (task, i) :: rowT task what chan l (i + 1) else rowT task what chan l (i + 1)
theorem mem_rowT {task what chan : Int} {l : List Tk} {i : Nat} {w : Int × Nat} (h : w ∈ rowT task what chan l i) : w.1 = task ∧ i ≤ w.2 ∧ ∃ x, l[w.2 - i]? = some x ∧ x.what = what ∧ x.chan = chan := by
  induction l generalizing i with
  | nil => cases h
  | cons t l ih =>
    have go : w ∈ rowT task what chan l (i + 1) → w.1 = task ∧ i ≤ w.2 ∧ ∃ x, (t :: l)[w.2 - i]? = some x ∧ x.what = what ∧ x.chan = chan := fun h => by
      obtain ⟨h1, h2, x, h3, h4⟩ := ih h
      refine ⟨h1, by omega, x, ?_, h4⟩
      rw [show w.2 - i = (w.2 - (i + 1)) + 1 by omega, List.getElem?_cons_succ]; exact h3
    unfold rowT at h
    split at h
    · rcases List.mem_cons.1 h with rfl | h
      · exact ⟨rfl, Nat.le_refl _, t, by simp, by assumption⟩
      · exact go h
    · exact go h
theorem rowT_len (task what chan : Int) (l : List Tk) (i : Nat) : (rowT task what chan l i).length ≤ l.length := by
  induction l generalizing i with
  | nil => exact Nat.le_refl _
  | cons t l ih =>
    have := ih (i + 1)
    unfold rowT
    split <;> simp <;> omega
def Tk.good (m : Nat) (x : Tk) : Prop := (0 ≤ x.chan ∧ x.chan ≤ m) ∧ (x.what = 3 ∨ x.what = 10)
theorem layAt_len (task : Int) (chs : List Ch) (t : Tk) (i : Nat) : (layAt task chs t i).length = chs.length := by unfold layAt; split <;> simp
theorem lay_len (task : Int) (l : List Tk) (chs : List Ch) (i : Nat) : (lay task chs l i).length = chs.length := by
  induction l generalizing chs i with
  | nil => rfl
  | cons t l ih => rw [lay, ih, layAt_len]
theorem layAt_get {task : Int} {chs : List Ch} {t : Tk} {i k : Nat} {c : Ch} (h : chs[k]? = some c) (ht : 0 ≤ t.chan) :
    (layAt task chs t i)[k]? = some (if t.chan = (k : Int) + 1 then c.lay task t.what i else c) := by
  unfold layAt
  by_cases h0 : t.chan = 0
  · rw [if_pos h0, if_neg (by omega)]; exact h
  · rw [if_neg h0, List.getElem?_modify, h]
    by_cases e : t.chan = (k : Int) + 1
    · rw [if_pos e]
      have : (t.chan - 1).toNat = k := by omega
      simp [this]
    · rw [if_neg e]
      simp
      intro e2
      exact absurd e2 (by omega)
theorem lay_get {task : Int} {m : Nat} {l : List Tk} (hl : ∀ x ∈ l, x.good m) {chs : List Ch} {i k : Nat} {c : Ch} (h : chs[k]? = some c) :
    (lay task chs l i)[k]? = some { c with sends := c.sends ++ rowT task 3 ((k : Int) + 1) l i, recvs := c.recvs ++ rowT task 10 ((k : Int) + 1) l i } := by
  induction l generalizing chs i c with
  | nil => simp [lay, rowT, h]
  | cons t l ih =>
    have hg := hl t List.mem_cons_self
    rw [lay, ih (fun x hx => hl x (List.mem_cons_of_mem _ hx)) (layAt_get h hg.1.1)]
    congr 1
    by_cases e : t.chan = (k : Int) + 1
    · rw [if_pos e]
      rcases hg.2 with e3 | e3
      · simp [Ch.lay, rowT, e, e3]
      · simp [Ch.lay, rowT, e, e3]
    · rw [if_neg e]
      simp [rowT, e]
theorem get_lay {task : Int} {m : Nat} {l : List Tk} (hl : ∀ x ∈ l, x.good m) {chs : List Ch} {i k : Nat} {c' : Ch} (h : (lay task chs l i)[k]? = some c') :
    ∃ c, chs[k]? = some c ∧ c' = { c with sends := c.sends ++ rowT task 3 ((k : Int) + 1) l i, recvs := c.recvs ++ rowT task 10 ((k : Int) + 1) l i } := by
  have hk : k < chs.length := by rw [← lay_len task l chs i]; exact (List.getElem?_eq_some_iff.1 h).1
  have := lay_get (task := task) (i := i) hl (List.getElem?_eq_getElem hk)
  rw [h] at this
  exact ⟨_, List.getElem?_eq_getElem hk, by injection this⟩
theorem Ok.wait {s : St} (h : Ok s) {task : Int} {l : List Tk} (hn : s.asks task = none) (hl : ∀ x ∈ l, x.good s.chs.length) (h6 : l.length ≤ 6) : Ok (wait s task l) := by
  have hlen := lay_len task l s.chs 0
  have old : ∀ {t : Int} {m : List Tk}, s.asks t = some m → (Pp.wait s task l).asks t = some m := fun {t m} ht => by
    unfold Pp.wait; simp only; rw [if_neg (fun e => by rw [e, hn] at ht; cases ht)]; exact ht
  refine ⟨fun t m hm => ?_, fun k c hc w hw => ?_, fun k c hc w hw => ?_, fun k c hc => ?_, by unfold Pp.wait; simp only; rw [hlen]; exact h.many⟩
  · unfold Pp.wait at hm ⊢
    simp only at hm ⊢
    rw [hlen]
    split at hm
    · cases hm; exact ⟨h6, hl⟩
    · exact h.talks t m hm
  · obtain ⟨c0, h0, rfl⟩ := get_lay hl hc
    rcases List.mem_append.1 hw with h1 | h1
    · obtain ⟨m, x, h2, h3⟩ := h.sends k c0 h0 w h1
      exact ⟨m, x, old h2, h3⟩
    · obtain ⟨h2, _, x, h3, h4, h5⟩ := mem_rowT h1
      exact ⟨l, x, by unfold Pp.wait; simp only; rw [if_pos h2], h3, h4, h5⟩
  · obtain ⟨c0, h0, rfl⟩ := get_lay hl hc
    rcases List.mem_append.1 hw with h1 | h1
    · obtain ⟨m, x, h2, h3⟩ := h.recvs k c0 h0 w h1
      exact ⟨m, x, old h2, h3⟩
    · obtain ⟨h2, _, x, h3, h4, h5⟩ := mem_rowT h1
      exact ⟨l, x, by unfold Pp.wait; simp only; rw [if_pos h2], h3, h4, h5⟩
  · obtain ⟨c0, h0, rfl⟩ := get_lay hl hc
    exact h.caps k c0 h0
theorem Ok.wakeAll {s : St} (h : Ok s) (r : List (Int × Nat)) : Ok (wakeAll s r).1 := by
  induction r generalizing s with
  | nil => exact h
  | cons w r ih =>
    unfold Pp.wakeAll
    cases hw : s.asks w.1 with
    | none => simpa using ih h
    | some l => simpa using ih (h.wake hw)
/-- All that a row of talks may hold that stands where no Else and nothing wrong is. -/
theorem other_good {m : Nat} {l : List Tk} {k : Nat} {o : Int} (h : (other m l k o).2 = 0) (hn : (other m l k o).1 < 0) (ho : o < 0) : ∀ x ∈ l, x.good m := by
  induction l generalizing k o with
  | nil => intro x hx; cases hx
  | cons t l ih =>
    unfold other at h hn
    by_cases e : t.what = 40
    · rw [if_pos e, if_neg (by omega)] at h hn
      exfalso
      have key : ∀ (l : List Tk) (k : Nat) (o : Int), 0 ≤ o → (other m l k o).2 = 0 → 0 ≤ (other m l k o).1 := by
        intro l
        induction l with
        | nil => intro k o ho _; exact ho
        | cons t l ih =>
          intro k o ho h
          unfold other at h ⊢
          split at h
          · exact absurd h (by decide)
          · rename_i e1
            rw [if_neg e1]
            split at h
            · cases h
            · rename_i e2
              rw [if_neg e2]
              split at h
              · cases h
              · rename_i e3
                rw [if_neg e3]
                exact ih _ _ ho h
      have := key l (k + 1) k (by omega) h
      omega
    · rw [if_neg e] at h hn
      split at h
      · cases h
      · rename_i e2
        rw [if_neg e2] at hn
        split at h
        · cases h
        · rename_i e3
          rw [if_neg e3] at hn
          intro x hx
          rcases List.mem_cons.1 hx with rfl | hx
          · refine ⟨?_, ?_⟩
            · unfold may at e3; simp at e3; exact e3
            · rcases Classical.em (x.what = 3) with h5 | h5
              · exact Or.inl h5
              · exact Or.inr (Classical.byContradiction fun h6 => e2 ⟨h5, h6⟩)
          · exact ih h hn ho x hx
end Pp
end Go.Proofs.YtpehmghnfbkaaaaDoor
