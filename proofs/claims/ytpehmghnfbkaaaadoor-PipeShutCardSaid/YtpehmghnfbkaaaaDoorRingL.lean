/-
  Plain mathematics: a ring's things in their slots. No program.
-/
namespace Go.Proofs.YtpehmghnfbkaaaaDoor
namespace Rg
variable {α : Type}

theorem mod_lt2 {a n : Nat} (h : a < 2 * n) : a % n = if a < n then a else a - n := by
  split
  · exact Nat.mod_eq_of_lt ‹_›
  · rw [Nat.mod_eq_sub_mod (by omega), Nat.mod_eq_of_lt (by omega)]

/-- The slots hold these things, the first one at f. -/
def Holds (row : List α) (f : Nat) (l : List α) : Prop := ∀ k x, l[k]? = some x → row[(f + k) % row.length]? = some x

theorem holds_nil (row : List α) (f : Nat) : Holds row f [] := fun k x h => by simp at h

theorem Holds.push {row : List α} {f : Nat} {l : List α} (h : Holds row f l) (hf : f < row.length) (hl : l.length < row.length) (v : α) :
    Holds (row.set ((f + l.length) % row.length) v) f (l ++ [v]) := fun k x hk => by
  have hn : 0 < row.length := by omega
  have hm : (f + l.length) % row.length < row.length := Nat.mod_lt _ hn
  rw [List.length_set]
  by_cases e : k < l.length
  · rw [List.getElem?_append_left e] at hk
    have hne : (f + l.length) % row.length ≠ (f + k) % row.length := by
      rw [mod_lt2 (by omega), mod_lt2 (by omega)]
      split <;> split <;> omega
    rw [List.getElem?_set_ne hne]
    exact h k x hk
  · have hkl : k = l.length := by
      have := (List.getElem?_eq_some_iff.1 hk).1
      simp at this; omega
    subst hkl
    rw [List.getElem?_append_right (Nat.le_refl _)] at hk
    simp at hk
    subst hk
    rw [List.getElem?_set_self hm]

theorem Holds.head {row : List α} {f : Nat} {x : α} {l : List α} (h : Holds row f (x :: l)) (hf : f < row.length) : row[f]? = some x := by
  have := h 0 x rfl
  rwa [Nat.add_zero, Nat.mod_eq_of_lt hf] at this

theorem Holds.pop {row : List α} {f : Nat} {x : α} {l : List α} (h : Holds row f (x :: l)) (hf : f < row.length) (hl : l.length < row.length) (z : α) :
    Holds (row.set f z) ((f + 1) % row.length) l := fun k y hk => by
  have hkl := (List.getElem?_eq_some_iff.1 hk).1
  have := h (k + 1) y (by simpa using hk)
  rw [List.length_set]
  have e : ((f + 1) % row.length + k) % row.length = (f + (k + 1)) % row.length := by
    rw [Nat.mod_add_mod]; congr 1; omega
  rw [e, List.getElem?_set_ne (by
    rw [mod_lt2 (by omega)]
    split <;> omega)]
  exact this

theorem Holds.at {row : List α} {f : Nat} {l : List α} (h : Holds row f l) {k : Nat} (hk : k < l.length) : row[(f + k) % row.length]? = some l[k] := h k _ (List.getElem?_eq_getElem hk)
/-- All from the first slot on. -/
theorem holds_front {row l : List α} (hp : l <+: row) : Holds row 0 l := fun k x hk => by
  have hkl := (List.getElem?_eq_some_iff.1 hk).1
  obtain ⟨t, rfl⟩ := hp
  rw [Nat.zero_add, Nat.mod_eq_of_lt (by simp; omega), List.getElem?_append_left hkl]
  exact hk
end Rg
end Go.Proofs.YtpehmghnfbkaaaaDoor
