/-
  Plain mathematics: heaps of pairs in a list (swaps, the way up, the way down). No program.
-/
namespace Go.Proofs.Ytonpbbflloljgaa
namespace Hp

abbrev E := Int × Int
/-- Ahead of: by the first number, then by the second one. -/
def lt (a b : E) : Prop := a.1 < b.1 ∨ (a.1 = b.1 ∧ a.2 < b.2)
instance (a b : E) : Decidable (lt a b) := by unfold lt; infer_instance
def le (a b : E) : Prop := ¬ lt b a
theorem le_trans {a b c : E} (h : le a b) (k : le b c) : le a c := by unfold le lt at *; omega
theorem le_of_lt {a b : E} (h : lt a b) : le a b := by unfold le lt at *; omega
theorem le_refl (a : E) : le a a := by unfold le lt; omega
theorem le_fst {a b : E} (h : le a b) : a.1 ≤ b.1 := by unfold le lt at h; omega

def g (l : List E) (k : Nat) : E := l.getD k (0, 0)
theorem g_eq {l : List E} {k : Nat} (h : k < l.length) : g l k = l[k] := by unfold g; rw [List.getD_eq_getElem?_getD, List.getElem?_eq_getElem h]; rfl
def sw (l : List E) (i j : Nat) : List E := (l.set i (g l j)).set j (g l i)
theorem sw_length (l : List E) (i j : Nat) : (sw l i j).length = l.length := by simp [sw]
theorem g_set (l : List E) (i k : Nat) (x : E) (hi : i < l.length) : g (l.set i x) k = if k = i then x else g l k := by
  unfold g
  rw [List.getD_eq_getElem?_getD, List.getElem?_set, List.getD_eq_getElem?_getD]
  by_cases h : i = k
  · subst h; rw [if_pos rfl, if_pos hi, if_pos rfl]; rfl
  · rw [if_neg h, if_neg (fun e => h e.symm)]
theorem g_sw {l : List E} {i j : Nat} (hi : i < l.length) (hj : j < l.length) (k : Nat) : g (sw l i j) k = if k = j then g l i else if k = i then g l j else g l k := by
  unfold sw
  rw [g_set _ _ _ _ (by simpa using hj), g_set _ _ _ _ hi]
theorem sw_perm {l : List E} {i j : Nat} (hi : i < l.length) (hj : j < l.length) : (sw l i j).Perm l := by
  unfold sw
  rw [g_eq hi, g_eq hj]
  exact List.set_set_perm hi hj

/-- The first n are a heap. -/
def Heap (l : List E) (n : Nat) : Prop := ∀ k, 0 < k → k < n → le (g l ((k - 1) / 2)) (g l k)
/-- But where j stands, which may go up. -/
structure Up (l : List E) (n j : Nat) : Prop where
  ord : ∀ k, 0 < k → k < n → k ≠ j → le (g l ((k - 1) / 2)) (g l k)
  gr : ∀ k, 0 < k → k < n → (k - 1) / 2 = j → 0 < j → le (g l ((j - 1) / 2)) (g l k)
theorem Up.step {l : List E} {n j : Nat} (h : Up l n j) (hn : n ≤ l.length) (hj : j < n) (h0 : 0 < j) (hl : lt (g l j) (g l ((j - 1) / 2))) : Up (sw l ((j - 1) / 2) j) n ((j - 1) / 2) := by
  have hp : (j - 1) / 2 < j := by omega
  have hs : ∀ k, g (sw l ((j - 1) / 2) j) k = if k = j then g l ((j - 1) / 2) else if k = (j - 1) / 2 then g l j else g l k := fun k => g_sw (by omega) (by omega) k
  refine ⟨fun k h1 h2 h3 => ?_, fun k h1 h2 h3 h4 => ?_⟩
  · rw [hs, hs]
    by_cases e : k = j
    · subst e
      rw [if_neg (by omega), if_pos rfl, if_pos rfl]
      exact le_of_lt hl
    · rw [if_neg e, if_neg h3]
      by_cases e1 : (k - 1) / 2 = j
      · rw [if_pos e1]; exact h.gr k h1 h2 e1 h0
      · rw [if_neg e1]
        by_cases e2 : (k - 1) / 2 = (j - 1) / 2
        · rw [if_pos e2]
          have := h.ord k h1 h2 e
          rw [e2] at this
          exact le_trans (le_of_lt hl) this
        · rw [if_neg e2]; exact h.ord k h1 h2 e
  · rw [hs, hs]
    have hq : ((j - 1) / 2 - 1) / 2 < (j - 1) / 2 := by omega
    have hA := h.ord ((j - 1) / 2) h4 (by omega) (by omega)
    rw [if_neg (by omega), if_neg (by omega)]
    by_cases e : k = j
    · rw [if_pos e]; exact hA
    · rw [if_neg e, if_neg (by omega)]
      have := h.ord k h1 h2 e
      rw [h3] at this
      exact le_trans hA this
theorem Up.stop {l : List E} {n j : Nat} (h : Up l n j) (h0 : j = 0 ∨ ¬ lt (g l j) (g l ((j - 1) / 2))) : Heap l n := fun k h1 h2 => by
  by_cases e : k = j
  · subst e
    rcases h0 with h0 | h0
    · omega
    · exact h0
  · exact h.ord k h1 h2 e

/-- On the way down from i0, being at i. -/
structure Down (l : List E) (n i0 i : Nat) : Prop where
  ord : ∀ k, 0 < k → k < n → (k - 1) / 2 ≠ i → (i = i0 → k ≠ i0) → le (g l ((k - 1) / 2)) (g l k)
  gr : ∀ k, 0 < k → k < n → (k - 1) / 2 = i → 0 < i → le (g l ((i - 1) / 2)) (g l k)
theorem Down.step {l : List E} {n i0 i j : Nat} (h : Down l n i0 i) (hn : n ≤ l.length) (hi0 : i0 ≤ i) (hj : j < n) (hc : (j - 1) / 2 = i) (h0 : 0 < j)
    (hm : ∀ k, 0 < k → k < n → (k - 1) / 2 = i → le (g l j) (g l k)) (hl : lt (g l j) (g l i)) : Down (sw l i j) n i0 j := by
  have hij : i < j := by omega
  have hs : ∀ k, g (sw l i j) k = if k = j then g l i else if k = i then g l j else g l k := fun k => g_sw (by omega) (by omega) k
  refine ⟨fun k h1 h2 h3 h4 => ?_, fun k h1 h2 h3 h4 => ?_⟩
  · rw [hs, hs, if_neg h3]
    by_cases e : k = j
    · subst e
      rw [if_pos hc, if_pos rfl]
      exact le_of_lt hl
    · rw [if_neg e]
      by_cases e1 : k = i
      · subst e1
        rw [if_neg (by omega), if_pos rfl]
        exact h.gr j h0 hj hc h1
      · rw [if_neg e1]
        by_cases e2 : (k - 1) / 2 = i
        · rw [if_pos e2]; exact hm k h1 h2 e2
        · rw [if_neg e2]; exact h.ord k h1 h2 e2 (fun e3 => by omega)
  · rw [hs, hs, if_neg (by omega), if_pos hc, if_neg (by omega), if_neg (by omega)]
    have := h.ord k h1 h2 (by omega) (fun e3 => by omega)
    rw [h3] at this
    exact this
theorem Down.moved {l : List E} {n i0 i : Nat} (h : Down l n i0 i) (hne : i ≠ i0) (hst : ∀ k, 0 < k → k < n → (k - 1) / 2 = i → le (g l i) (g l k)) : Heap l n := fun k h1 h2 => by
  by_cases e : (k - 1) / 2 = i
  · rw [e]; exact hst k h1 h2 e
  · exact h.ord k h1 h2 e (fun e3 => absurd e3 hne)
theorem Down.stays {l : List E} {n i0 : Nat} (h : Down l n i0 i0) (hst : ∀ k, 0 < k → k < n → (k - 1) / 2 = i0 → le (g l i0) (g l k)) : Up l n i0 :=
  ⟨fun k h1 h2 h3 => by
    by_cases e : (k - 1) / 2 = i0
    · rw [e]; exact hst k h1 h2 e
    · exact h.ord k h1 h2 e (fun _ => h3), h.gr⟩
theorem Up.zero {l : List E} {n : Nat} (h : Up l n 0) : Heap l n := h.stop (Or.inl rfl)

/-- The last one laid in i's place: the way down from there begins. -/
theorem Heap.hole {l : List E} {n i : Nat} (h : Heap l (n + 1)) (hn : n + 1 = l.length) (hi : i < n) : Down (sw l i n) n i i := by
  have hs : ∀ k, g (sw l i n) k = if k = n then g l i else if k = i then g l n else g l k := fun k => g_sw (by omega) (by omega) k
  refine ⟨fun k h1 h2 h3 h4 => ?_, fun k h1 h2 h3 h4 => ?_⟩
  · rw [hs, hs, if_neg (by omega), if_neg h3, if_neg (by omega), if_neg (h4 rfl)]
    exact h k h1 (by omega)
  · rw [hs, hs, if_neg (by omega), if_neg (by omega), if_neg (by omega), if_neg (by omega)]
    have hA := h i h4 (by omega)
    have hB := h k h1 (by omega)
    rw [h3] at hB
    exact le_trans hA hB
theorem Heap.last {l : List E} {n : Nat} (h : Heap l (n + 1)) : Heap l n := fun k h1 h2 => h k h1 (by omega)
/-- One more behind all others: the way up from there begins. -/
theorem Heap.more {l : List E} (h : Heap l l.length) (x : E) : Up (l ++ [x]) (l.length + 1) l.length := by
  have hg : ∀ k, k < l.length → g (l ++ [x]) k = g l k := fun k hk => by
    rw [g_eq hk, g_eq (by simp; omega), List.getElem_append_left hk]
  refine ⟨fun k h1 h2 h3 => ?_, fun k h1 h2 h3 h4 => by omega⟩
  rw [hg k (by omega), hg _ (by omega)]
  exact h k h1 (by omega)
theorem Heap.root {l : List E} {n : Nat} (h : Heap l n) : ∀ k, k < n → le (g l 0) (g l k) := by
  intro k
  induction k using Nat.strongRecOn with
  | ind k ih =>
    intro hk
    by_cases e : k = 0
    · subst e; exact le_refl _
    · exact le_trans (ih ((k - 1) / 2) (by omega) (by omega)) (h k (by omega) hk)
theorem g_take {l : List E} {n k : Nat} (hk : k < n) : g (l.take n) k = g l k := by
  unfold g; rw [List.getD_eq_getElem?_getD, List.getElem?_take, if_pos hk, List.getD_eq_getElem?_getD]
theorem Heap.take {l : List E} {n : Nat} (h : Heap l n) : Heap (l.take n) n := fun k h1 h2 => by
  rw [g_take h2, g_take (by omega)]; exact h k h1 h2
theorem take_last {l : List E} {n : Nat} (hn : n + 1 = l.length) : l = l.take n ++ [g l n] := by
  conv => lhs; rw [← List.take_append_drop n l]
  rw [g_eq (by omega), List.drop_eq_getElem_cons (by omega), List.drop_of_length_le (by omega)]
theorem heap_nil : Heap [] 0 := fun k _ h => by omega
end Hp
end Go.Proofs.Ytonpbbflloljgaa
