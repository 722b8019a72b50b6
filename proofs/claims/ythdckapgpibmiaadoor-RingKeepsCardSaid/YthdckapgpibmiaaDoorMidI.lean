/-
  A slice of numbers of the call's own, which may begin in the middle of its block: what is taken off ahead, and put behind. Of no chapter.
-/
import Derived.Test.YthdckapgpibmiaaDoorOwnI
import Derived.ArgAppend
import Derived.Laws.IdiomCopy
namespace Go.Proofs.YthdckapgpibmiaaDoor
open Go.RowKit

/-- Nothing; or so many cells of a block, from B on, which may be written as far as the capacity goes. -/
def MidI (w : World) (B : Nat) (v : Value) (xs : List Int) : Prop :=
  (v = .slice none 0 0 ∧ xs = []) ∨ ∃ b off cap, v = .slice (some ⟨b, off, none⟩) xs.length cap ∧ xs.length ≤ cap ∧ cap ≤ maxLen ∧ B ≤ b ∧ b < w.heap.size ∧
    (∀ j x, xs[j]? = some x → w.cell? ⟨b, off + j, none⟩ = some (.int .i64 x)) ∧ ∀ j, j < cap → (w.cell? ⟨b, off + j, none⟩).isSome = true ∧ w.frozen? ⟨b, off + j, none⟩ = false

theorem MidI.nil (w : World) (B : Nat) : MidI w B (.slice none 0 0) [] := Or.inl ⟨rfl, rfl⟩
theorem MidI.le {w : World} {B : Nat} {v : Value} {xs : List Int} (h : MidI w B v xs) : ∀ k, v.ownBlock = some k → B ≤ k ∧ k < w.heap.size := fun k e => by
  rcases h with ⟨rfl, _⟩ | ⟨b, off, cap, rfl, _, _, h1, h2, _⟩
  · cases e
  · cases e; exact ⟨h1, h2⟩
theorem MidI.slice {w : World} {B : Nat} {v : Value} {xs : List Int} (h : MidI w B v xs) : ∃ a c, v = .slice a xs.length c := by
  rcases h with ⟨rfl, rfl⟩ | ⟨b, off, cap, rfl, _⟩
  · exact ⟨_, _, rfl⟩
  · exact ⟨_, _, rfl⟩
theorem MidI.keeps {w w' : World} {B : Nat} {v : Value} {xs : List Int} {S : Nat → Prop} (h : MidI w B v xs) (hk : Keeps S w w') (hs : Off v S) : MidI w' B v xs := by
  rcases h with h | ⟨b, off, cap, rfl, h1, h2, h3, h4, h5, h6⟩
  · exact Or.inl h
  · have hn : ¬ S b := hs b rfl
    exact Or.inr ⟨b, off, cap, rfl, h1, h2, h3, Nat.lt_of_lt_of_le h4 hk.size, fun j x hx => hk.cell_of (h5 j x hx) hn, fun j hj => ⟨by rw [hk.cell (p := ⟨b, off + j, none⟩) h4 hn]; exact (h6 j hj).1, by rw [hk.frozen (p := ⟨b, off + j, none⟩) h4 hn]; exact (h6 j hj).2⟩⟩
theorem MidI.below {w w' : World} {B : Nat} {v : Value} {xs : List Int} (h : MidI w B v xs) (hb : Below w.heap.size w w') : MidI w' B v xs := h.keeps (S := fun _ => False) (Keeps.of_new hb) fun _ _ => id
theorem MidI.mono {w : World} {B C : Nat} {v : Value} {xs : List Int} (h : MidI w B v xs) (hc : C ≤ B) : MidI w C v xs :=
  h.imp id fun ⟨b, off, cap, h0, h1, h2, h3, h4⟩ => ⟨b, off, cap, h0, h1, h2, Nat.le_trans hc h3, h4⟩
theorem MidI.ints {w : World} {B : Nat} {v : Value} {xs : List Int} (h : MidI w B v xs) : IntsAt w v xs := by
  rcases h with ⟨rfl, rfl⟩ | ⟨b, off, cap, rfl, h1, h2, h3, h4, h5, h6⟩
  · exact intsAt_nil w
  · exact ⟨_, _, _, rfl, rfl, h1, h2, fun _ => ⟨b, off, rfl, h4, fun j hj => by
      rw [h5 j _ (List.getElem?_eq_getElem hj), List.getD_eq_getElem?_getD, List.getElem?_eq_getElem hj]; rfl⟩⟩
theorem MidI.of_own {w : World} {B : Nat} {v : Value} {xs : List Int} (h : OwnI w B v xs) : MidI w B v xs := by
  obtain ⟨h1, h2⟩ := h
  rw [List.length_map, Nat.mul_one] at h1
  rcases h2 with ⟨rfl, h3⟩ | ⟨g, cap, cur, rfl, h3, h4, h5, h6, h7, h8⟩
  · exact Or.inl ⟨rfl, List.eq_nil_of_length_eq_zero h3⟩
  · have hlt := (Array.getElem?_eq_some_iff.1 h4).1
    refine Or.inr ⟨g, 0, cap, rfl, h5, h6, h3, hlt, fun j x hx => ?_, fun j hj => ?_⟩
    · have hj := (List.getElem?_eq_some_iff.1 hx).1
      have e : (xs.map (Value.int .i64))[j]? = some (.int .i64 x) := by rw [List.getElem?_map, hx]; rfl
      rw [← h8, List.getElem?_take_of_lt (by omega), Array.getElem?_toList] at e
      simp [World.cell?, h4, e]
    · have hj2 : j < cur.size := by omega
      constructor
      · simp [World.cell?, h4, hj2]
      · simp [World.frozen?, h4]
/-- The first one is taken off. -/
theorem MidI.tail {w : World} {B : Nat} {a : Option Addr} {n c : Nat} {x : Int} {xs : List Int} (h : MidI w B (.slice a n c) (x :: xs)) (a' : Option Addr) (c' : Nat) (hc : c' = c - 1) (ha : a' = a.map (·.add 1) ∨ (c = 1 ∧ a' = a)) : MidI w B (.slice a' xs.length c') xs := by
  rcases h with ⟨_, h⟩ | ⟨b, off, cap, hv, h1, h2, h3, h4, h5, h6⟩
  · cases h
  · rw [Value.slice.injEq] at hv
    obtain ⟨rfl, rfl, rfl⟩ := hv
    rw [List.length_cons] at h1
    rcases ha with rfl | ⟨rfl, rfl⟩
    · refine Or.inr ⟨b, off + 1, c', ?_, by omega, by omega, h3, h4, fun j y hy => ?_, fun j hj => ?_⟩
      · rw [Option.map_some]
        unfold Addr.add
        split <;> simp_all
      · have := h5 (j + 1) y (by simpa using hy)
        rwa [show off + 1 + j = off + (j + 1) by omega]
      · have := h6 (j + 1) (by omega)
        rwa [show off + 1 + j = off + (j + 1) by omega]
    · obtain rfl : xs = [] := List.eq_nil_of_length_eq_zero (by omega)
      exact Or.inr ⟨b, off, c', rfl, by simp, by omega, h3, h4, fun j y hy => by simp at hy, fun j hj => absurd hj (by omega)⟩
theorem keeps_setCells1 (w : World) (b o : Nat) (u : Value) : Keeps (fun k => k = b) w (w.setCells b o [u]) := (Keeps.refl (fun k => k = b) w).setCell (p := ⟨b, o, none⟩) (Or.inl rfl) u
/-- 'xs = append(xs, y)'. -/
theorem wpList_appendM {ops : Array Oper} {rest : List Oper} {o : Oper} {a : Act} {Q : Exit → Act → World → Prop} (hgd : o.guard = none) (s x : Operand)
    (ho : o.op = .call { callee := .builtin .append, args := #[s, x], argTypes := #[30, 30] }) (w : World) (B : Nat) (v : Value) (xs : List Int) (y : Int) (hown : MidI w B v xs) (hs : a.eval s = v)
    (hx : a.eval x = .slice (some ⟨w.heap.size, 0, none⟩) 1 1) (hl : xs.length ≤ 1000000) (hB : B ≤ w.heap.size)
    (h : ∀ ao' cap' w', MidI w' B (.slice ao' (xs.length + 1) cap') (xs ++ [y]) → Keeps (fun b => v.ownBlock = some b) w w' →
      wpList Tryd.prog ops Q rest (a.put o.dst (.slice ao' (xs.length + 1) cap')) w') : wpList Tryd.prog ops Q (o :: rest) a (w.alloc (.cells #[.int .i64 y] 3)) := by
  rcases hown with ⟨rfl, rfl⟩ | ⟨b, off, cap, rfl, h1, h2, h3, h4, h5, h6⟩
  · refine wpList_appendI hgd s x ho w B _ [] y (ownI_nil _ _) hs hx (by simp) hB fun ao' cap' w' hO hK _ => h ao' cap' w' (MidI.of_own hO) hK
  · obtain ⟨i0, hi, hz0, hz1, hz2⟩ := info_parts info_int
    have hka : Keeps (fun _ => False) w (w.alloc (.cells #[.int .i64 y] 3)) := (Keeps.refl _ w).alloc _
    have hcell : ∀ j u, xs[j]? = some u → (w.alloc (.cells #[.int .i64 y] 3)).cell? ⟨b, off + j, none⟩ = some (.int .i64 u) := fun j u hu => hka.cell_of (h5 j u hu) id
    have hfree : ∀ j, j < cap → ((w.alloc (.cells #[.int .i64 y] 3)).cell? ⟨b, off + j, none⟩).isSome = true ∧ (w.alloc (.cells #[.int .i64 y] 3)).frozen? ⟨b, off + j, none⟩ = false := fun j hj =>
      ⟨by rw [hka.cell (p := ⟨b, off + j, none⟩) h4 id]; exact (h6 j hj).1, by rw [hka.frozen (p := ⟨b, off + j, none⟩) h4 id]; exact (h6 j hj).2⟩
    refine wpList_append_arg _ hgd s x 30 ho 3 i0 (.int .i64 0) 1 8 Tryd.underlying30 hi hz0 hz1 hz2 rfl (by decide) b off xs.length cap (xs.map (Value.int .i64)) hs (by simp)
      (fun j u hu => by
        rw [List.getElem?_map] at hu
        obtain ⟨z, hz, rfl⟩ := Option.map_eq_some_iff.1 hu
        exact hcell j z hz) ⟨w.heap.size, 0, none⟩ 1 1 [.int .i64 y] hx rfl (cell_one_new _ _ _) (fun u hu => by simp at hu; subst hu; rfl)
      (fun hr j hj => by
        have hj0 : j = 0 := by simpa using hj
        subst hj0
        rw [Nat.mul_one, Nat.add_zero]
        exact hfree xs.length (by omega)) (by unfold maxLen; omega) (by omega) (fun hr => ?_) (fun hg v' w' hO hgb => ?_)
    · rw [Nat.mul_one]
      have hks := keeps_setCells1 (w.alloc (.cells #[.int .i64 y] 3)) b (off + xs.length) (.int .i64 y)
      refine h _ _ _ (Or.inr ⟨b, off, cap, by simp, by simpa using hr, h2, h3, Nat.lt_of_lt_of_le h4 (Nat.le_trans hka.size hks.size), fun j u hu => ?_, fun j hj => ?_⟩) ((hka.mono fun _ _ e => e.elim).trans (hks.mono fun k _ e => by rw [e]; rfl))
      · show (World.setCell _ ⟨b, off + xs.length, none⟩ (.int .i64 y)).cell? ⟨b, off + j, none⟩ = _
        by_cases e : j = xs.length
        · subst e
          obtain ⟨u0, hu0⟩ := Option.isSome_iff_exists.1 (hfree xs.length (by omega)).1
          rw [World.cell?_setCell_same _ _ _ hu0]
          rw [List.getElem?_append_right (Nat.le_refl _), Nat.sub_self] at hu
          cases hu
          rfl
        · rw [World.cell?_setCell_other _ _ _ _ (by intro e2; injection e2 with _ e3; omega)]
          have hjl := (List.getElem?_eq_some_iff.1 hu).1
          rw [List.length_append, List.length_singleton] at hjl
          rw [List.getElem?_append_left (by omega)] at hu
          exact hcell j u hu
      · show ((World.setCell _ ⟨b, off + xs.length, none⟩ (.int .i64 y)).cell? ⟨b, off + j, none⟩).isSome = true ∧ (World.setCell _ ⟨b, off + xs.length, none⟩ (.int .i64 y)).frozen? ⟨b, off + j, none⟩ = false
        refine ⟨?_, by rw [World.frozen?_setCell]; exact (hfree j hj).2⟩
        by_cases e : j = xs.length
        · subst e
          obtain ⟨u0, hu0⟩ := Option.isSome_iff_exists.1 (hfree xs.length hj).1
          rw [World.cell?_setCell_same _ _ _ hu0]; rfl
        · rw [World.cell?_setCell_other _ _ _ _ (by intro e2; injection e2 with _ e3; omega)]
          exact (hfree j hj).1
    · have hO' : OwnI w' B v' (xs ++ [y]) := OwnI.mk _ y rfl (by
        have := hO
        exact ⟨this.1, this.2.imp id fun ⟨g, cap, cur, e1, e2, e3⟩ => ⟨g, cap, cur, e1, Nat.le_trans hB (Nat.le_trans (by simp) e2), e3⟩⟩)
      obtain ⟨ao', cap', e⟩ := hO'.slice
      rw [List.length_append] at e
      have e' : v' = .slice ao' (xs.length + 1) cap' := e
      subst e'
      exact h _ _ _ (MidI.of_own hO') ((hka.mono fun _ _ e => e.elim).trans ((Keeps.of_grownBy hgb fun k _ e => by cases e).mono fun _ _ (e : False) => e.elim))
end Go.Proofs.YthdckapgpibmiaaDoor
