/-
  Texts of one proof, in build order: A slice of numbers of the call's own, which may begin in the middle of its block: what is taken off ahead, and put behind. Of no chapter. | Channels told by one list of all that wait, in memory: the reference's. | The laws' channels, in memory of their own; and the laws' fact: a number goes from one task to another one. | The walk of the laws' helper 'pick': a number below n. | The laws' small helpers: a send, a receive, a row of talks of one's own. | The walk of the reference's row: those that wait to do something with a channel. | The walks of the reference's small functions: within, Made, Len, asks, goes. | The walks of the reference's asks and goes. | The walk of the reference's goes: one that waited goes on. | The walk of the reference's Make. | The walk of the reference's free. | A channel is shut: what turns in memory; one more that goes on. | The walk of the reference's Close. | The walks of the law's comparisons: of numbers, of those that wait, of those that go on; where both are the same.
-/
import Derived.Test.YtppbmhpbbiigaaaDoorU2
import Derived.ArgAppend
import Derived.Laws.IdiomCopy
import Derived.Test.YtppbmhpbbiigaaaDoorRows
import Derived.WalkKit
import Derived.WalkSpells
import Derived.WalkLawsBesides
import Derived.Lib.Hide
import Derived.Deep.Cut
import Derived.BigQuiet
import Derived.Deep.RegionHeld3
namespace Go.Proofs.YtppbmhpbbiigaaaDoor
open Go.RowKit

/-- Nothing; or so many cells of a block, from B on, which may be written as far as the capacity goes. -/
def MidI (w : World) (B : Nat) (v : Value) (xs : List Int) : Prop :=
  (v = .slice none 0 0 ∧ xs = []) ∨ ∃ b off cap, v = .slice (some ⟨b, off, none⟩) xs.length cap ∧ xs.length ≤ cap ∧ cap ≤ maxLen ∧ B ≤ b ∧ b < w.heap.size ∧
    (∀ j x, xs[j]? = some x → w.cell? ⟨b, off + j, none⟩ = some (.int .i64 x)) ∧ ∀ j, j < cap → (w.cell? ⟨b, off + j, none⟩).isSome = true ∧ w.frozen? ⟨b, off + j, none⟩ = false

theorem MidI.nil (w : World) (B : Nat) : MidI w B (.slice none 0 0) [] := Or.inl ⟨rfl, rfl⟩
theorem MidI.le {w : World} {B : Nat} {v : Value} {xs : List Int} (h : MidI w B v xs) : ∀ k, v.ownBlock = some k → B ≤ k ∧ k < w.heap.size := fun k e => by
  rcases h with ⟨rfl, _⟩ | ⟨b, off, cap, rfl, _, _, h1, h2, _⟩
  · cases e
  · cases e; exact ⟨h1, h2⟩
theorem MidI.slice {w : World} {B : Nat} {v : Value} {xs : List Int} (h : MidI w B v xs) : ∃ a c, v = .slice a xs.length c := by
  rcases h with ⟨rfl, rfl⟩ | ⟨b, off, cap, rfl, _⟩
  · exact ⟨_, _, rfl⟩
  · exact ⟨_, _, rfl⟩
theorem MidI.keeps {w w' : World} {B : Nat} {v : Value} {xs : List Int} {S : Nat → Prop} (h : MidI w B v xs) (hk : Keeps S w w') (hs : Off v S) : MidI w' B v xs := by
  rcases h with h | ⟨b, off, cap, rfl, h1, h2, h3, h4, h5, h6⟩
  · exact Or.inl h
  · have hn : ¬ S b := hs b rfl
    exact Or.inr ⟨b, off, cap, rfl, h1, h2, h3, Nat.lt_of_lt_of_le h4 hk.size, fun j x hx => hk.cell_of (h5 j x hx) hn, fun j hj => ⟨by rw [hk.cell (p := ⟨b, off + j, none⟩) h4 hn]; exact (h6 j hj).1, by rw [hk.frozen (p := ⟨b, off + j, none⟩) h4 hn]; exact (h6 j hj).2⟩⟩
theorem MidI.below {w w' : World} {B : Nat} {v : Value} {xs : List Int} (h : MidI w B v xs) (hb : Below w.heap.size w w') : MidI w' B v xs := h.keeps (S := fun _ => False) (Keeps.of_new hb) fun _ _ => id
theorem MidI.mono {w : World} {B C : Nat} {v : Value} {xs : List Int} (h : MidI w B v xs) (hc : C ≤ B) : MidI w C v xs :=
  h.imp id fun ⟨b, off, cap, h0, h1, h2, h3, h4⟩ => ⟨b, off, cap, h0, h1, h2, Nat.le_trans hc h3, h4⟩
theorem MidI.ints {w : World} {B : Nat} {v : Value} {xs : List Int} (h : MidI w B v xs) : IntsAt w v xs := by
  rcases h with ⟨rfl, rfl⟩ | ⟨b, off, cap, rfl, h1, h2, h3, h4, h5, h6⟩
  · exact intsAt_nil w
  · exact ⟨_, _, _, rfl, rfl, h1, h2, fun _ => ⟨b, off, rfl, h4, fun j hj => by
      rw [h5 j _ (List.getElem?_eq_getElem hj), List.getD_eq_getElem?_getD, List.getElem?_eq_getElem hj]; rfl⟩⟩
theorem MidI.of_own {w : World} {B : Nat} {v : Value} {xs : List Int} (h : OwnI w B v xs) : MidI w B v xs := by
  obtain ⟨h1, h2⟩ := h
  rw [List.length_map, Nat.mul_one] at h1
  rcases h2 with ⟨rfl, h3⟩ | ⟨g, cap, cur, rfl, h3, h4, h5, h6, h7, h8⟩
  · exact Or.inl ⟨rfl, List.eq_nil_of_length_eq_zero h3⟩
  · have hlt := (Array.getElem?_eq_some_iff.1 h4).1
    refine Or.inr ⟨g, 0, cap, rfl, h5, h6, h3, hlt, fun j x hx => ?_, fun j hj => ?_⟩
    · have hj := (List.getElem?_eq_some_iff.1 hx).1
      have e : (xs.map (Value.int .i64))[j]? = some (.int .i64 x) := by rw [List.getElem?_map, hx]; rfl
      rw [← h8, List.getElem?_take_of_lt (by omega), Array.getElem?_toList] at e
      simp [World.cell?, h4, e]
    · have hj2 : j < cur.size := by omega
      constructor
      · simp [World.cell?, h4, hj2]
      · simp [World.frozen?, h4]
/-- The first one is taken off. -/
theorem MidI.tail {w : World} {B : Nat} {a : Option Addr} {n c : Nat} {x : Int} {xs : List Int} (h : MidI w B (.slice a n c) (x :: xs)) (a' : Option Addr) (c' : Nat) (hc : c' = c - 1) (ha : a' = a.map (·.add 1) ∨ (c = 1 ∧ a' = a)) : MidI w B (.slice a' xs.length c') xs := by
  rcases h with ⟨_, h⟩ | ⟨b, off, cap, hv, h1, h2, h3, h4, h5, h6⟩
  · cases h
  · rw [Value.slice.injEq] at hv
    obtain ⟨rfl, rfl, rfl⟩ := hv
    rw [List.length_cons] at h1
    rcases ha with rfl | ⟨rfl, rfl⟩
    · refine Or.inr ⟨b, off + 1, c', ?_, by omega, by omega, h3, h4, fun j y hy => ?_, fun j hj => ?_⟩
      · rw [Option.map_some]
        unfold Addr.add
        split <;> simp_all
      · have := h5 (j + 1) y (by simpa using hy)
        rwa [show off + 1 + j = off + (j + 1) by omega]
      · have := h6 (j + 1) (by omega)
        rwa [show off + 1 + j = off + (j + 1) by omega]
    · obtain rfl : xs = [] := List.eq_nil_of_length_eq_zero (by omega)
      exact Or.inr ⟨b, off, c', rfl, by simp, by omega, h3, h4, fun j y hy => by simp at hy, fun j hj => absurd hj (by omega)⟩
theorem keeps_setCells1 (w : World) (b o : Nat) (u : Value) : Keeps (fun k => k = b) w (w.setCells b o [u]) := (Keeps.refl (fun k => k = b) w).setCell (p := ⟨b, o, none⟩) (Or.inl rfl) u
/-- 'xs = append(xs, y)'. -/
theorem wpList_appendM {ops : Array Oper} {rest : List Oper} {o : Oper} {a : Act} {Q : Exit → Act → World → Prop} (hgd : o.guard = none) (s x : Operand)
    (ho : o.op = .call { callee := .builtin .append, args := #[s, x], argTypes := #[70, 70] }) (w : World) (B : Nat) (v : Value) (xs : List Int) (y : Int) (hown : MidI w B v xs) (hs : a.eval s = v)
    (hx : a.eval x = .slice (some ⟨w.heap.size, 0, none⟩) 1 1) (hl : xs.length ≤ 1000000) (hB : B ≤ w.heap.size)
    (h : ∀ ao' cap' w', MidI w' B (.slice ao' (xs.length + 1) cap') (xs ++ [y]) → Keeps (fun b => v.ownBlock = some b) w w' →
      wpList Tryd.prog ops Q rest (a.put o.dst (.slice ao' (xs.length + 1) cap')) w') : wpList Tryd.prog ops Q (o :: rest) a (w.alloc (.cells #[.int .i64 y] 3)) := by
  rcases hown with ⟨rfl, rfl⟩ | ⟨b, off, cap, rfl, h1, h2, h3, h4, h5, h6⟩
  · refine wpList_appendI hgd s x ho w B _ [] y (ownI_nil _ _) hs hx (by simp) hB fun ao' cap' w' hO hK _ => h ao' cap' w' (MidI.of_own hO) hK
  · obtain ⟨i0, hi, hz0, hz1, hz2⟩ := info_parts info_int
    have hka : Keeps (fun _ => False) w (w.alloc (.cells #[.int .i64 y] 3)) := (Keeps.refl _ w).alloc _
    have hcell : ∀ j u, xs[j]? = some u → (w.alloc (.cells #[.int .i64 y] 3)).cell? ⟨b, off + j, none⟩ = some (.int .i64 u) := fun j u hu => hka.cell_of (h5 j u hu) id
    have hfree : ∀ j, j < cap → ((w.alloc (.cells #[.int .i64 y] 3)).cell? ⟨b, off + j, none⟩).isSome = true ∧ (w.alloc (.cells #[.int .i64 y] 3)).frozen? ⟨b, off + j, none⟩ = false := fun j hj =>
      ⟨by rw [hka.cell (p := ⟨b, off + j, none⟩) h4 id]; exact (h6 j hj).1, by rw [hka.frozen (p := ⟨b, off + j, none⟩) h4 id]; exact (h6 j hj).2⟩
    refine wpList_append_arg _ hgd s x 70 ho 3 i0 (.int .i64 0) 1 8 Tryd.underlying70 hi hz0 hz1 hz2 rfl (by decide) b off xs.length cap (xs.map (Value.int .i64)) hs (by simp)
      (fun j u hu => by
        rw [List.getElem?_map] at hu
        obtain ⟨z, hz, rfl⟩ := Option.map_eq_some_iff.1 hu
        exact hcell j z hz) ⟨w.heap.size, 0, none⟩ 1 1 [.int .i64 y] hx rfl (cell_one_new _ _ _) (fun u hu => by simp at hu; subst hu; rfl)
      (fun hr j hj => by
        have hj0 : j = 0 := by simpa using hj
        subst hj0
        rw [Nat.mul_one, Nat.add_zero]
        exact hfree xs.length (by omega)) (by unfold maxLen; omega) (by omega) (fun hr => ?_) (fun hg v' w' hO hgb => ?_)
    · rw [Nat.mul_one]
      have hks := keeps_setCells1 (w.alloc (.cells #[.int .i64 y] 3)) b (off + xs.length) (.int .i64 y)
      refine h _ _ _ (Or.inr ⟨b, off, cap, by simp, by simpa using hr, h2, h3, Nat.lt_of_lt_of_le h4 (Nat.le_trans hka.size hks.size), fun j u hu => ?_, fun j hj => ?_⟩) ((hka.mono fun _ _ e => e.elim).trans (hks.mono fun k _ e => by rw [e]; rfl))
      · show (World.setCell _ ⟨b, off + xs.length, none⟩ (.int .i64 y)).cell? ⟨b, off + j, none⟩ = _
        by_cases e : j = xs.length
        · subst e
          obtain ⟨u0, hu0⟩ := Option.isSome_iff_exists.1 (hfree xs.length (by omega)).1
          rw [World.cell?_setCell_same _ _ _ hu0]
          rw [List.getElem?_append_right (Nat.le_refl _), Nat.sub_self] at hu
          cases hu
          rfl
        · rw [World.cell?_setCell_other _ _ _ _ (by intro e2; injection e2 with _ e3; omega)]
          have hjl := (List.getElem?_eq_some_iff.1 hu).1
          rw [List.length_append, List.length_singleton] at hjl
          rw [List.getElem?_append_left (by omega)] at hu
          exact hcell j u hu
      · show ((World.setCell _ ⟨b, off + xs.length, none⟩ (.int .i64 y)).cell? ⟨b, off + j, none⟩).isSome = true ∧ (World.setCell _ ⟨b, off + xs.length, none⟩ (.int .i64 y)).frozen? ⟨b, off + j, none⟩ = false
        refine ⟨?_, by rw [World.frozen?_setCell]; exact (hfree j hj).2⟩
        by_cases e : j = xs.length
        · subst e
          obtain ⟨u0, hu0⟩ := Option.isSome_iff_exists.1 (hfree xs.length hj).1
          rw [World.cell?_setCell_same _ _ _ hu0]; rfl
        · rw [World.cell?_setCell_other _ _ _ _ (by intro e2; injection e2 with _ e3; omega)]
          exact (hfree j hj).1
    · have hO' : OwnI w' B v' (xs ++ [y]) := OwnI.mk _ y rfl (by
        have := hO
        exact ⟨this.1, this.2.imp id fun ⟨g, cap, cur, e1, e2, e3⟩ => ⟨g, cap, cur, e1, Nat.le_trans hB (Nat.le_trans (by simp) e2), e3⟩⟩)
      obtain ⟨ao', cap', e⟩ := hO'.slice
      rw [List.length_append] at e
      have e' : v' = .slice ao' (xs.length + 1) cap' := e
      subst e'
      exact h _ _ _ (MidI.of_own hO') ((hka.mono fun _ _ e => e.elim).trans ((Keeps.of_grownBy hgb fun k _ e => by cases e).mono fun _ _ (e : False) => e.elim))
end Go.Proofs.YtppbmhpbbiigaaaDoor

namespace Go.Proofs.YtppbmhpbbiigaaaDoor
open Go.RowKit Go.Maps Pp

theorem cellsW_two : ∀ (l : List (Int × Nat)) (i : Nat) (x : Int × Nat), l[i]? = some x → (cellsW l)[i * 2]? = some (.int .i64 x.1) ∧ (cellsW l)[i * 2 + 1]? = some (.int .i64 (x.2 : Int)) := by
  intro l
  induction l with
  | nil => intro i x h; cases h
  | cons p r ih =>
    intro i x h
    have e : cellsW (p :: r) = .int .i64 p.1 :: .int .i64 (p.2 : Int) :: cellsW r := rfl
    cases i with
    | zero => cases h; exact ⟨rfl, rfl⟩
    | succ i =>
      have := ih i x (by simpa using h)
      rw [e]
      refine ⟨?_, ?_⟩
      · rw [show (i + 1) * 2 = i * 2 + 1 + 1 by omega]; simpa using this.1
      · rw [show (i + 1) * 2 + 1 = i * 2 + 1 + 1 + 1 by omega]; simpa using this.2
/-- A row of those that wait, to be read. -/
def ReadW (w : World) (v : Value) (r : List (Int × Nat)) : Prop :=
  ∃ ao cap, v = .slice ao r.length cap ∧ (0 < r.length → ∃ g, ao = some ⟨g, 0, none⟩ ∧ g < w.heap.size ∧ ∀ (i : Nat) x, r[i]? = some x → w.cell? ⟨g, i * 2, none⟩ = some (.int .i64 x.1) ∧ w.cell? ⟨g, i * 2 + 1, none⟩ = some (.int .i64 (x.2 : Int)))
theorem readW_of {w : World} {B : Nat} {v : Value} {r : List (Int × Nat)} (h : w.ownsRow B 90 2 v r.length (cellsW r)) : ReadW w v r := by
  have hc := h
  rcases h.2 with ⟨rfl, h0⟩ | ⟨g, cap, cur, rfl, hb, hg, h3, h4, h5, h6⟩
  · exact ⟨none, 0, by rw [h0], fun h => by omega⟩
  · refine ⟨_, _, rfl, fun _ => ⟨g, rfl, (Array.getElem?_eq_some_iff.1 hg).1, fun i x hx => ?_⟩⟩
    obtain ⟨e1, e2⟩ := cellsW_two r i x hx
    have f1 := World.ownsRow.cells hc (g := g) rfl _ _ e1
    have f2 := World.ownsRow.cells hc (g := g) rfl _ _ e2
    rw [addr_addP, Nat.zero_add] at f1 f2
    exact ⟨f1, f2⟩
/-- 'append(own, other...)' of those that wait. -/
theorem wpList_appendWk {ops : Array Oper} {rest : List Oper} {o : Oper} {a : Act} {Q : Exit → Act → World → Prop} (hgd : o.guard = none) (s x : Operand)
    (ho : o.op = .call { callee := .builtin .append, args := #[s, x], argTypes := #[77, 77] }) (w : World) (B : Nat) (v u : Value) (xs ys : List (Int × Nat)) (hown : w.ownsRow B 90 2 v xs.length (cellsW xs)) (hs : a.eval s = v) (hu : RowW w u ys)
    (hx : a.eval x = u) (hl : xs.length + ys.length ≤ 100000000) (hB : B ≤ w.heap.size)
    (h : ∀ v' w', w'.ownsRow B 90 2 v' (xs ++ ys).length (cellsW (xs ++ ys)) → Keeps (fun b => v.ownBlock = some b) w w' → (∀ k, v'.ownBlock = some k → v.ownBlock = some k ∨ w.heap.size ≤ k) → wpList Tryd.prog ops Q rest (a.put o.dst v') w') : wpList Tryd.prog ops Q (o :: rest) a w := by
  obtain ⟨i0, hi, hz0, hz1, hz2⟩ := tinfoP info_wait
  have hc := hu
  rcases hu.2 with ⟨rfl, h0⟩ | ⟨g, cap, cur, rfl, _, _, h3, h4, _⟩
  · have hy : ys = [] := List.eq_nil_of_length_eq_zero (by simpa using h0)
    subst hy
    refine wpList_plain hgd fun K hK => ?_
    have hr := run_append_owned_none (P := Tryd.prog) (w := w) B 77 o.type 90 i0 2 Tryd.underlying77 hi v xs.length (cellsW xs) hown
    unfold Oper.wp execOp
    simp only [ho, resolve, invoke, builtin, Sem.run_bind, Sem.run_pure, Result.andThen_ok, List.map_toArray, List.map_cons, List.map_nil, hs, hx, hr]
    exact hK _ _ (h v w (by rw [List.append_nil]; exact hown) (Keeps.refl _ _) fun k e => Or.inl e)
  · refine wpList_append_own_at _ hgd s x 77 ho B 90 i0 (.agg #[.int .i64 0, .int .i64 0]) 2 16 Tryd.underlying77 hi hz0 hz1 hz2 rfl (by decide) v xs.length (cellsW xs) hs hown ⟨g, 0, none⟩ ys.length cap (cellsW ys) hx (cellsW_len ys)
      (World.ownsRow.cells hc (g := g) rfl) (cellsW_one ys) (by unfold maxLen; omega) (by omega) hB ?_
    intro v' w' h1 h2 _ h5
    refine h v' w' ?_ (Keeps.of_grownBy h2 fun k _ e => e) fun k hk => by
      rcases h5 with e | e
      · exact Or.inl (by rw [← e]; exact hk)
      · rw [e] at hk; cases hk; exact Or.inr (Nat.le_refl _)
    rw [cellsW_append, List.length_append]; exact h1
/-- The same, as one step of a region that draws. -/
theorem step_appendWs {ops : Array Oper} {o : Oper} {a : Act} {w : World} {K : Act → World → Prop} {Q : Exit → Act → World → Prop} {F : Prop} (hgd : o.guard = none) (s x : Operand)
    (ho : o.op = .call { callee := .builtin .append, args := #[s, x], argTypes := #[77, 77] }) (B : Nat) (v u : Value) (xs ys : List (Int × Nat)) (hown : w.ownsRow B 90 2 v xs.length (cellsW xs)) (hu : RowW w u ys)
    (hl : xs.length + ys.length ≤ 100000000) (hB : B ≤ w.heap.size) (hs : a.eval s = v) (hx : a.eval x = u)
    (h : ∀ ao cap w', w'.ownsRow B 90 2 (.slice ao (xs ++ ys).length cap) (xs ++ ys).length (cellsW (xs ++ ys)) → Keeps (fun b => v.ownBlock = some b) w w' → K (a.put o.dst (.slice ao (xs ++ ys).length cap)) w') :
    if Region.wanted o (yielded ops a.tmps) = true then Oper.wp Tryd.prog o a w K Q else F := by
  have hw : Region.wanted o (yielded ops a.tmps) = true := by simp [Region.wanted, hgd]
  rw [if_pos hw]
  obtain ⟨i0, hi, hz0, hz1, hz2⟩ := tinfoP info_wait
  have hc := hu
  rcases hu.2 with ⟨rfl, h0⟩ | ⟨g, cap, cur, rfl, _, _, h3, h4, _⟩
  · have hy : ys = [] := List.eq_nil_of_length_eq_zero (by simpa using h0)
    subst hy
    have hr := run_append_owned_none (P := Tryd.prog) (w := w) B 77 o.type 90 i0 2 Tryd.underlying77 hi v xs.length (cellsW xs) hown
    obtain ⟨ao, cap, e⟩ := own_slice hown
    unfold Oper.wp
    simp [execOp, ho, resolve, invoke, builtin, hs, hx, hr, Result.andThen]
    subst e
    have := h ao cap w (by rw [List.append_nil]; exact hown) (Keeps.refl _ _)
    rw [List.append_nil] at this
    exact this
  · obtain ⟨v', w', hr, h1, h2, _, _⟩ := run_append_own_at (P := Tryd.prog) w B 77 o.type 90 i0 (.agg #[.int .i64 0, .int .i64 0]) 2 16 Tryd.underlying77 hi hz0 hz1 hz2 rfl (by decide) v xs.length (cellsW xs) hown ⟨g, 0, none⟩ ys.length cap (cellsW ys) (cellsW_len ys)
      (World.ownsRow.cells hc (g := g) rfl) (cellsW_one ys) (by unfold maxLen; omega) (by omega) hB
    have h1' : w'.ownsRow B 90 2 v' (xs ++ ys).length (cellsW (xs ++ ys)) := by
      rw [cellsW_append, List.length_append]
      exact h1
    obtain ⟨ao', cap', rfl⟩ := own_slice h1'
    unfold Oper.wp
    simp [execOp, ho, resolve, invoke, builtin, hs, hx, hr, Result.andThen]
    have := h ao' cap' w' h1' (Keeps.of_grownBy h2 fun k _ e => e)
    rw [List.length_append] at this
    exact this

inductive RRole where
  | free | pipes | chans | chan (k : Nat) | nums (k : Nat) | waiters | talks
def RRole.of (k : Nat) : RRole → Prop
  | .chan j => j = k | .nums j => j = k | _ => False
theorem RRole.of_of {r : RRole} {j k : Nat} (h : r.of k) (h' : r.of j) : k = j := by
  cases r <;> simp_all [RRole.of]
/-- A channel in memory. -/
structure RCh (w : World) (σ : Nat → RRole) (k cb : Nat) (v : Value) (c : Ch) : Prop where
  c0 : w.cell? ⟨cb, 0, none⟩ = some (.int .i64 (c.size : Nat))
  c1 : w.cell? ⟨cb, 1, none⟩ = some v
  c2 : w.cell? ⟨cb, 2, none⟩ = some (.bool c.shut)
  z : ∀ j, w.frozen? ⟨cb, j, none⟩ = false
  nums : MidI w 0 v c.nums
  p0 : σ cb = .chan k
  p1 : ∀ b, v.ownBlock = some b → σ b = .nums k
theorem RCh.lt {w : World} {σ : Nat → RRole} {k cb : Nat} {v : Value} {c : Ch} (h : RCh w σ k cb v c) : cb < w.heap.size := block_lt_of_cell h.c0
theorem RCh.keeps {S : Nat → Prop} {w w' : World} {σ : Nat → RRole} {k cb : Nat} {v : Value} {c : Ch} (h : RCh w σ k cb v c) (hk : Keeps S w w') (hS : ∀ b, b < w.heap.size → (σ b).of k → ¬ S b) : RCh w' σ k cb v c := by
  have hcb : ¬ S cb := hS _ h.lt (by rw [h.p0]; rfl)
  exact ⟨hk.cell_of h.c0 hcb, hk.cell_of h.c1 hcb, hk.cell_of h.c2 hcb, fun j => by rw [hk.frozen (p := ⟨cb, j, none⟩) h.lt hcb]; exact h.z j, h.nums.keeps hk fun b hb => hS b (h.nums.le b hb).2 (by rw [h.p1 b hb]; rfl), h.p0, h.p1⟩
theorem RCh.role {w : World} {σ σ' : Nat → RRole} {k cb : Nat} {v : Value} {c : Ch} (h : RCh w σ k cb v c) (hx : ∀ b, b < w.heap.size → σ' b = σ b) : RCh w σ' k cb v c :=
  ⟨h.c0, h.c1, h.c2, h.z, h.nums, by rw [hx _ h.lt]; exact h.p0, fun b hb => by rw [hx _ (h.nums.le b hb).2]; exact h.p1 b hb⟩
/-- Of a channel in memory its rows are no part. -/
theorem RCh.same {w : World} {σ : Nat → RRole} {k cb : Nat} {v : Value} {c c' : Ch} (h : RCh w σ k cb v c) (h1 : c'.size = c.size) (h2 : c'.nums = c.nums) (h3 : c'.shut = c.shut) : RCh w σ k cb v c' :=
  ⟨by rw [h1]; exact h.c0, h.c1, by rw [h3]; exact h.c2, h.z, by rw [h2]; exact h.nums, h.p0, h.p1⟩

def cellsU (us : List (Int × Value)) : List Value := us.flatMap fun u => [.int .i64 u.1, u.2]
theorem cellsU_append (a b : List (Int × Value)) : cellsU (a ++ b) = cellsU a ++ cellsU b := by simp [cellsU]
theorem cellsU_len (r : List (Int × Value)) : (cellsU r).length = r.length * 2 := by
  induction r with
  | nil => rfl
  | cons w r ih =>
    have : cellsU (w :: r) = .int .i64 w.1 :: w.2 :: cellsU r := rfl
    rw [this, List.length_cons, List.length_cons, ih, List.length_cons]; omega
theorem cellsU_get : ∀ (l : List (Int × Value)) (i : Nat) (x : Int × Value), l[i]? = some x → (cellsU l)[i * 2]? = some (.int .i64 x.1) ∧ (cellsU l)[i * 2 + 1]? = some x.2 := by
  intro l
  induction l with
  | nil => intro i x h; cases h
  | cons p r ih =>
    intro i x h
    have e : cellsU (p :: r) = .int .i64 p.1 :: p.2 :: cellsU r := rfl
    cases i with
    | zero => cases h; exact ⟨rfl, rfl⟩
    | succ i =>
      have := ih i x (by simpa using h)
      rw [e]
      refine ⟨?_, ?_⟩
      · rw [show (i + 1) * 2 = i * 2 + 1 + 1 by omega]; simpa using this.1
      · rw [show (i + 1) * 2 + 1 = i * 2 + 1 + 1 + 1 by omega]; simpa using this.2
/-- Those that wait, each with its talks. -/
def Wts (w : World) (σ : Nat → RRole) (us : List (Int × Value)) (ws : List (Int × List Tk)) : Prop :=
  us.length = ws.length ∧ ∀ (i : Nat) u x, us[i]? = some u → ws[i]? = some x → u.1 = x.1 ∧ TalksAt w u.2 x.2 ∧ ∀ b, u.2.ownBlock = some b → σ b = .talks
theorem TalksAt.lt {w : World} {v : Value} {l : List Tk} (h : TalksAt w v l) (hl : 0 < l.length) : ∀ b, v.ownBlock = some b → b < w.heap.size := fun b hb => by
  obtain ⟨ao, n, cap, rfl, hn, _, _, hx⟩ := h
  obtain ⟨g, o, rfl, h1, _⟩ := hx (by omega)
  cases hb
  exact h1
theorem Wts.keeps {S : Nat → Prop} {w w' : World} {σ σ' : Nat → RRole} {us : List (Int × Value)} {ws : List (Int × List Tk)} (h : Wts w σ us ws) (hk : Keeps S w w') (hS : ∀ b, σ b = .talks → ¬ S b) (hx : ∀ b, σ b ≠ .free → σ' b = σ b) : Wts w' σ' us ws :=
  ⟨h.1, fun i u x hu hx' => by
    obtain ⟨h1, h2, h3⟩ := h.2 i u x hu hx'
    exact ⟨h1, h2.keeps hk fun b hb => hS b (h3 b hb), fun b hb => by rw [hx b (by rw [h3 b hb]; simp)]; exact h3 b hb⟩⟩
/-- All channels, and those that wait, in memory. -/
structure RefsAt (w : World) (σ : Nat → RRole) (rb : Nat) (vl : Value) (ptr : List Nat) (vw : Value) (us : List (Int × Value)) (s : St) (ws : List (Int × List Tk)) : Prop where
  c0 : w.cell? ⟨rb, 0, none⟩ = some vl
  c1 : w.cell? ⟨rb, 1, none⟩ = some vw
  z : ∀ j, w.frozen? ⟨rb, j, none⟩ = false
  row : w.ownsRow 0 69 1 vl ptr.length (ptr.map fun b => .pointer (some ⟨b, 0, none⟩))
  len : ptr.length = s.chs.length
  chs : ∀ (k cb : Nat) c, ptr[k]? = some cb → s.chs[k]? = some c → ∃ v, RCh w σ k cb v c
  wrow : w.ownsRow 0 83 2 vw us.length (cellsU us)
  wts : Wts w σ us ws
  p0 : σ rb = .pipes
  p1 : ∀ b, vl.ownBlock = some b → σ b = .chans
  p2 : ∀ b, vw.ownBlock = some b → σ b = .waiters
  dom : ∀ b, σ b ≠ .free → b < w.heap.size
  ok : Ok s
  rel : Rel s ws
theorem RefsAt.lt {w : World} {σ : Nat → RRole} {rb : Nat} {vl : Value} {ptr : List Nat} {vw : Value} {us : List (Int × Value)} {s : St} {ws : List (Int × List Tk)} (h : RefsAt w σ rb vl ptr vw us s ws) : rb < w.heap.size := block_lt_of_cell h.c0
section
variable {w w' : World} {σ σ' : Nat → RRole} {rb : Nat} {vl : Value} {ptr : List Nat} {vw : Value} {us : List (Int × Value)} {s : St} {ws : List (Int × List Tk)}
/-- What others do; new blocks may be somebody's. -/
theorem RefsAt.same (h : RefsAt w σ rb vl ptr vw us s ws) {S : Nat → Prop} (hk : Keeps S w w') (hx : ∀ b, b < w.heap.size → σ' b = σ b) (hd : ∀ b, σ' b ≠ .free → b < w'.heap.size) (hS : ∀ b, S b → σ b = .free) : RefsAt w' σ' rb vl ptr vw us s ws := by
  have hn : ∀ b, σ b ≠ .free → ¬ S b := fun b hb e => hb (hS b e)
  have hrb := hn rb (by rw [h.p0]; simp)
  have hxf : ∀ b, σ b ≠ .free → σ' b = σ b := fun b hb => hx b (h.dom b hb)
  refine ⟨hk.cell_of h.c0 hrb, hk.cell_of h.c1 hrb, fun j => by rw [hk.frozen (p := ⟨rb, j, none⟩) h.lt hrb]; exact h.z j, hk.row h.row fun b hb => hn b (by rw [h.p1 b hb]; simp), h.len, fun k cb c hcb hc => ?_, hk.row h.wrow fun b hb => hn b (by rw [h.p2 b hb]; simp),
    h.wts.keeps hk (fun b hb => hn b (by rw [hb]; simp)) hxf, by rw [hxf _ (by rw [h.p0]; simp)]; exact h.p0, fun b hb => by rw [hxf _ (by rw [h.p1 b hb]; simp)]; exact h.p1 b hb, fun b hb => by rw [hxf _ (by rw [h.p2 b hb]; simp)]; exact h.p2 b hb, hd, h.ok, h.rel⟩
  obtain ⟨v, h1⟩ := h.chs k cb c hcb hc
  exact ⟨v, (h1.role hx).keeps hk fun b hbl hb => hn b fun e => by rw [hx b hbl, e] at hb; exact hb⟩
theorem RefsAt.keeps (h : RefsAt w σ rb vl ptr vw us s ws) {S : Nat → Prop} (hk : Keeps S w w') (hS : ∀ b, b < w.heap.size → S b → σ b = .free) : RefsAt w' σ rb vl ptr vw us s ws :=
  h.same (S := fun b => S b ∧ b < w.heap.size) (hk.mono fun _ hb e => ⟨e, hb⟩) (fun _ _ => rfl) (fun b hb => Nat.lt_of_lt_of_le (h.dom b hb) hk.size) fun b e => hS b e.2 e.1
/-- One channel turns. -/
theorem RefsAt.put (h : RefsAt w σ rb vl ptr vw us s ws) {S : Nat → Prop} (hk : Keeps S w w') (hx : ∀ b, b < w.heap.size → σ' b = σ b) (hd : ∀ b, σ' b ≠ .free → b < w'.heap.size) (k : Nat) (hS : ∀ b, S b → σ b = .free ∨ (σ b).of k) {c' : Ch}
    (hc : ∀ cb, ptr[k]? = some cb → ∃ v, RCh w' σ' k cb v c') (ok : Ok ⟨s.chs.set k c', s.asks⟩) (rel : Rel ⟨s.chs.set k c', s.asks⟩ ws) : RefsAt w' σ' rb vl ptr vw us ⟨s.chs.set k c', s.asks⟩ ws := by
  have hn : ∀ b r, σ b = r → r ≠ .free → ¬ r.of k → ¬ S b := fun b r hr h1 h2 e => by
    rcases hS b e with h3 | h3
    · exact h1 (hr.symm.trans h3)
    · exact h2 (hr ▸ h3)
  have hrb : ¬ S rb := hn _ _ h.p0 (by simp) id
  have hxf : ∀ b, σ b ≠ .free → σ' b = σ b := fun b hb => hx b (h.dom b hb)
  refine ⟨hk.cell_of h.c0 hrb, hk.cell_of h.c1 hrb, fun j => by rw [hk.frozen (p := ⟨rb, j, none⟩) h.lt hrb]; exact h.z j, hk.row h.row fun b hb => hn b _ (h.p1 b hb) (by simp) id, by simpa using h.len, fun j cb c hcb hj => ?_, hk.row h.wrow fun b hb => hn b _ (h.p2 b hb) (by simp) id,
    h.wts.keeps hk (fun b hb => hn b _ hb (by simp) id) hxf, by rw [hxf _ (by rw [h.p0]; simp)]; exact h.p0, fun b hb => by rw [hxf _ (by rw [h.p1 b hb]; simp)]; exact h.p1 b hb, fun b hb => by rw [hxf _ (by rw [h.p2 b hb]; simp)]; exact h.p2 b hb, hd, ok, rel⟩
  by_cases e : k = j
  · subst e
    have hkl : k < s.chs.length := by simpa using (List.getElem?_eq_some_iff.1 hj).1
    rw [List.getElem?_set_self hkl] at hj
    cases hj
    exact hc cb hcb
  · rw [List.getElem?_set_ne e] at hj
    obtain ⟨v, h1⟩ := h.chs j cb c hcb hj
    refine ⟨v, (h1.role hx).keeps hk fun b hbl hb e2 => ?_⟩
    rw [hx b hbl] at hb
    rcases hS b e2 with h3 | h3
    · rw [h3] at hb; exact hb
    · exact e (RRole.of_of h3 hb)
/-- Others wait. -/
theorem RefsAt.turn (h : RefsAt w σ rb vl ptr vw us s ws) {S : Nat → Prop} (hk : Keeps S w w') (hx : ∀ b, b < w.heap.size → σ' b = σ b) (hS : ∀ b, S b → σ b = .free ∨ σ b = .waiters) {vw' : Value} {us' : List (Int × Value)} {s' : St} {ws' : List (Int × List Tk)}
    (hl : s'.chs.length = s.chs.length) (hc : ∀ (k : Nat) c', s'.chs[k]? = some c' → ∃ c, s.chs[k]? = some c ∧ c'.size = c.size ∧ c'.nums = c.nums ∧ c'.shut = c.shut) (hr : w'.ownsRow 0 83 2 vw' us'.length (cellsU us')) (hw : Wts w' σ' us' ws')
    (hp : ∀ b, vw'.ownBlock = some b → σ' b = .waiters) (hd : ∀ b, σ' b ≠ .free → b < w'.heap.size) (ok : Ok s') (rel : Rel s' ws') (ht : ∀ b, σ' b = .talks → b ≠ rb) : RefsAt (w'.setCell ⟨rb, 1, none⟩ vw') σ' rb vl ptr vw' us' s' ws' := by
  have hn : ∀ b r, σ b = r → r ≠ .free → r ≠ .waiters → ¬ S b := fun b r hr h1 h2 e => by
    rcases hS b e with h3 | h3
    · exact h1 (hr.symm.trans h3)
    · exact h2 (hr.symm.trans h3)
  have hrb : ¬ S rb := hn _ _ h.p0 (by simp) (by simp)
  have hxf : ∀ b, σ b ≠ .free → σ' b = σ b := fun b hb => hx b (h.dom b hb)
  have hrr : σ' rb = .pipes := by rw [hxf _ (by rw [h.p0]; simp)]; exact h.p0
  have hs := keeps_set1 w' ⟨rb, 1, none⟩ vw'
  have hne : ∀ b r, σ' b = r → r ≠ .pipes → ¬ b = rb := fun b r hb h1 e => h1 (by rw [← hb, e, hrr])
  refine ⟨?_, World.cell?_setCell_same _ _ _ (hk.cell_of h.c1 hrb), fun j => by rw [World.frozen?_setCell, hk.frozen (p := ⟨rb, j, none⟩) h.lt hrb]; exact h.z j, ?_, by rw [hl]; exact h.len, fun k cb c' hcb hc' => ?_, ?_, ?_, hrr, fun b hb => by rw [hxf _ (by rw [h.p1 b hb]; simp)]; exact h.p1 b hb, hp, fun b hb => by (have := hd b hb; rw [World.size_setCell]; exact this), ok, rel⟩
  · rw [cell_set_other (off_ne (by decide) rb)]; exact hk.cell_of h.c0 hrb
  · exact hs.row (hk.row h.row fun b hb => hn b _ (h.p1 b hb) (by simp) (by simp)) fun b hb => hne b .chans (by rw [hxf _ (by rw [h.p1 b hb]; simp)]; exact h.p1 b hb) (by simp)
  · obtain ⟨c, h1, h2, h3, h4⟩ := hc k c' hc'
    obtain ⟨v, h5⟩ := h.chs k cb c hcb h1
    refine ⟨v, RCh.same (RCh.keeps ((h5.role hx).keeps hk fun b hbl hb e2 => ?_) hs fun b hbl hb e => ?_) h2 h3 h4⟩
    · rw [hx b hbl] at hb
      rcases hS b e2 with h6 | h6 <;> rw [h6] at hb <;> exact hb
    · simp only at e
      rw [e, hrr] at hb
      exact hb
  · exact hs.row hr fun b hb => hne b .waiters (hp b hb) (by simp)
  · exact hw.keeps hs (fun b hb => ht b hb) fun _ _ => rfl
end
end Go.Proofs.YtppbmhpbbiigaaaDoor

namespace Go.Proofs.YtppbmhpbbiigaaaDoor
open Go.RowKit Go.Maps Pp

/-- Channels that are of the law's own. -/
structure Live (w0 w : World) (ρ : Nat → Role) (pb N : Nat) (s : St) : Prop where
  pipes : Pipes w ρ pb N s
  own : ∀ b, ρ b ≠ .free → w0.heap.size ≤ b
  below : Below w0.heap.size w0 w
theorem Live.dom {w0 w : World} {ρ : Nat → Role} {pb N : Nat} {s : St} (h : Live w0 w ρ pb N s) : ∀ b, ρ b ≠ .free → b < w.heap.size := by
  obtain ⟨_, vch, ptr, mb, D, h1⟩ := h.pipes
  exact h1.dom
theorem Live.free {w0 w : World} {ρ : Nat → Role} {pb N : Nat} {s : St} (h : Live w0 w ρ pb N s) {b : Nat} (hb : w.heap.size ≤ b ∨ b < w0.heap.size) : ρ b = .free := Classical.byContradiction fun e => by
  have := h.dom b e
  have := h.own b e
  omega
/-- What others do. -/
theorem Live.keeps {w0 w w' : World} {ρ : Nat → Role} {pb N : Nat} {s : St} (h : Live w0 w ρ pb N s) {S : Nat → Prop} (hk : Keeps S w w') (hS : ∀ b, b < w.heap.size → S b → ρ b = .free ∧ w0.heap.size ≤ b) : Live w0 w' ρ pb N s :=
  ⟨h.pipes.keeps hk fun b hb e => (hS b hb e).1, h.own, h.below.trans (hk.below h.below.size fun b hb e => (hS b hb e).2)⟩
theorem Live.new {w0 w w' : World} {ρ : Nat → Role} {pb N : Nat} {s : St} (h : Live w0 w ρ pb N s) (hk : Keeps (fun _ => False) w w') : Live w0 w' ρ pb N s := h.keeps hk fun _ _ e => e.elim
/-- The first channels: none. -/
theorem live_zero {w0 w : World} (hb : Below w0.heap.size w0 w) (t : TypeId) : ∃ ρ, Live w0 (w.alloc (.cells #[.slice none 0 0, .map none] t)) ρ w.heap.size 0 Pp.zero := by
  have hs := hb.size
  refine ⟨fun b => if b = w.heap.size then .pipes else .free, ⟨Ok.zero, .slice none 0 0, [], none, .map [], ?_⟩, fun b hb2 => ?_, hb.alloc hs _⟩
  · refine ⟨by rw [World.cell?_alloc_at _ _ _ _ rfl]; rfl, by rw [World.cell?_alloc_at _ _ _ _ rfl]; rfl, fun j => by rw [World.frozen?_alloc_at _ _ _ _ rfl], World.ownsRow_nil _ _ _ _, rfl, Nat.zero_le _, fun k cb c hcb => (by simp at hcb), fun k c hc => (by simp [Pp.zero] at hc),
      fun _ => rfl, fun b e => (by cases e), fun t => rfl, fun t l hl => (by cases hl), by simp, fun b e => (by cases e), fun b hb2 => ?_⟩
    by_cases e : b = w.heap.size
    · subst e; simp
    · simp [e] at hb2
  · by_cases e : b = w.heap.size
    · omega
    · simp [e] at hb2
/-- Behind a talk. -/
structure TalkL (w0 w w' : World) (ρ : Nat → Role) (pb N : Nat) (r : Pp.Told) (vw : Value) : Prop where
  live : ∃ ρ', Live w0 w' ρ' pb (N + 1) r.st ∧ (∀ g, g < w.heap.size → ρ' g = ρ g) ∧ ∀ g, vw.ownBlock = some g → ρ' g = .free
  wk : w'.ownsRow w.heap.size 65 3 vw r.wakes.length (cellsK r.wakes)
  keep : Keeps (fun b => ρ b ≠ .free) w w'
theorem Live.step {w0 w w' : World} {ρ ρ' : Nat → Role} {pb N N' : Nat} {s s' : St} (h : Live w0 w ρ pb N s) (hp : Pipes w' ρ' pb N' s') (hx : ∀ g, g < w.heap.size → ρ' g = ρ g) (hk : Keeps (fun b => ρ b ≠ .free) w w') : Live w0 w' ρ' pb N' s' :=
  ⟨hp, fun b hb => by
    rcases Nat.lt_or_ge b w.heap.size with h1 | h1
    · rw [hx b h1] at hb; exact h.own b hb
    · exact Nat.le_trans h.below.size h1, h.below.trans (hk.below h.below.size fun b _ e => h.own b e)⟩
theorem live_talk0 {w0 w : World} {ρ : Nat → Role} {pb N : Nat} {s : St} (h : Live w0 w ρ pb N s) (hN : N ≤ 100000) (task : Int) (hwf : (Lit.int .i64 task).wf = true) {v : Value} {l : List Tk} (hl : TalksAt w v l) (hvo : 0 < l.length → ∀ g, v.ownBlock = some g → ρ g = .free)
    (draw : Int) (hd : -9223372036854775808 ≤ draw ∧ draw ≤ 9223372036854775807) {r : Pp.Told} (hr : Pp.talk s task l draw = r) {er : Value} (he : errV r.err = er) :
    Calls Tryd.prog 9 #[.pointer (some ⟨pb, 0, none⟩), .int .i64 task, v, .int .i64 draw] w fun e w' => ∃ vw, e = .returned (.tuple #[.agg #[.int .i64 r.case, .int .i64 r.n], vw, .bool r.waits, er]) ∧
      TalkL w0 w w' ρ pb N r vw := by
  subst hr
  subst he
  refine (talk_any0 h.pipes hN task hwf hl hvo draw hd).mono ?_
  rintro e w' ⟨vw, rfl, ⟨ρ', h1, h2, h3⟩, h4, h5⟩
  exact ⟨vw, rfl, ⟨ρ', h.step h1 h2 h5, h2, h3⟩, h4, h5⟩
theorem live_talk {w0 w : World} {ρ : Nat → Role} {pb N : Nat} {s : St} (h : Live w0 w ρ pb N s) (hN : N ≤ 100000) (task : Int) (hwf : (Lit.int .i64 task).wf = true) {v : Value} {l : List Tk} (hl : TalksAt w v l) (hvo : ∀ g, v.ownBlock = some g → ρ g = .free)
    (draw : Int) (hd : -9223372036854775808 ≤ draw ∧ draw ≤ 9223372036854775807) {r : Pp.Told} (hr : Pp.talk s task l draw = r) {er : Value} (he : errV r.err = er) :
    Calls Tryd.prog 9 #[.pointer (some ⟨pb, 0, none⟩), .int .i64 task, v, .int .i64 draw] w fun e w' => ∃ vw, e = .returned (.tuple #[.agg #[.int .i64 r.case, .int .i64 r.n], vw, .bool r.waits, er]) ∧
      TalkL w0 w w' ρ pb N r vw :=
  live_talk0 h hN task hwf hl (fun _ => hvo) draw hd hr he
theorem live_make {w0 w : World} {ρ : Nat → Role} {pb N : Nat} {s : St} (h : Live w0 w ρ pb N s) (n : Nat) (hn : n ≤ 8) (hm : s.chs.length < 32) :
    Calls Tryd.prog 6 #[.pointer (some ⟨pb, 0, none⟩), .int .i64 (n : Nat)] w fun e w' => e = .returned (.tuple #[.int .i64 ((s.chs.length : Int) + 1), .nilIface]) ∧
      (∃ ρ', Live w0 w' ρ' pb N ⟨s.chs ++ [newCh n], s.asks⟩ ∧ ∀ g, g < w.heap.size → ρ' g = ρ g) ∧ Keeps (fun b => ρ b ≠ .free) w w' := by
  have hv : makeV s (n : Int) = ⟨(s.chs.length : Int) + 1, 0, ⟨s.chs ++ [newCh n], s.asks⟩⟩ := by unfold makeV; rw [if_neg (by omega), if_neg (by omega), Int.toNat_natCast]
  refine (make_any h.pipes (n : Int)).mono ?_
  rintro e w' ⟨rfl, ⟨ρ', h1, h2⟩, h3⟩
  rw [hv] at h1
  rw [hv]
  exact ⟨rfl, ⟨ρ', h.step h1 h2 h3, h2⟩, h3⟩
/-- A slice of one talk that was just made. -/
theorem talk_one (w : World) (x : Tk) (t : TypeId) {b : Nat} (hb : b = w.heap.size) : TalksAt (w.alloc (.cells #[.int .i64 x.what, .int .i64 x.chan, .int .i64 x.n] t)) (.slice (some ⟨b, 0, none⟩) 1 1) [x] := by
  subst hb
  refine ⟨_, _, _, rfl, rfl, Nat.le_refl _, by unfold maxLen; decide, fun _ => ⟨w.heap.size, 0, rfl, by simp, fun i y hy => ?_⟩⟩
  have h0 : i = 0 := by
    have := (List.getElem?_eq_some_iff.1 hy).1
    simpa using this
  subst h0
  simp at hy
  subst hy
  rw [World.cell?_alloc_at _ _ _ _ rfl, World.cell?_alloc_at _ _ _ _ rfl, World.cell?_alloc_at _ _ _ _ rfl]
  exact ⟨rfl, rfl, rfl⟩
theorem alloc_new (w : World) (o : Obj) : Keeps (fun _ => False) w (w.alloc o) := (Keeps.refl _ w).alloc o
theorem wf_small (n : Int) (h : -9223372036854775808 ≤ n ∧ n ≤ 9223372036854775807) : (Lit.int .i64 n).wf = true := by
  simp [Lit.wf, IntKind.min, IntKind.max, IntKind.signed, IntKind.bits]
  omega
/-- The first one that goes on. -/
theorem wake_cells {w : World} {B : Nat} {v : Value} {x : Wk} {l : List Wk} (h : w.ownsRow B 65 3 v (x :: l).length (cellsK (x :: l))) : ∃ g cap, v = .slice (some ⟨g, 0, none⟩) (x :: l).length cap ∧ (x :: l).length ≤ cap ∧ cap ≤ maxLen ∧
    w.cell? ⟨g, 0, none⟩ = some (.int .i64 x.task) ∧ w.cell? ⟨g, 1, none⟩ = some (.int .i64 (x.case : Int)) ∧ w.cell? ⟨g, 2, none⟩ = some (.int .i64 x.n) := by
  have hc := h
  rcases h.2 with ⟨rfl, h0⟩ | ⟨g, cap, cur, rfl, _, _, h1, h2, _⟩
  · cases h0
  · refine ⟨g, cap, rfl, h1, h2, ?_, ?_, ?_⟩
    · have := World.ownsRow.cells hc (g := g) rfl 0 (.int .i64 x.task) rfl
      rwa [addr_addP] at this
    · have := World.ownsRow.cells hc (g := g) rfl 1 (.int .i64 (x.case : Int)) rfl
      rwa [addr_addP] at this
    · have := World.ownsRow.cells hc (g := g) rfl 2 (.int .i64 x.n) rfl
      rwa [addr_addP] at this
def pipedS : St := ⟨[newCh 0], fun _ => none⟩
set_option maxRecDepth 100000 in
set_option maxHeartbeats 6400000 in
theorem piped_any (w : World) : Calls Tryd.prog 20 #[] w fun e w' => e = .returned (.bool true) ∧ Below w.heap.size w w' := by
  obtain ⟨ρ0, h0⟩ := live_zero (Below.refl w.heap.size w) 31
  have H0 := Lib.hid h0
  clear h0
  go_enter Tryd.func20, Tryd.ntmps20
  go_wp2_with fail
  refine (live_make H0.out 0 (by decide) (by decide)).mono ?_
  rintro e w1 ⟨rfl, ⟨ρ1, h1, -⟩, -⟩
  have H1 : Hid (Live w w1 ρ1 w.heap.size 0 pipedS) := Lib.hid h1
  rw [show ((Pp.zero.chs.length : Int) + 1) = 1 from rfl]
  clear h1
  have H2 : Hid (Live w (w1.alloc (.cells #[.int .i64 3, .int .i64 1, .int .i64 7] 85)) ρ1 w.heap.size 0 pipedS) := Lib.hid (H1.out.new (alloc_new _ _))
  have HF2 : Hid (ρ1 w1.heap.size = .free) := Lib.hid (H1.out.free (Or.inl (Nat.le_refl _)))
  go_wp2_with fail
  refine (live_talk H2.out (by decide) 1 (by decide) (talk_one w1 ⟨3, 1, 7⟩ _ rfl) (fun g hg => by cases hg; exact HF2.out) 0 (by decide) (r := ⟨Pp.wait pipedS 1 [⟨3, 1, 7⟩], 0, 0, [], true, 0⟩) rfl (er := .nilIface) rfl).mono ?_
  rintro e w3 ⟨vw, rfl, ⟨ρ3, h3, -⟩, hw3, -⟩
  have H4 : Hid (Live w ((w3.alloc (.cells #[.int .i64 0, .int .i64 0] 44)).alloc (.cells #[.int .i64 10, .int .i64 1, .int .i64 0] 85)) ρ3 w.heap.size (0 + 1) (Pp.wait pipedS 1 [⟨3, 1, 7⟩])) := Lib.hid ((h3.new (alloc_new _ _)).new (alloc_new _ _))
  have HF3 : Hid (ρ3 (w3.heap.size + 1) = .free) := Lib.hid (h3.free (Or.inl (Nat.le_succ _)))
  clear h3 hw3
  go_wp2_with fail
  refine (live_talk H4.out (by decide) 2 (by decide) (talk_one (w3.alloc (.cells #[.int .i64 0, .int .i64 0] 44)) ⟨10, 1, 0⟩ _ (by simp)) (fun g hg => by cases hg; exact HF3.out) 0 (by decide) (r := ⟨Pp.wake (Pp.wait pipedS 1 [⟨3, 1, 7⟩]) 1, 0, 7, [⟨1, 0, 0⟩], false, 0⟩) rfl (er := .nilIface) rfl).mono ?_
  rintro e w5 ⟨vw2, rfl, ⟨ρ5, h5, -⟩, hw5, -⟩
  have H5 := Lib.hid h5.below
  obtain ⟨g, cap, rfl, hcap, hcm, c0, -, -⟩ := wake_cells hw5
  have d0 : (w5.alloc (.cells #[.int .i64 0, .int .i64 7] 44)).cell? ⟨g, 0, none⟩ = some (.int .i64 1) := Go.Lib.cell?_alloc_some _ c0
  clear h5 hw5
  go_wp2_with fail
  go_ret
  exact ⟨rfl, H5.out.alloc H5.out.size _⟩
end Go.Proofs.YtppbmhpbbiigaaaDoor

namespace Go.Proofs.YtppbmhpbbiigaaaDoor
open Go.RowKit

theorem pick_val (a : Int) (n : Nat) (h0 : 0 < n) (hn : n ≤ 9223372036854775807) : wrap64 ((IntKind.u64.wrap a).tmod n) = ((IntKind.u64.wrap a % (n : Int)).toNat : Int) ∧ (IntKind.u64.wrap a % (n : Int)).toNat < n := by
  have hu : 0 ≤ IntKind.u64.wrap a := by rw [IntKind.wrap_u64]; omega
  have e1 : (IntKind.u64.wrap a).tmod n = IntKind.u64.wrap a % n := Int.tmod_eq_emod_of_nonneg hu
  have l0 : 0 ≤ IntKind.u64.wrap a % (n : Int) := Int.emod_nonneg _ (by omega)
  have l1 : IntKind.u64.wrap a % (n : Int) < n := Int.emod_lt_of_pos _ (by omega)
  rw [e1]
  refine ⟨?_, by omega⟩
  rw [IntWalk.wrap64_in _ ⟨by omega, by omega⟩]; omega

set_option maxHeartbeats 400000 in
theorem pick_any (a : Int) (n : Nat) (w : World) (h0 : 0 < n) (hn : n ≤ 9223372036854775807) :
    Calls Tryd.prog 21 #[.int .i64 a, .int .i64 n] w fun e w' => ∃ r : Nat, r < n ∧ e = .returned (.int .i64 r) ∧ w = w' := by
  go_enter Tryd.func21, Tryd.ntmps21
  go_wp2_with fail
  go_ret
  obtain ⟨e, hl⟩ := pick_val a n h0 hn
  exact ⟨_, hl, by rw [← e]; rfl, rfl⟩
end Go.Proofs.YtppbmhpbbiigaaaDoor

namespace Go.Proofs.YtppbmhpbbiigaaaDoor
open Go.RowKit Go.Maps Pp

set_option maxRecDepth 100000 in
set_option maxHeartbeats 1600000 in
theorem rsend_any (w : World) (c n : Int) : Calls Tryd.prog 22 #[.int .i64 c, .int .i64 n] w fun e w' => e = .returned (.slice (some ⟨w.heap.size, 0, none⟩) 1 1) ∧ w' = w.alloc (.cells #[.int .i64 3, .int .i64 c, .int .i64 n] 85) := by
  go_enter Tryd.func22, Tryd.ntmps22
  go_wp2_with fail
  go_ret
  exact ⟨rfl, rfl⟩
set_option maxRecDepth 100000 in
set_option maxHeartbeats 1600000 in
theorem rrecv_any (w : World) (c : Int) : Calls Tryd.prog 23 #[.int .i64 c] w fun e w' => e = .returned (.slice (some ⟨w.heap.size, 0, none⟩) 1 1) ∧ w' = w.alloc (.cells #[.int .i64 10, .int .i64 c, .int .i64 0] 85) := by
  go_enter Tryd.func23, Tryd.ntmps23
  go_wp2_with fail
  go_ret
  exact ⟨rfl, rfl⟩
theorem cellsL_append (a b : List Tk) : cellsL (a ++ b) = cellsL a ++ cellsL b := by simp [cellsL]
/-- Talks of one's own. -/
def OwnT (w : World) (B : Nat) (v : Value) (l : List Tk) : Prop := w.ownsRow B 85 3 v l.length (cellsL l)
theorem OwnT.slice {w : World} {B : Nat} {v : Value} {l : List Tk} (h : OwnT w B v l) : ∃ ao cap, v = .slice ao l.length cap := by
  rcases h.2 with ⟨rfl, h0⟩ | ⟨g, cap, cur, rfl, _⟩
  · exact ⟨none, 0, by rw [h0]⟩
  · exact ⟨_, _, rfl⟩
/-- 'l = append(l, x)'. -/
theorem wpList_appendT {ops : Array Oper} {rest : List Oper} {o : Oper} {a : Act} {Q : Exit → Act → World → Prop} (hgd : o.guard = none) (s x : Operand)
    (ho : o.op = .call { callee := .builtin .append, args := #[s, x], argTypes := #[32, 32] }) (w : World) (B : Nat) (v : Value) (l : List Tk) (y : Tk) (hown : OwnT w B v l) (hs : a.eval s = v) {b : Nat} (hb : b = w.heap.size)
    (hx : a.eval x = .slice (some ⟨b, 0, none⟩) 1 1) (hl : l.length ≤ 1000000) (hB : B ≤ w.heap.size)
    (h : ∀ ao' cap' w', OwnT w' B (.slice ao' (l.length + 1) cap') (l ++ [y]) → Keeps (fun b => v.ownBlock = some b) w w' → (∀ k, (Value.slice ao' (l.length + 1) cap').ownBlock = some k → v.ownBlock = some k ∨ w.heap.size ≤ k) →
      wpList Tryd.prog ops Q rest (a.put o.dst (.slice ao' (l.length + 1) cap')) w') : wpList Tryd.prog ops Q (o :: rest) a (w.alloc (.cells #[.int .i64 y.what, .int .i64 y.chan, .int .i64 y.n] 85)) := by
  subst hb
  obtain ⟨i0, hi, hz0, hz1, hz2⟩ := tinfoP info_talk
  have hnew : ∀ j u, [Value.int .i64 y.what, Value.int .i64 y.chan, Value.int .i64 y.n][j]? = some u → (w.alloc (.cells #[.int .i64 y.what, .int .i64 y.chan, .int .i64 y.n] 85)).cell? ((⟨w.heap.size, 0, none⟩ : Addr).add j) = some u := fun j u hu => by
    rw [addr_addP, World.cell?_alloc_at _ _ _ _ rfl]
    rcases j with _ | _ | _ | j
    · exact hu
    · exact hu
    · exact hu
    · simp at hu
  refine wpList_append_own_at _ hgd s x 32 ho B 85 i0 (.agg #[.int .i64 0, .int .i64 0, .int .i64 0]) 3 24 Tryd.underlying32 hi hz0 hz1 hz2 rfl (by decide) v l.length (cellsL l) hs (World.ownsRow.alloc hown _) ⟨w.heap.size, 0, none⟩ 1 1 [.int .i64 y.what, .int .i64 y.chan, .int .i64 y.n] hx rfl
    hnew (fun u hu => by simp at hu; rcases hu with rfl | rfl | rfl <;> rfl) (by unfold maxLen; omega) (by omega) (by simp; omega) ?_
  intro v' w' h1 h2 _ h4
  have hO : OwnT w' B v' (l ++ [y]) := by
    unfold OwnT
    rw [cellsL_append, List.length_append]
    exact h1
  obtain ⟨ao', cap', e⟩ := hO.slice
  rw [List.length_append] at e
  have e' : v' = .slice ao' (l.length + 1) cap' := e
  subst e'
  refine h _ _ _ hO (keeps_append h2 fun k e => e) fun k hk => ?_
  rcases h4 with h4 | h4
  · exact Or.inl (h4 ▸ hk)
  · rw [h4] at hk
    cases hk
    exact Or.inr (by simp)
end Go.Proofs.YtppbmhpbbiigaaaDoor

namespace Go.Proofs.YtppbmhpbbiigaaaDoor
open Go.RowKit Go.Maps Pp

theorem rowT_snoc (task what c : Int) (t : Tk) : ∀ (l : List Tk) (i : Nat), rowT task what c (l ++ [t]) i = rowT task what c l i ++ (if t.what = what ∧ t.chan = c then [(task, i + l.length)] else []) := by
  intro l
  induction l with
  | nil =>
    intro i
    rw [List.nil_append, rowT, rowT]
    split <;> rfl
  | cons x l ih =>
    intro i
    rw [List.cons_append, rowT, rowT]
    have e : i + 1 + l.length = i + (x :: l).length := by rw [List.length_cons]; omega
    split
    · rw [ih, List.cons_append, e]
    · rw [ih, e]
theorem rowT_take {task what c : Int} {l : List Tk} {j : Nat} {t : Tk} (h : l[j]? = some t) : rowT task what c (l.take (j + 1)) 0 = rowT task what c (l.take j) 0 ++ (if t.what = what ∧ t.chan = c then [(task, j)] else []) := by
  have hj := (List.getElem?_eq_some_iff.1 h).1
  rw [List.take_succ_eq_append_getElem hj, (List.getElem?_eq_some_iff.1 h).2, rowT_snoc, List.length_take, Nat.min_eq_left (Nat.le_of_lt hj), Nat.zero_add]
theorem rowR_take {what c : Int} {ws : List (Int × List Tk)} {k : Nat} {x : Int × List Tk} (h : ws[k]? = some x) : rowR (ws.take (k + 1)) what c = rowR (ws.take k) what c ++ rowT x.1 what c x.2 0 := by
  have hk := (List.getElem?_eq_some_iff.1 h).1
  rw [List.take_succ_eq_append_getElem hk, (List.getElem?_eq_some_iff.1 h).2, rowR_append, rowR_cons, rowR_nil, List.append_nil]
theorem rowR_len {what c : Int} : ∀ (ws : List (Int × List Tk)), (∀ x ∈ ws, x.2.length ≤ 6) → (rowR ws what c).length ≤ 6 * ws.length := by
  intro ws
  induction ws with
  | nil => intro _; exact Nat.zero_le _
  | cons x ws ih =>
    intro h
    have h1 := ih fun y hy => h y (List.mem_cons_of_mem _ hy)
    have h2 := h x List.mem_cons_self
    have h3 := rowT_len x.1 what c x.2 0
    rw [rowR_cons, List.length_append, List.length_cons]
    omega
theorem Pp.Rel.six {s : St} {ws : List (Int × List Tk)} (h : Rel s ws) (ok : Ok s) : ∀ x ∈ ws, x.2.length ≤ 6 := fun x hx => (ok.talks x.1 x.2 ((h.asks x.1 x.2).2 hx)).1
/-- Where one that waits lies. -/
theorem RefsAt.one {w : World} {σ : Nat → RRole} {rb : Nat} {vl : Value} {ptr : List Nat} {vw : Value} {us : List (Int × Value)} {s : St} {ws : List (Int × List Tk)} (h : RefsAt w σ rb vl ptr vw us s ws) {k : Nat} {x : Int × List Tk} (hx : ws[k]? = some x) :
    ∃ g cap ao c, vw = .slice (some ⟨g, 0, none⟩) ws.length cap ∧ g < w.heap.size ∧ us[k]? = some (x.1, .slice ao x.2.length c) ∧ w.cell? ⟨g, k * 2, none⟩ = some (.int .i64 x.1) ∧ w.cell? ⟨g, k * 2 + 1, none⟩ = some (.slice ao x.2.length c) ∧ TalksAt w (.slice ao x.2.length c) x.2 ∧
      ∀ b, (Value.slice ao x.2.length c).ownBlock = some b → σ b = .talks := by
  have hk := (List.getElem?_eq_some_iff.1 hx).1
  have hl := h.wts.1
  obtain ⟨u, hu⟩ : ∃ u, us[k]? = some u := ⟨_, List.getElem?_eq_getElem (by omega)⟩
  obtain ⟨h1, h2, h3⟩ := h.wts.2 k u x hu hx
  obtain ⟨ao, c, h4, _, _⟩ := h2.slice
  have hc := h.wrow
  rcases h.wrow.2 with ⟨_, h0⟩ | ⟨g, cap, cur, hv, hb, hg, _⟩
  · omega
  · obtain ⟨u1, u2⟩ := u
    simp only at h1 h2 h3 h4
    subst h1 h4
    obtain ⟨e1, e2⟩ := cellsU_get us k _ hu
    rw [hv] at hc
    have f1 := World.ownsRow.cells hc (g := g) rfl _ _ e1
    have f2 := World.ownsRow.cells hc (g := g) rfl _ _ e2
    rw [addr_addP, Nat.zero_add] at f1 f2
    exact ⟨g, cap, ao, c, by rw [hv, hl], (Array.getElem?_eq_some_iff.1 hg).1, hu, f1, f2, h2, h3⟩
theorem RefsAt.vws {w : World} {σ : Nat → RRole} {rb : Nat} {vl : Value} {ptr : List Nat} {vw : Value} {us : List (Int × Value)} {s : St} {ws : List (Int × List Tk)} (h : RefsAt w σ rb vl ptr vw us s ws) : ∃ ao cap, vw = .slice ao ws.length cap := by
  obtain ⟨ao, cap, e⟩ := own_slice h.wrow
  exact ⟨ao, cap, by rw [e, h.wts.1]⟩
/-- So far. -/
structure RRowJ (w wr : World) (av : Value) (r : List (Int × Nat)) : Prop where
  own : wr.ownsRow w.heap.size 90 2 av r.length (cellsW r)
  bel : Below w.heap.size w wr
theorem RRowJ.new {w wr w' : World} {av : Value} {r : List (Int × Nat)} (h : RRowJ w wr av r) (hk : Keeps (fun _ => False) wr w') : RRowJ w w' av r := ⟨hk.row h.own fun _ _ => id, h.bel.trans (hk.below h.bel.size fun _ _ e => e.elim)⟩

set_option maxRecDepth 100000 in
set_option maxHeartbeats 6400000 in
theorem rrow_any {w : World} {σ : Nat → RRole} {rb : Nat} {vl : Value} {ptr : List Nat} {vw : Value} {us : List (Int × Value)} {s : St} {ws : List (Int × List Tk)} (h : RefsAt w σ rb vl ptr vw us s ws) (hN : ws.length ≤ 10000) (c what : Int) :
    Calls Tryd.prog 30 #[.pointer (some ⟨rb, 0, none⟩), .int .i64 c, .int .i64 what] w fun e w' => ∃ u, e = .returned u ∧ w'.ownsRow w.heap.size 90 2 u (rowR ws what c).length (cellsW (rowR ws what c)) ∧ Below w.heap.size w w' := by
  obtain ⟨ao, cap, rfl⟩ := h.vws
  have HH := Lib.hid h
  have c1 := h.c1
  have HSIX := Lib.hid (h.rel.six h.ok)
  have HRL : Hid (∀ k, (rowR (ws.take k) what c).length ≤ 60000) := Lib.hid fun k => by
    have h1 := rowR_len (what := what) (c := c) (ws.take k) fun x hx => HSIX.out x (List.mem_of_mem_take hx)
    rw [List.length_take] at h1
    omega
  obtain ⟨n, hn⟩ : ∃ n, n = ws.length := ⟨_, rfl⟩
  have HNW := Lib.hid hn
  rw [← hn] at hN c1
  clear h
  rw [← hn] at HH
  clear hn
  go_enter Tryd.func30, Tryd.ntmps30
  go_wp2_with fail
  go_loopw [7, 17] (fun av iv wr => ∃ k : Nat, k ≤ n ∧ iv = .int .i64 k ∧ RRowJ w wr av (rowR (ws.take k) what c)) (fun _ iv _ => n - (intOf iv).toNat)
  case atStart => exact ⟨0, Nat.zero_le _, rfl, World.ownsRow_nil _ _ _ _, Below.refl _ _⟩
  case round =>
    obtain ⟨k, hk, rfl, hJ⟩ := hrel
    rename World => wr
    obtain ⟨aw, kw, hav⟩ := own_slice hJ.own
    subst hav
    have HJ := Lib.hid hJ
    clear hJ
    by_cases hkn : k < n
    · obtain ⟨x, hx⟩ : ∃ x, ws[k]? = some x := ⟨_, List.getElem?_eq_getElem (by rw [← HNW.out]; exact hkn)⟩
      obtain ⟨g, cap', aT, cT, hv, hg, -, y1, y2, hT, -⟩ := HH.out.one hx
      rw [Value.slice.injEq] at hv
      obtain ⟨rfl, -, rfl⟩ := hv
      obtain ⟨xt, xl⟩ := x
      simp only at y1 y2 hT
      have r1 := (HJ.out.bel.cell (p := ⟨g, k * 2, none⟩) hg).trans y1
      have r2 := (HJ.out.bel.cell (p := ⟨g, k * 2 + 1, none⟩) hg).trans y2
      have hx6 := HSIX.out _ (List.mem_of_getElem? hx)
      simp only at hx6
      have hki : (0 : Int) ≤ (k : Int) ∧ (k : Int) < (n : Int) := by omega
      have hka := alloc_new wr (.cells #[.int .i64 xt, .slice aT xl.length cT] 83)
      have HJ2 := Lib.hid (HJ.out.new hka)
      have HQ0 : Hid ((wr.alloc (.cells #[.int .i64 xt, .slice aT xl.length cT] 83)).cell? ⟨wr.heap.size, 0, none⟩ = some (.int .i64 xt)) := Lib.hid (by rw [World.cell?_alloc_at _ _ _ _ rfl]; rfl)
      have HOF0 : Hid (∀ b, (Value.slice aw (rowR (ws.take k) what c).length kw).ownBlock = some b → b ≠ wr.heap.size) := Lib.hid fun b hb => Nat.ne_of_lt (World.ownsRow.lt HJ.out.own b hb).2
      have HX := Lib.hid hx
      have HT := Lib.hid hT
      have hrl := HRL.out k
      clear y1 y2 hT hx hka hg
      have HRS := Lib.hid (rowR_take (what := what) (c := c) HX.out)
      simp only at HRS
      generalize rowR (ws.take k) what c = R at *
      go_wp2_with fail
      generalize wr.alloc (.cells #[.int .i64 xt, .slice aT xl.length cT] 83) = w0 at *
      generalize wr.heap.size = ba at *
      obtain ⟨m, hm⟩ : ∃ m, m = xl.length := ⟨_, rfl⟩
      have HM := Lib.hid hm
      rw [← hm] at hx6 HT ⊢
      clear hm
      go_loopw [7, 24] (fun av jv wx => ∃ j : Nat, j ≤ m ∧ jv = .int .i64 j ∧ RRowJ w wx av (R ++ rowT xt what c (xl.take j) 0) ∧ wx.cell? ⟨ba, 0, none⟩ = some (.int .i64 xt) ∧ ∀ b, av.ownBlock = some b → b ≠ ba) (fun _ jv _ => m - (intOf jv).toNat)
      case atStart => exact ⟨0, Nat.zero_le _, rfl, by simpa [rowT] using HJ2.out, HQ0.out, HOF0.out⟩
      case round =>
        obtain ⟨j, hj, rfl, hJx, hq, hof⟩ := hrel
        rename World => wx
        obtain ⟨ax, kx, hav⟩ := own_slice hJx.own
        subst hav
        have HJX := Lib.hid hJx
        have HQ := Lib.hid hq
        have HOF := Lib.hid hof
        have hrt := rowT_len xt what c (xl.take j) 0
        rw [List.length_take] at hrt
        have hR2 : (R ++ rowT xt what c (xl.take j) 0).length ≤ 70000 := by rw [List.length_append]; omega
        clear hJx hq hof HJ2 HQ0 HOF0 hrt
        by_cases hjm : j < m
        · obtain ⟨⟨tw, tc, tn⟩, ht⟩ : ∃ t, xl[j]? = some t := ⟨_, List.getElem?_eq_getElem (by rw [← HM.out]; exact hjm)⟩
          have htk : TalksAt wx (.slice aT m cT) xl := HT.out.keeps (Keeps.of_new (S := fun _ => False) HJX.out.bel) fun _ _ => id
          obtain ⟨b, o, rfl, hb, d1, d2, d3⟩ := htk.at ht
          simp only at d1 d2 d3
          have hji : (0 : Int) ≤ (j : Int) ∧ (j : Int) < (m : Int) := by omega
          have hka := alloc_new wx (.cells #[.int .i64 tw, .int .i64 tc, .int .i64 tn] 85)
          have HJY := Lib.hid (HJX.out.new hka)
          have q0 := Go.Lib.cell?_alloc_some (.cells #[.int .i64 tw, .int .i64 tc, .int .i64 tn] 85) HQ.out
          have HRT := Lib.hid (rowT_take (task := xt) (what := what) (c := c) ht)
          have HQY := Lib.hid q0
          clear htk ht hka hb
          simp only at HRT
          by_cases e1 : tw = what
          · by_cases e2 : tc = c
            · have HR2 : Hid (rowT xt what c (xl.take (j + 1)) 0 = rowT xt what c (xl.take j) 0 ++ [(xt, j)]) := Lib.hid (by rw [HRT.out, if_pos ⟨e1, e2⟩])
              have z1 : (tw == what) = true := by rw [beq_iff_eq]; exact e1
              have z2 : (tc == c) = true := by rw [beq_iff_eq]; exact e2
              have z3 : decide (tw = what) = true := decide_eq_true e1
              have z4 : decide (tc = c) = true := decide_eq_true e2
              clear e1 e2
              have HBS : Hid (w.heap.size ≤ (wx.alloc (.cells #[.int .i64 tw, .int .i64 tc, .int .i64 tn] 85)).heap.size) := Lib.hid HJY.out.bel.size
              have HBA : Hid (ba < (wx.alloc (.cells #[.int .i64 tw, .int .i64 tc, .int .i64 tn] 85)).heap.size) := Lib.hid (block_lt_of_cell HQY.out)
              go_upto_region 9 with fail
              generalize wx.alloc (.cells #[.int .i64 tw, .int .i64 tc, .int .i64 tn] 85) = wy at *
              have HSL : Hid (RowW (wy.alloc (.cells #[.int .i64 xt, .int .i64 (j : Int)] 90)) (.slice (some ⟨wy.heap.size, 0, none⟩) 1 1) [(xt, j)]) := Lib.hid ⟨rfl, Or.inr ⟨wy.heap.size, 1, #[.int .i64 xt, .int .i64 (j : Int)], rfl, Nat.zero_le _, by show (wy.heap.push _)[wy.heap.size]? = _; simp, Nat.le_refl _, by unfold maxLen; decide, rfl, rfl⟩⟩
              have HJZ := Lib.hid (HJY.out.new (alloc_new wy (.cells #[.int .i64 xt, .int .i64 (j : Int)] 90)))
              have HQZ := Lib.hid (Go.Lib.cell?_alloc_some (.cells #[.int .i64 xt, .int .i64 (j : Int)] 90) HQY.out)
              go_wp2_with (at_builtin; refine wpList_appendWk rfl _ _ rfl _ w.heap.size _ _ (R ++ rowT xt what c (xl.take j) 0) [(xt, j)] HJZ.out.own rfl HSL.out rfl (by simp only [List.length_singleton]; omega) (Nat.le_trans HBS.out (by simp)) ?_; intro v9 w9 ho9 hk9 hn9; have HO9 := Lib.hid ho9; have HK9 := Lib.hid hk9; have HN9 := Lib.hid hn9; clear ho9 hk9 hn9)
              go_roundw
              case rel =>
                refine ⟨j + 1, by omega, by go_num, ⟨?_, ?_⟩, ?_, ?_⟩
                · rw [HR2.out, ← List.append_assoc]; exact HO9.out
                · exact HJZ.out.bel.trans (HK9.out.below HJZ.out.bel.size fun b _ e => (World.ownsRow.lt HJZ.out.own b e).1)
                · exact HK9.out.cell_of HQZ.out fun e => HOF.out _ e rfl
                · intro b hb
                  rcases HN9.out b hb with e | e
                  · exact HOF.out b e
                  · have := HBA.out
                    simp at e
                    omega
              case measure => simp [intOf]; omega
            · have HR2 : Hid (rowT xt what c (xl.take (j + 1)) 0 = rowT xt what c (xl.take j) 0) := Lib.hid (by rw [HRT.out, if_neg (fun e => e2 e.2), List.append_nil])
              have z1 : (tw == what) = true := by rw [beq_iff_eq]; exact e1
              have z3 : decide (tw = what) = true := decide_eq_true e1
              have z2 : (tc == c) = false := by rw [beq_eq_false_iff_ne]; exact e2
              have z4 : decide (tc = c) = false := decide_eq_false e2
              clear e1
              go_wp2_with fail
              go_roundw
              case rel => exact ⟨j + 1, by omega, by go_num, by rw [HR2.out]; exact HJY.out, HQY.out, HOF.out⟩
              case measure => simp [intOf]; omega
          · have HR2 : Hid (rowT xt what c (xl.take (j + 1)) 0 = rowT xt what c (xl.take j) 0) := Lib.hid (by rw [HRT.out, if_neg (fun e => e1 e.1), List.append_nil])
            have z1 : (tw == what) = false := by rw [beq_eq_false_iff_ne]; exact e1
            have z3 : decide (tw = what) = false := decide_eq_false e1
            go_wp2_with fail
            go_roundw
            case rel => exact ⟨j + 1, by omega, by go_num, by rw [HR2.out]; exact HJY.out, HQY.out, HOF.out⟩
            case measure => simp [intOf]; omega
        · obtain rfl : j = m := by omega
          have hjj : ¬ (j : Int) < (j : Int) := by omega
          have HTL : Hid (xl.take j = xl) := Lib.hid (by rw [HM.out]; exact List.take_length)
          go_wp2_with fail
          go_roundw
          case rel =>
            refine ⟨k + 1, by omega, by go_num, ?_⟩
            have := HJX.out
            rw [HTL.out] at this ⊢
            rw [HRS.out]
            exact this
          case measure => simp [intOf]; omega
    · obtain rfl : k = n := by omega
      have hkk : ¬ (k : Int) < (k : Int) := by omega
      have HTL : Hid (ws.take k = ws) := Lib.hid (by rw [HNW.out]; exact List.take_length)
      go_wp2_with fail
      go_ret
      refine ⟨_, rfl, ?_, HJ.out.bel⟩
      have := HJ.out.own
      rw [HTL.out] at this ⊢
      exact this
end Go.Proofs.YtppbmhpbbiigaaaDoor

namespace Go.Proofs.YtppbmhpbbiigaaaDoor
open Go.RowKit Go.Maps Pp

set_option maxRecDepth 100000 in
set_option maxHeartbeats 1600000 in
theorem withinP_any (w : World) (x a b : Int) : Calls Tryd.prog 25 #[.int .i64 x, .int .i64 a, .int .i64 b] w fun e w' => e = .returned (.bool (decide (a ≤ x) && decide (x ≤ b))) ∧ w = w' := by
  by_cases h0 : a ≤ x
  · have d0 : decide (a ≤ x) = true := decide_eq_true h0
    go_enter Tryd.func25, Tryd.ntmps25
    go_wp2_with fail
    go_ret
    first | exact ⟨rfl, rfl⟩ | exact ⟨by rw [d0]; rfl, rfl⟩
  · have d0 : decide (a ≤ x) = false := decide_eq_false h0
    go_enter Tryd.func25, Tryd.ntmps25
    go_wp2_with fail
    go_ret
    first | exact ⟨rfl, rfl⟩ | exact ⟨by rw [d0]; rfl, rfl⟩
theorem may_within (m : Nat) (c : Int) : (decide (0 ≤ c) && decide (c ≤ (m : Int))) = may m c := rfl
section
variable {w : World} {σ : Nat → RRole} {rb : Nat} {vl : Value} {ptr : List Nat} {vw : Value} {us : List (Int × Value)} {s : St} {ws : List (Int × List Tk)}
theorem RefsAt.vls (h : RefsAt w σ rb vl ptr vw us s ws) : ∃ ao cap, vl = .slice ao s.chs.length cap ∧ s.chs.length ≤ cap := by
  rcases h.row.2 with ⟨rfl, h0⟩ | ⟨g, cap, cur, rfl, _, _, h1, _⟩
  · exact ⟨none, 0, by rw [← h.len, h0], by rw [← h.len, h0]; exact Nat.le_refl _⟩
  · exact ⟨_, _, by rw [h.len], by rw [← h.len]; exact h1⟩
/-- Where a channel lies. -/
theorem RefsAt.at {k : Nat} {x : Ch} (h : RefsAt w σ rb vl ptr vw us s ws) (hx : s.chs[k]? = some x) : ∃ g cap cb v, vl = .slice (some ⟨g, 0, none⟩) s.chs.length cap ∧ g < w.heap.size ∧ s.chs.length ≤ cap ∧ ptr[k]? = some cb ∧ w.cell? ⟨g, k, none⟩ = some (.pointer (some ⟨cb, 0, none⟩)) ∧ RCh w σ k cb v x := by
  have hk := (List.getElem?_eq_some_iff.1 hx).1
  have hl := h.len
  obtain ⟨cb, hcb⟩ : ∃ cb, ptr[k]? = some cb := ⟨_, List.getElem?_eq_getElem (by omega)⟩
  obtain ⟨v, hv⟩ := h.chs k cb x hcb hx
  have hc := h.row
  rcases h.row.2 with ⟨_, h0⟩ | ⟨g, cap, cur, hv2, hb, hg, h1, _⟩
  · omega
  · rw [hv2] at hc
    have f1 := World.ownsRow.cells hc (g := g) rfl k (.pointer (some ⟨cb, 0, none⟩)) (by rw [List.getElem?_map, hcb]; rfl)
    rw [addr_addP, Nat.zero_add] at f1
    exact ⟨g, cap, cb, v, by rw [hv2, hl], (Array.getElem?_eq_some_iff.1 hg).1, by omega, hcb, f1, hv⟩
theorem may_cases {m : Nat} {c : Int} (h : may m c = true) : c = 0 ∨ ∃ k : Nat, c = (k : Int) + 1 ∧ k < m := by
  unfold may at h
  simp only [Bool.and_eq_true, decide_eq_true_eq] at h
  by_cases h0 : c = 0
  · exact Or.inl h0
  · exact Or.inr ⟨(c - 1).toNat, by omega, by omega⟩
theorem chan_succ {chs : List Ch} {k : Nat} {x : Ch} (hx : chs[k]? = some x) : Pp.chan chs ((k : Int) + 1) = some x := by
  unfold Pp.chan
  rw [if_neg (by omega), show ((k : Int) + 1 - 1).toNat = k by omega, hx]

set_option maxRecDepth 100000 in
set_option maxHeartbeats 1600000 in
theorem rmade_any (h : RefsAt w σ rb vl ptr vw us s ws) : Calls Tryd.prog 16 #[.pointer (some ⟨rb, 0, none⟩)] w fun e w' => e = .returned (.int .i64 (s.chs.length : Nat)) ∧ w = w' := by
  obtain ⟨ao, cap, rfl, _⟩ := h.vls
  have c0 := h.c0
  clear h
  generalize s.chs.length = m at *
  go_enter Tryd.func16, Tryd.ntmps16
  go_wp2_with fail
  go_ret
  exact ⟨rfl, rfl⟩

set_option maxRecDepth 100000 in
set_option maxHeartbeats 3200000 in
theorem rlen_any (h : RefsAt w σ rb vl ptr vw us s ws) (c : Int) : Calls Tryd.prog 13 #[.pointer (some ⟨rb, 0, none⟩), .int .i64 c] w fun e w' => e = .returned (.tuple #[.int .i64 (lenV s c).1, .int .i64 (lenV s c).2]) ∧ w = w' := by
  cases hm : may s.chs.length c with
  | false =>
    have hv : lenV s c = (0, 2) := by unfold lenV; rw [hm]; rfl
    rw [hv]
    obtain ⟨ao, cap, rfl, _⟩ := h.vls
    have c0 := h.c0
    have HW := Lib.hid (withinP_any w c 0 s.chs.length)
    rw [may_within, hm] at HW
    clear h hm hv
    generalize s.chs.length = m at *
    go_enter Tryd.func13, Tryd.ntmps13
    go_wp2_with fail
    refine HW.out.mono ?_
    rintro e w' ⟨rfl, rfl⟩
    go_wp2_with fail
    go_ret2
    exact ⟨rfl, rfl⟩
  | true =>
    have HW := Lib.hid (withinP_any w c 0 s.chs.length)
    rw [may_within, hm] at HW
    rcases may_cases hm with rfl | ⟨k, rfl, hk⟩
    · have hv : lenV s 0 = (0, 0) := by unfold lenV; rw [hm]; rfl
      rw [hv]
      obtain ⟨ao, cap, rfl, _⟩ := h.vls
      have c0 := h.c0
      clear h hm hv
      generalize s.chs.length = m at *
      go_enter Tryd.func13, Tryd.ntmps13
      go_wp2_with fail
      refine HW.out.mono ?_
      rintro e w' ⟨rfl, rfl⟩
      go_wp2_with fail
      go_ret2
      exact ⟨rfl, rfl⟩
    · obtain ⟨x, hx⟩ : ∃ x, s.chs[k]? = some x := ⟨_, List.getElem?_eq_getElem hk⟩
      have hv : lenV s ((k : Int) + 1) = ((x.nums.length : Int), 0) := by unfold lenV; rw [hm, chan_succ hx]; rfl
      rw [hv]
      obtain ⟨g, cap, cb, v, rfl, hg, hcap, _, f1, hch⟩ := h.at hx
      have c0 := h.c0
      obtain ⟨av, cv, rfl⟩ := hch.nums.slice
      have d1 := hch.c1
      have e0 : (((k : Int) + 1) == 0) = false := by rw [beq_eq_false_iff_ne]; omega
      have e1 : wrap64 (k : Int) = (k : Int) := by unfold wrap64; have := h.ok.many; omega
      have e2 : (k : Int) + 1 - 1 = (k : Int) := by omega
      have hki : (0 : Int) ≤ (k : Int) ∧ (k : Int) < (s.chs.length : Int) := by omega
      clear h hm hv hch hx
      generalize s.chs.length = m at *
      generalize x.nums.length = nl at *
      go_enter Tryd.func13, Tryd.ntmps13
      go_wp2_with fail
      refine HW.out.mono ?_
      rintro e w' ⟨rfl, rfl⟩
      go_wp2_with fail
      go_ret2
      exact ⟨rfl, rfl⟩
end
end Go.Proofs.YtppbmhpbbiigaaaDoor

namespace Go.Proofs.YtppbmhpbbiigaaaDoor
open Go.RowKit Go.Maps Pp

/-- Three cells of one block are written. -/
theorem set3 {W : World} {r : Nat} {a0 b0 c0 : Value} (h0 : W.cell? ⟨r, 0, none⟩ = some a0) (h1 : W.cell? ⟨r, 1, none⟩ = some b0) (h2 : W.cell? ⟨r, 2, none⟩ = some c0) (a b c : Value) :
    (((W.setCell ⟨r, 0, none⟩ a).setCell ⟨r, 1, none⟩ b).setCell ⟨r, 2, none⟩ c).cell? ⟨r, 0, none⟩ = some a ∧ (((W.setCell ⟨r, 0, none⟩ a).setCell ⟨r, 1, none⟩ b).setCell ⟨r, 2, none⟩ c).cell? ⟨r, 1, none⟩ = some b ∧
      (((W.setCell ⟨r, 0, none⟩ a).setCell ⟨r, 1, none⟩ b).setCell ⟨r, 2, none⟩ c).cell? ⟨r, 2, none⟩ = some c ∧ Keeps (fun g => g = r) W (((W.setCell ⟨r, 0, none⟩ a).setCell ⟨r, 1, none⟩ b).setCell ⟨r, 2, none⟩ c) := by
  refine ⟨?_, ?_, ?_, (((Keeps.refl (fun g => g = r) W).setCell (p := ⟨r, 0, none⟩) (Or.inl rfl) _).setCell (p := ⟨r, 1, none⟩) (Or.inl rfl) _).setCell (p := ⟨r, 2, none⟩) (Or.inl rfl) _⟩
  · rw [cell_set_other (off_ne (by decide) _), cell_set_other (off_ne (by decide) _)]; exact cell_set_same h0
  · rw [cell_set_other (off_ne (by decide) _)]
    exact cell_set_same (u := b0) (by rw [cell_set_other (off_ne (by decide) _)]; exact h1)
  · exact cell_set_same (u := c0) (by rw [cell_set_other (off_ne (by decide) _), cell_set_other (off_ne (by decide) _)]; exact h2)
section
variable {w : World} {σ : Nat → RRole} {rb : Nat} {vl : Value} {ptr : List Nat} {vw : Value} {us : List (Int × Value)} {s : St} {ws : List (Int × List Tk)}
set_option maxRecDepth 100000 in
set_option maxHeartbeats 3200000 in
theorem rasks_any (h : RefsAt w σ rb vl ptr vw us s ws) (hN : ws.length ≤ 10000) {y : Int × Nat} {l : List Tk} {t : Tk} (hl : s.asks y.1 = some l) (ht : l[y.2]? = some t) :
    Calls Tryd.prog 32 #[.pointer (some ⟨rb, 0, none⟩), .agg #[.int .i64 y.1, .int .i64 (y.2 : Nat)]] w fun e w' => e = .returned (.agg #[.int .i64 t.what, .int .i64 t.chan, .int .i64 t.n]) ∧ Below w.heap.size w w' := by
  obtain ⟨yt, yk⟩ := y
  simp only at hl ht
  obtain ⟨ao, cap, rfl⟩ := h.vws
  have hmem := (h.rel.asks yt l).1 hl
  obtain ⟨i0, hi0⟩ := List.mem_iff_getElem?.1 hmem
  have hil := (List.getElem?_eq_some_iff.1 hi0).1
  have HI0 := Lib.hid hi0
  have HNOD : Hid (∀ (i : Nat) x, ws[i]? = some x → x.1 = yt → i = i0) := Lib.hid fun i x hx e => by
    have hi := (List.getElem?_eq_some_iff.1 hx).1
    have h1 : (ws.map (·.1))[i]? = some yt := by rw [List.getElem?_map, hx, ← e]; rfl
    have h2 : (ws.map (·.1))[i0]? = some yt := by rw [List.getElem?_map, hi0]; rfl
    exact (List.getElem?_inj (by rw [List.length_map]; exact hi) h.rel.nod).1 (h1.trans h2.symm)
  have HH := Lib.hid h
  have HT := Lib.hid ht
  have c1 := h.c1
  obtain ⟨n, hn⟩ : ∃ n, n = ws.length := ⟨_, rfl⟩
  have HNW := Lib.hid hn
  rw [← hn] at hN c1 HH hil
  have p1 := Go.Lib.cell?_alloc_some (.cells #[.int .i64 0, .int .i64 0, .int .i64 0] 85) (Go.Lib.cell?_alloc_some (.cells #[.int .i64 yt, .int .i64 (yk : Nat)] 90) c1)
  have hb0 : Below w.heap.size w ((w.alloc (.cells #[.int .i64 yt, .int .i64 (yk : Nat)] 90)).alloc (.cells #[.int .i64 0, .int .i64 0, .int .i64 0] 85)) := ((Below.refl _ _).alloc (Nat.le_refl _) _).alloc (by simp) _
  have q0 : ∀ j, j < 2 → ((w.alloc (.cells #[.int .i64 yt, .int .i64 (yk : Nat)] 90)).alloc (.cells #[.int .i64 0, .int .i64 0, .int .i64 0] 85)).cell? ⟨w.heap.size, j, none⟩ = #[Value.int .i64 yt, .int .i64 (yk : Nat)][j]? := fun j hj => by
    rw [World.cell?_alloc_past _ _ _ (by simp), World.cell?_alloc_at _ _ _ _ rfl]
  have q1 : ∀ j, j < 3 → ((w.alloc (.cells #[.int .i64 yt, .int .i64 (yk : Nat)] 90)).alloc (.cells #[.int .i64 0, .int .i64 0, .int .i64 0] 85)).cell? ⟨w.heap.size + 1, j, none⟩ = some (.int .i64 0) ∧ ((w.alloc (.cells #[.int .i64 yt, .int .i64 (yk : Nat)] 90)).alloc (.cells #[.int .i64 0, .int .i64 0, .int .i64 0] 85)).frozen? ⟨w.heap.size + 1, j, none⟩ = false := fun j hj => by
    refine ⟨?_, by rw [World.frozen?_alloc_at _ _ _ _ (by simp)]⟩
    rw [World.cell?_alloc_at _ _ _ _ (by simp)]
    rcases j with _ | _ | _ | j <;> first | rfl | omega
  have hs0 : ((w.alloc (.cells #[.int .i64 yt, .int .i64 (yk : Nat)] 90)).alloc (.cells #[.int .i64 0, .int .i64 0, .int .i64 0] 85)).heap.size = w.heap.size + 2 := by simp
  have HB0 := Lib.hid hb0
  have HQ0 := Lib.hid q0
  have HQ1 := Lib.hid q1
  have HS0 := Lib.hid hs0
  clear h hmem hi0 hl ht hn hb0 q0 q1 c1 hs0
  go_enter Tryd.func32, Tryd.ntmps32
  go_wp2_with fail
  generalize (w.alloc (.cells #[.int .i64 yt, .int .i64 (yk : Nat)] 90)).alloc (.cells #[.int .i64 0, .int .i64 0, .int .i64 0] 85) = w2 at *
  go_loopw [12] (fun iv wr => ∃ i : Nat, i ≤ i0 ∧ iv = .int .i64 i ∧ Below w2.heap.size w2 wr) (fun iv _ => n - (intOf iv).toNat)
  case atStart => exact ⟨0, Nat.zero_le _, rfl, Below.refl _ _⟩
  case round =>
    obtain ⟨i, hi, rfl, hb⟩ := hrel
    rename World => wr
    have HB := Lib.hid hb
    clear hb p1
    obtain ⟨⟨xt, xl⟩, hx⟩ : ∃ x, ws[i]? = some x := ⟨_, List.getElem?_eq_getElem (by rw [← HNW.out]; omega)⟩
    obtain ⟨g, cap', aT, cT, hv, hg, -, y1, y2, hT, -⟩ := HH.out.one hx
    rw [Value.slice.injEq] at hv
    obtain ⟨rfl, -, rfl⟩ := hv
    simp only at y1 y2 hT
    have hbw : Below w.heap.size w wr := HB0.out.trans (HB.out.mono HB0.out.size)
    have r1 := (hbw.cell (p := ⟨g, i * 2, none⟩) hg).trans y1
    have r2 := (hbw.cell (p := ⟨g, i * 2 + 1, none⟩) hg).trans y2
    have hii : (0 : Int) ≤ (i : Int) ∧ (i : Int) < (n : Int) := by omega
    have hs2 := HS0.out
    have d0 : (wr.alloc (.cells #[.int .i64 xt, .slice aT xl.length cT] 83)).cell? ⟨w.heap.size, 0, none⟩ = some (.int .i64 yt) := Go.Lib.cell?_alloc_some _ ((HB.out.cell (p := ⟨w.heap.size, 0, none⟩) (by show w.heap.size < _; omega)).trans (HQ0.out 0 (by decide)))
    have d1 : (wr.alloc (.cells #[.int .i64 xt, .slice aT xl.length cT] 83)).cell? ⟨w.heap.size, 1, none⟩ = some (.int .i64 (yk : Nat)) := Go.Lib.cell?_alloc_some _ ((HB.out.cell (p := ⟨w.heap.size, 1, none⟩) (by show w.heap.size < _; omega)).trans (HQ0.out 1 (by decide)))
    have HBW := Lib.hid hbw
    by_cases e : xt = yt
    · have hie := HNOD.out i _ hx e
      subst hie
      rw [HI0.out] at hx
      simp only [Option.some.injEq, Prod.mk.injEq] at hx
      obtain ⟨-, rfl⟩ := hx
      have hta : TalksAt wr (.slice aT l.length cT) l := hT.keeps (Keeps.of_new (S := fun _ => False) hbw) fun _ _ => id
      obtain ⟨b, o, rfl, hb, k0, k1, k2⟩ := hta.at HT.out
      have hkl := (List.getElem?_eq_some_iff.1 HT.out).1
      have hkk : (0 : Int) ≤ (yk : Int) ∧ (yk : Int) < (l.length : Int) := by omega
      have m0 := Go.Lib.cell?_alloc_some (.cells #[.int .i64 xt, .slice (some ⟨b, o, none⟩) l.length cT] 83) k0
      have m1 := Go.Lib.cell?_alloc_some (.cells #[.int .i64 xt, .slice (some ⟨b, o, none⟩) l.length cT] 83) k1
      have m2 := Go.Lib.cell?_alloc_some (.cells #[.int .i64 xt, .slice (some ⟨b, o, none⟩) l.length cT] 83) k2
      have z1 : (xt == yt) = true := by rw [beq_iff_eq]; exact e
      have z3 : decide (xt = yt) = true := decide_eq_true e
      have hf : ∀ j, j < 3 → (wr.alloc (.cells #[.int .i64 xt, .slice (some ⟨b, o, none⟩) l.length cT] 83)).cell? ⟨w.heap.size + 1, j, none⟩ = some (.int .i64 0) ∧ (wr.alloc (.cells #[.int .i64 xt, .slice (some ⟨b, o, none⟩) l.length cT] 83)).frozen? ⟨w.heap.size + 1, j, none⟩ = false := fun j hj => by
        have hka := alloc_new wr (.cells #[.int .i64 xt, .slice (some ⟨b, o, none⟩) l.length cT] 83)
        have hlt : w.heap.size + 1 < w2.heap.size := by omega
        have hlt2 : w.heap.size + 1 < wr.heap.size := Nat.lt_of_lt_of_le hlt HB.out.size
        obtain ⟨j1, j2⟩ := HQ1.out j hj
        exact ⟨Go.Lib.cell?_alloc_some _ ((HB.out.cell (p := ⟨w.heap.size + 1, j, none⟩) hlt).trans j1), by rw [hka.frozen (p := ⟨w.heap.size + 1, j, none⟩) hlt2 id, HB.out.frozen (p := ⟨w.heap.size + 1, j, none⟩) hlt]; exact j2⟩
      obtain ⟨f0, g0⟩ := hf 0 (by decide)
      obtain ⟨f1, g1⟩ := hf 1 (by decide)
      obtain ⟨f2, g2⟩ := hf 2 (by decide)
      have HBZ : Hid (Below w.heap.size w (wr.alloc (.cells #[.int .i64 xt, .slice (some ⟨b, o, none⟩) l.length cT] 83))) := Lib.hid (hbw.alloc hbw.size _)
      have w1 : (wr.alloc (.cells #[.int .i64 xt, .slice (some ⟨b, o, none⟩) l.length cT] 83)).cell? ⟨wr.heap.size, 1, none⟩ = some (.slice (some ⟨b, o, none⟩) l.length cT) := by rw [World.cell?_alloc_at _ _ _ _ rfl]; rfl
      clear hf hta hT e k0 k1 k2 hbw hb
      obtain ⟨tw, tc, tn⟩ := t
      simp only at m0 m1 m2
      go_upto_region 5 with fail
      generalize wr.alloc (.cells #[.int .i64 xt, .slice (some ⟨b, o, none⟩) l.length cT] 83) = wz at *
      obtain ⟨e0, e1, e2, hkz⟩ := set3 (W := wz) (r := w.heap.size + 1) f0 f1 f2 (.int .i64 tw) (.int .i64 tc) (.int .i64 tn)
      have HKZ := Lib.hid hkz
      clear hkz
      go_wp2_with fail
      refine bodyPost_ret (v := .agg #[.int .i64 tw, .int .i64 tc, .int .i64 tn]) (by simp [results, Tryd.results32, go_sem, e0, e1, e2] <;> rfl) rfl ?_
      exact ⟨rfl, HBZ.out.trans (HKZ.out.below HBZ.out.size fun g _ e => by omega)⟩
    · have z1 : (xt == yt) = false := by rw [beq_eq_false_iff_ne]; exact e
      have z3 : decide (xt = yt) = false := decide_eq_false e
      have hlt : i < i0 := by
        rcases Nat.lt_or_ge i i0 with h1 | h1
        · exact h1
        · obtain rfl : i = i0 := by omega
          rw [HI0.out] at hx
          cases hx
          exact absurd rfl e
      clear hT hx
      have HBN : Hid (Below w2.heap.size w2 (wr.alloc (.cells #[.int .i64 xt, .slice aT xl.length cT] 83))) := Lib.hid (HB.out.alloc HB.out.size _)
      go_wp2_with fail
      go_roundw
      case rel => exact ⟨i + 1, by omega, by go_num, HBN.out⟩
      case measure => simp [intOf]; omega
end
end Go.Proofs.YtppbmhpbbiigaaaDoor

namespace Go.Proofs.YtppbmhpbbiigaaaDoor
open Go.RowKit Go.Maps Pp

theorem info_waiter : (Tryd.prog.info? 83).map (fun i => (i.zero, i.size, i.bytes)) = some (some (.agg #[.int .i64 0, .slice none 0 0]), 2, 32) := by kernel_rfl
/-- 'rest = append(rest, x)'. -/
theorem wpList_appendU {ops : Array Oper} {rest : List Oper} {o : Oper} {a : Act} {Q : Exit → Act → World → Prop} (hgd : o.guard = none) (s x : Operand)
    (ho : o.op = .call { callee := .builtin .append, args := #[s, x], argTypes := #[24, 24] }) (w : World) (B : Nat) (v : Value) (l : List (Int × Value)) (y1 : Int) {ao : Option Addr} {n c : Nat} (hown : w.ownsRow B 83 2 v l.length (cellsU l)) (hs : a.eval s = v) {b : Nat} (hb : b = w.heap.size)
    (hx : a.eval x = .slice (some ⟨b, 0, none⟩) 1 1) (hl : l.length ≤ 100000000) (hB : B ≤ w.heap.size)
    (h : ∀ ao' cap' w', w'.ownsRow B 83 2 (.slice ao' (l ++ [(y1, Value.slice ao n c)]).length cap') (l ++ [(y1, Value.slice ao n c)]).length (cellsU (l ++ [(y1, Value.slice ao n c)])) → Keeps (fun b => v.ownBlock = some b) w w' → (∀ k, (Value.slice ao' (l ++ [(y1, Value.slice ao n c)]).length cap').ownBlock = some k → v.ownBlock = some k ∨ w.heap.size < k) →
      wpList Tryd.prog ops Q rest (a.put o.dst (.slice ao' (l ++ [(y1, Value.slice ao n c)]).length cap')) w') : wpList Tryd.prog ops Q (o :: rest) a (w.alloc (.cells #[.int .i64 y1, .slice ao n c] 83)) := by
  subst hb
  obtain ⟨i0, hi, hz0, hz1, hz2⟩ := tinfoP info_waiter
  have hnew : ∀ j u, [Value.int .i64 y1, Value.slice ao n c][j]? = some u → (w.alloc (.cells #[.int .i64 y1, .slice ao n c] 83)).cell? ((⟨w.heap.size, 0, none⟩ : Addr).add j) = some u := fun j u hu => by
    rw [addr_addP, World.cell?_alloc_at _ _ _ _ rfl]
    rcases j with _ | _ | j
    · exact hu
    · exact hu
    · simp at hu
  refine wpList_append_own_at _ hgd s x 24 ho B 83 i0 (.agg #[.int .i64 0, .slice none 0 0]) 2 32 Tryd.underlying24 hi hz0 hz1 hz2 rfl (by decide) v l.length (cellsU l) hs (World.ownsRow.alloc hown _) ⟨w.heap.size, 0, none⟩ 1 1 [.int .i64 y1, .slice ao n c] hx rfl
    hnew (fun u hu => by simp at hu; rcases hu with rfl | rfl <;> rfl) (by unfold maxLen; omega) (by omega) (by simp; omega) ?_
  intro v' w' h1 h2 _ h4
  have hO : w'.ownsRow B 83 2 v' (l ++ [(y1, Value.slice ao n c)]).length (cellsU (l ++ [(y1, Value.slice ao n c)])) := by
    rw [cellsU_append, List.length_append]
    exact h1
  obtain ⟨ao', cap', rfl⟩ := own_slice hO
  refine h _ _ _ hO (keeps_append h2 fun k e => e) fun k hk => ?_
  rcases h4 with e | e
  · exact Or.inl (by rw [← e]; exact hk)
  · rw [e] at hk
    cases hk
    exact Or.inr (by simp)
/-- The same, one by one. -/
def WtsL (w : World) (σ : Nat → RRole) : List (Int × Value) → List (Int × List Tk) → Prop
  | [], [] => True
  | u :: us, x :: ws => (u.1 = x.1 ∧ TalksAt w u.2 x.2 ∧ ∀ b, u.2.ownBlock = some b → σ b = .talks) ∧ WtsL w σ us ws
  | [], _ :: _ => False
  | _ :: _, [] => False
theorem wtsL_iff {w : World} {σ : Nat → RRole} : ∀ {us : List (Int × Value)} {ws : List (Int × List Tk)}, WtsL w σ us ws ↔ Wts w σ us ws := by
  intro us
  induction us with
  | nil =>
    intro ws
    cases ws with
    | nil => exact ⟨fun _ => ⟨rfl, fun i u x hu => by cases hu⟩, fun _ => trivial⟩
    | cons x ws => exact ⟨fun h => h.elim, fun h => by have := h.1; simp at this⟩
  | cons u us ih =>
    intro ws
    cases ws with
    | nil => exact ⟨fun h => h.elim, fun h => by have := h.1; simp at this⟩
    | cons x ws =>
      constructor
      · rintro ⟨h1, h2⟩
        obtain ⟨h3, h4⟩ := ih.1 h2
        refine ⟨by rw [List.length_cons, List.length_cons, h3], fun i u' x' hu hx => ?_⟩
        cases i with
        | zero => cases hu; cases hx; exact h1
        | succ i => exact h4 i u' x' (by simpa using hu) (by simpa using hx)
      · rintro ⟨h1, h2⟩
        exact ⟨h2 0 u x rfl rfl, ih.2 ⟨by simpa using h1, fun i u' x' hu hx => h2 (i + 1) u' x' (by simpa using hu) (by simpa using hx)⟩⟩
theorem Wts.filter {w : World} {σ : Nat → RRole} {us : List (Int × Value)} {ws : List (Int × List Tk)} (h : Wts w σ us ws) (t : Int) : Wts w σ (us.filter fun u => decide (u.1 ≠ t)) (ws.filter fun x => decide (x.1 ≠ t)) := by
  rw [← wtsL_iff] at h ⊢
  induction us generalizing ws with
  | nil =>
    cases ws with
    | nil => exact trivial
    | cons x ws => exact h.elim
  | cons u us ih =>
    cases ws with
    | nil => exact h.elim
    | cons x ws =>
      obtain ⟨⟨h1, h2⟩, h3⟩ := h
      have h4 := ih h3
      by_cases e : x.1 = t
      · rw [List.filter_cons_of_neg (by simp [h1, e]), List.filter_cons_of_neg (by simp [e])]
        exact h4
      · rw [List.filter_cons_of_pos (by simp [h1, e]), List.filter_cons_of_pos (by simp [e])]
        exact ⟨⟨h1, h2⟩, h4⟩
/-- A value's own block, if it has one, is of that role. -/
def asOf (σ : Nat → RRole) (v : Value) (r : RRole) : Nat → RRole := fun b => if v.ownBlock = some b then r else σ b
theorem asOf_own {σ : Nat → RRole} {v : Value} {r : RRole} {b : Nat} (h : v.ownBlock = some b) : asOf σ v r b = r := if_pos h
theorem asOf_old {σ : Nat → RRole} {v : Value} {r : RRole} {b : Nat} (h : ¬ v.ownBlock = some b) : asOf σ v r b = σ b := if_neg h
theorem asOf_dom {σ : Nat → RRole} {v : Value} {r : RRole} {n m : Nat} (hd : ∀ b, σ b ≠ .free → b < n) (hn : n ≤ m) (hv : ∀ b, v.ownBlock = some b → b < m) : ∀ b, asOf σ v r b ≠ .free → b < m := fun b hb => by
  by_cases e : v.ownBlock = some b
  · exact hv b e
  · rw [asOf_old e] at hb
    exact Nat.lt_of_lt_of_le (hd b hb) hn
/-- Of a task that goes on, channels are what they were, but for their rows. -/
theorem wake_same {s : St} (ok : Ok s) {t : Int} {l : List Tk} (hl : s.asks t = some l) : ∀ (k : Nat) c', (Pp.wake s t).chs[k]? = some c' → ∃ c, s.chs[k]? = some c ∧ c'.size = c.size ∧ c'.nums = c.nums ∧ c'.shut = c.shut := fun k c' h => by
  rw [wake_some hl] at h
  obtain ⟨c, h1, h2⟩ := get_strike (ok.le hl) h
  exact ⟨c, h1, h2.size, h2.nums, h2.shut⟩

/-- All but one. -/
def offW (t : Int) (ws : List (Int × List Tk)) : List (Int × List Tk) := ws.filter fun x => decide (x.1 ≠ t)
/-- Behind a turn of the channels: they are as told; older blocks are whose they were. -/
structure RefsB (w w' : World) (σ : Nat → RRole) (rb : Nat) (ptr : List Nat) (s' : St) (ws' : List (Int × List Tk)) : Prop where
  ex : ∃ σ' vl' vw' us', RefsAt w' σ' rb vl' ptr vw' us' s' ws' ∧ ∀ b, b < w.heap.size → σ' b = σ b
/-- So far. -/
structure RGoJ (w wr : World) (av : Value) (l : List (Int × Value)) : Prop where
  own : wr.ownsRow w.heap.size 83 2 av l.length (cellsU l)
  bel : Below w.heap.size w wr
theorem RGoJ.new {w wr w' : World} {av : Value} {l : List (Int × Value)} (h : RGoJ w wr av l) (hk : Keeps (fun _ => False) wr w') : RGoJ w w' av l := ⟨hk.row h.own fun _ _ => id, h.bel.trans (hk.below h.bel.size fun _ _ e => e.elim)⟩
theorem filter_take {us : List (Int × Value)} {k : Nat} {u : Int × Value} (h : us[k]? = some u) (t : Int) : (us.take (k + 1)).filter (fun u => decide (u.1 ≠ t)) = (us.take k).filter (fun u => decide (u.1 ≠ t)) ++ (if u.1 = t then [] else [u]) := by
  have hk := (List.getElem?_eq_some_iff.1 h).1
  rw [List.take_succ_eq_append_getElem hk, (List.getElem?_eq_some_iff.1 h).2, List.filter_append]
  congr 1
  by_cases e : u.1 = t
  · rw [if_pos e, List.filter_cons_of_neg (by simp [e])]
    rfl
  · rw [if_neg e, List.filter_cons_of_pos (by simp [e])]
    rfl
section
variable {w : World} {σ : Nat → RRole} {rb : Nat} {vl : Value} {ptr : List Nat} {vw : Value} {us : List (Int × Value)} {s : St} {ws : List (Int × List Tk)}
set_option maxRecDepth 100000 in
set_option maxHeartbeats 6400000 in
theorem rgoes_any (h : RefsAt w σ rb vl ptr vw us s ws) (hN : ws.length ≤ 10000) (y : Int × Nat) (nn : Int) {l : List Tk} (hl : s.asks y.1 = some l) :
    Calls Tryd.prog 31 #[.pointer (some ⟨rb, 0, none⟩), .agg #[.int .i64 y.1, .int .i64 (y.2 : Nat)], .int .i64 nn] w fun e w' => e = .returned (.agg #[.int .i64 y.1, .int .i64 (y.2 : Nat), .int .i64 nn]) ∧
      RefsB w w' σ rb ptr (Pp.wake s y.1) (offW y.1 ws) ∧ Keeps (fun b => b = rb) w w' := by
  obtain ⟨yt, yk⟩ := y
  simp only at hl
  simp only
  obtain ⟨ao, cap, rfl⟩ := h.vws
  have HH := Lib.hid h
  have HL := Lib.hid hl
  have c1 := h.c1
  have z1 := h.z 1
  have HUL : Hid (us.length = ws.length) := Lib.hid h.wts.1
  obtain ⟨n, hn⟩ : ∃ n, n = ws.length := ⟨_, rfl⟩
  have HNW := Lib.hid hn
  rw [← hn] at hN c1 HH
  have hrbl : rb < w.heap.size := h.lt
  have p1 := Go.Lib.cell?_alloc_some (.cells #[.int .i64 0, .int .i64 0, .int .i64 0] 65) (Go.Lib.cell?_alloc_some (.cells #[.int .i64 yt, .int .i64 (yk : Nat)] 90) c1)
  have hb0 : Below w.heap.size w ((w.alloc (.cells #[.int .i64 yt, .int .i64 (yk : Nat)] 90)).alloc (.cells #[.int .i64 0, .int .i64 0, .int .i64 0] 65)) := ((Below.refl _ _).alloc (Nat.le_refl _) _).alloc (by simp) _
  have q0 : ∀ j, j < 2 → ((w.alloc (.cells #[.int .i64 yt, .int .i64 (yk : Nat)] 90)).alloc (.cells #[.int .i64 0, .int .i64 0, .int .i64 0] 65)).cell? ⟨w.heap.size, j, none⟩ = #[Value.int .i64 yt, .int .i64 (yk : Nat)][j]? := fun j hj => by
    rw [World.cell?_alloc_past _ _ _ (by simp), World.cell?_alloc_at _ _ _ _ rfl]
  have q1 : ∀ j, j < 3 → ((w.alloc (.cells #[.int .i64 yt, .int .i64 (yk : Nat)] 90)).alloc (.cells #[.int .i64 0, .int .i64 0, .int .i64 0] 65)).cell? ⟨w.heap.size + 1, j, none⟩ = some (.int .i64 0) ∧ ((w.alloc (.cells #[.int .i64 yt, .int .i64 (yk : Nat)] 90)).alloc (.cells #[.int .i64 0, .int .i64 0, .int .i64 0] 65)).frozen? ⟨w.heap.size + 1, j, none⟩ = false := fun j hj => by
    refine ⟨?_, by rw [World.frozen?_alloc_at _ _ _ _ (by simp)]⟩
    rw [World.cell?_alloc_at _ _ _ _ (by simp)]
    rcases j with _ | _ | _ | j <;> first | rfl | omega
  have hs0 : ((w.alloc (.cells #[.int .i64 yt, .int .i64 (yk : Nat)] 90)).alloc (.cells #[.int .i64 0, .int .i64 0, .int .i64 0] 65)).heap.size = w.heap.size + 2 := by simp
  have HB0 := Lib.hid hb0
  have HQ0 := Lib.hid q0
  have HQ1 := Lib.hid q1
  have HS0 := Lib.hid hs0
  have HC1 := Lib.hid c1
  have HZ1 := Lib.hid z1
  clear h hl hn hb0 q0 q1 c1 hs0 z1
  go_enter Tryd.func31, Tryd.ntmps31
  go_wp2_with fail
  generalize (w.alloc (.cells #[.int .i64 yt, .int .i64 (yk : Nat)] 90)).alloc (.cells #[.int .i64 0, .int .i64 0, .int .i64 0] 65) = w2 at *
  go_loopw [7, 15] (fun av iv wr => ∃ i : Nat, i ≤ n ∧ iv = .int .i64 i ∧ RGoJ w2 wr av ((us.take i).filter fun u => decide (u.1 ≠ yt))) (fun _ iv _ => n - (intOf iv).toNat)
  case atStart => exact ⟨0, Nat.zero_le _, rfl, World.ownsRow_nil _ _ _ _, Below.refl _ _⟩
  case round =>
    obtain ⟨i, hi, rfl, hJ⟩ := hrel
    rename World => wr
    obtain ⟨aw, kw, hav⟩ := own_slice hJ.own
    subst hav
    have HJ := Lib.hid hJ
    have hbw : Below w.heap.size w wr := HB0.out.trans (hJ.bel.mono HB0.out.size)
    have HBW := Lib.hid hbw
    have hs2 := HS0.out
    have hlt : w2.heap.size ≤ wr.heap.size := hJ.bel.size
    clear hJ p1
    by_cases hin : i < n
    · obtain ⟨⟨xt, xl⟩, hx⟩ : ∃ x, ws[i]? = some x := ⟨_, List.getElem?_eq_getElem (by rw [← HNW.out]; omega)⟩
      obtain ⟨g, cap', aT, cT, hv, hg, hu, y1, y2, -, -⟩ := HH.out.one hx
      rw [Value.slice.injEq] at hv
      obtain ⟨rfl, -, rfl⟩ := hv
      simp only at y1 y2 hu
      have r1 := (hbw.cell (p := ⟨g, i * 2, none⟩) hg).trans y1
      have r2 := (hbw.cell (p := ⟨g, i * 2 + 1, none⟩) hg).trans y2
      have hii : (0 : Int) ≤ (i : Int) ∧ (i : Int) < (n : Int) := by omega
      have d0 : (wr.alloc (.cells #[.int .i64 xt, .slice aT xl.length cT] 83)).cell? ⟨w.heap.size, 0, none⟩ = some (.int .i64 yt) := Go.Lib.cell?_alloc_some _ ((HJ.out.bel.cell (p := ⟨w.heap.size, 0, none⟩) (by show w.heap.size < _; omega)).trans (HQ0.out 0 (by decide)))
      have HFT := Lib.hid (filter_take hu yt)
      have hka := alloc_new wr (.cells #[.int .i64 xt, .slice aT xl.length cT] 83)
      have HJ2 := Lib.hid (HJ.out.new hka)
      have hfl : ((us.take i).filter fun u => decide (u.1 ≠ yt)).length ≤ 10000 := by
        have h1 := List.length_filter_le (fun u : Int × Value => decide (u.1 ≠ yt)) (us.take i)
        rw [List.length_take] at h1
        omega
      clear hx hu hka hbw hg y1 y2
      simp only at HFT
      generalize (us.take i).filter (fun u => decide (u.1 ≠ yt)) = L at *
      by_cases e : xt = yt
      · have z3 : (xt != yt) = false := by simp [e]
        have z4 : (xt == yt) = true := by simp [e]
        have z5 : decide (xt = yt) = true := decide_eq_true e
        have HL2 : Hid ((us.take (i + 1)).filter (fun u => decide (u.1 ≠ yt)) = L) := Lib.hid (by rw [HFT.out, if_pos e, List.append_nil])
        clear e
        go_wp2_with fail
        go_roundw
        case rel => exact ⟨i + 1, by omega, by go_num, by rw [HL2.out]; exact HJ2.out⟩
        case measure => simp [intOf]; omega
      · have z3 : (xt != yt) = true := by simp [e]
        have z4 : (xt == yt) = false := by simp [e]
        have z5 : decide (xt = yt) = false := decide_eq_false e
        have HL2 : Hid ((us.take (i + 1)).filter (fun u => decide (u.1 ≠ yt)) = L ++ [(xt, .slice aT xl.length cT)]) := Lib.hid (by rw [HFT.out, if_neg e])
        have w1 : (wr.alloc (.cells #[.int .i64 xt, .slice aT xl.length cT] 83)).cell? ⟨wr.heap.size, 1, none⟩ = some (.slice aT xl.length cT) := by rw [World.cell?_alloc_at _ _ _ _ rfl]; rfl
        have w0 : (wr.alloc (.cells #[.int .i64 xt, .slice aT xl.length cT] 83)).cell? ⟨wr.heap.size, 0, none⟩ = some (.int .i64 xt) := by rw [World.cell?_alloc_at _ _ _ _ rfl]; rfl
        clear e
        go_upto_region 6 with fail
        generalize wr.alloc (.cells #[.int .i64 xt, .slice aT xl.length cT] 83) = wz at *
        go_wp2_with (at_builtin; refine wpList_appendU rfl _ _ rfl wz w2.heap.size _ L xt HJ2.out.own rfl rfl rfl (by omega) HJ2.out.bel.size ?_; intro a9 k9 w9 ho9 hk9 hn9; have HO9 := Lib.hid ho9; have HK9 := Lib.hid hk9; clear ho9 hk9 hn9)
        go_roundw
        case rel =>
          have h9 := HO9.out
          rw [List.length_append] at h9
          refine ⟨i + 1, by omega, by go_num, ?_⟩
          rw [HL2.out]
          refine ⟨by rw [List.length_append]; exact h9, HJ2.out.bel.trans (HK9.out.below HJ2.out.bel.size fun b _ e => (World.ownsRow.lt HJ2.out.own b e).1)⟩
        case measure => simp [intOf]; omega
    · obtain rfl : i = n := by omega
      have hii : ¬ (i : Int) < (i : Int) := by omega
      have HTL : Hid (us.take i = us) := Lib.hid (by rw [HNW.out, ← HUL.out]; exact List.take_length)
      have d0 : wr.cell? ⟨w.heap.size, 0, none⟩ = some (.int .i64 yt) := (HJ.out.bel.cell (p := ⟨w.heap.size, 0, none⟩) (by show w.heap.size < _; omega)).trans (HQ0.out 0 (by decide))
      have d1 : wr.cell? ⟨w.heap.size, 1, none⟩ = some (.int .i64 (yk : Nat)) := (HJ.out.bel.cell (p := ⟨w.heap.size, 1, none⟩) (by show w.heap.size < _; omega)).trans (HQ0.out 1 (by decide))
      have k1 : wr.cell? ⟨rb, 1, none⟩ = some (.slice ao i cap) := (HBW.out.cell (p := ⟨rb, 1, none⟩) hrbl).trans HC1.out
      have k2 : wr.frozen? ⟨rb, 1, none⟩ = false := (HBW.out.frozen (p := ⟨rb, 1, none⟩) hrbl).trans HZ1.out
      have hj := HJ.out
      rw [HTL.out] at hj
      have HJL := Lib.hid hj
      have HTURN : Hid (RefsAt (wr.setCell ⟨rb, 1, none⟩ (.slice aw ((us.take i).filter fun u => decide (u.1 ≠ yt)).length kw)) (asOf σ (.slice aw ((us.take i).filter fun u => decide (u.1 ≠ yt)).length kw) .waiters) rb vl ptr (.slice aw ((us.take i).filter fun u => decide (u.1 ≠ yt)).length kw) (us.filter fun u => decide (u.1 ≠ yt)) (Pp.wake s yt) (ws.filter fun x => decide (x.1 ≠ yt))) := Lib.hid (by
        have hge : ∀ b, (Value.slice aw ((us.take i).filter fun u => decide (u.1 ≠ yt)).length kw).ownBlock = some b → w.heap.size ≤ b := fun b hb => by
          have := (World.ownsRow.lt HJ.out.own b hb).1
          omega
        have hold : ∀ b, b < w.heap.size → asOf σ (.slice aw ((us.take i).filter fun u => decide (u.1 ≠ yt)).length kw) .waiters b = σ b := fun b hb => asOf_old fun e => by have := hge b e; omega
        have hkw : Keeps (fun _ => False) w wr := Keeps.of_new HBW.out
        refine HH.out.turn hkw hold (fun _ e => e.elim) (wake_chs _ _) (wake_same HH.out.ok HL.out) ?_ ((HH.out.wts.filter yt).keeps hkw (fun _ _ => id) fun b hb => hold b (HH.out.dom b hb)) (fun b hb => asOf_own hb) (asOf_dom HH.out.dom hkw.size fun b hb => (World.ownsRow.lt HJ.out.own b hb).2) (HH.out.ok.wake HL.out) (HH.out.rel.wake HH.out.ok HL.out) fun b hb e => ?_
        · have := HJL.out.own
          rw [HTL.out]
          exact own_mono this (Nat.zero_le _)
        · rw [e, hold rb hrbl, HH.out.p0] at hb
          cases hb)
      have hrow := HJ.out.own
      have HGE : Hid (∀ b, (Value.slice aw ((us.take i).filter fun u => decide (u.1 ≠ yt)).length kw).ownBlock = some b → w.heap.size + 2 ≤ b) := Lib.hid fun b hb => by
        have := (World.ownsRow.lt hrow b hb).1
        omega
      clear hj hrow
      generalize ((us.take i).filter fun u => decide (u.1 ≠ yt)).length = m at *
      have hks := keeps_set1 wr ⟨rb, 1, none⟩ (.slice aw m kw)
      have d0' : (wr.setCell ⟨rb, 1, none⟩ (.slice aw m kw)).cell? ⟨w.heap.size, 0, none⟩ = some (.int .i64 yt) := hks.cell_of d0 (by show ¬ w.heap.size = rb; omega)
      have d1' : (wr.setCell ⟨rb, 1, none⟩ (.slice aw m kw)).cell? ⟨w.heap.size, 1, none⟩ = some (.int .i64 (yk : Nat)) := hks.cell_of d1 (by show ¬ w.heap.size = rb; omega)
      have hf : ∀ j, j < 3 → (wr.setCell ⟨rb, 1, none⟩ (.slice aw m kw)).cell? ⟨w.heap.size + 1, j, none⟩ = some (.int .i64 0) ∧ (wr.setCell ⟨rb, 1, none⟩ (.slice aw m kw)).frozen? ⟨w.heap.size + 1, j, none⟩ = false := fun j hj => by
        obtain ⟨j1, j2⟩ := HQ1.out j hj
        have hl2 : w.heap.size + 1 < w2.heap.size := by omega
        exact ⟨hks.cell_of ((HJ.out.bel.cell (p := ⟨w.heap.size + 1, j, none⟩) hl2).trans j1) (by show ¬ w.heap.size + 1 = rb; omega), by rw [World.frozen?_setCell, HJ.out.bel.frozen (p := ⟨w.heap.size + 1, j, none⟩) hl2]; exact j2⟩
      obtain ⟨f0, g0⟩ := hf 0 (by decide)
      obtain ⟨f1, g1⟩ := hf 1 (by decide)
      obtain ⟨f2, g2⟩ := hf 2 (by decide)
      have HKS : Hid (Keeps (fun b => b = rb) w (wr.setCell ⟨rb, 1, none⟩ (.slice aw m kw))) := Lib.hid (((Keeps.of_new (S := fun b => b = rb) HBW.out)).trans hks)
      clear hf hks d0 d1
      go_upto_region 9 with fail
      clear k1 k2
      generalize wr.setCell ⟨rb, 1, none⟩ (.slice aw m kw) = wz at *
      obtain ⟨e0, e1, e2, hkz⟩ := set3 (W := wz) (r := w.heap.size + 1) f0 f1 f2 (.int .i64 yt) (.int .i64 (yk : Nat)) (.int .i64 nn)
      have HKZ := Lib.hid hkz
      clear hkz
      go_wp2_with fail
      refine bodyPost_ret (v := .agg #[.int .i64 yt, .int .i64 (yk : Nat), .int .i64 nn]) (by simp [results, Tryd.results31, go_sem, e0, e1, e2] <;> rfl) rfl ?_
      refine ⟨rfl, ⟨asOf σ (.slice aw m kw) .waiters, vl, .slice aw m kw, us.filter (fun u => decide (u.1 ≠ yt)), HTURN.out.keeps HKZ.out fun b _ e => ?_, fun b hb => asOf_old fun e => ?_⟩, HKS.out.trans' HKZ.out fun g hg e => by omega⟩
      · rw [e, asOf_old fun e2 => by have := HGE.out _ e2; omega]
        exact Classical.byContradiction fun e3 => by
          have := HH.out.dom _ e3
          omega
      · have := HGE.out b e
        omega
end
end Go.Proofs.YtppbmhpbbiigaaaDoor

namespace Go.Proofs.YtppbmhpbbiigaaaDoor
open Go.RowKit Go.Maps Pp

/-- Behind a turn of the channels, whatever row of channels there is. -/
structure RefsX (w w' : World) (σ : Nat → RRole) (rb : Nat) (s' : St) (ws' : List (Int × List Tk)) : Prop where
  ex : ∃ σ' vl' ptr' vw' us', RefsAt w' σ' rb vl' ptr' vw' us' s' ws' ∧ ∀ b, b < w.heap.size → σ' b = σ b
theorem RefsB.x {w w' : World} {σ : Nat → RRole} {rb : Nat} {ptr : List Nat} {s' : St} {ws' : List (Int × List Tk)} (h : RefsB w w' σ rb ptr s' ws') : RefsX w w' σ rb s' ws' := by
  obtain ⟨σ', vl', vw', us', h1, h2⟩ := h.ex
  exact ⟨σ', vl', ptr, vw', us', h1, h2⟩
theorem info_rch : (Tryd.prog.info? 69).map (fun i => (i.zero, i.size, i.bytes)) = some (some (.pointer none), 1, 8) := by kernel_rfl
theorem wpList_appendRP {ops : Array Oper} {rest : List Oper} {o : Oper} {a : Act} {Q : Exit → Act → World → Prop} (hgd : o.guard = none) (s x : Operand)
    (ho : o.op = .call { callee := .builtin .append, args := #[s, x], argTypes := #[23, 23] }) (w : World) (v : Value) (ptr : List Nat) (y : Nat) (hown : w.ownsRow 0 69 1 v ptr.length (ptr.map fun b => .pointer (some ⟨b, 0, none⟩))) (hs : a.eval s = v)
    {b : Nat} (hb : b = w.heap.size) (hx : a.eval x = .slice (some ⟨b, 0, none⟩) 1 1) (hl : ptr.length ≤ 1000000)
    (h : ∀ ao' cap' w', w'.ownsRow 0 69 1 (.slice ao' (ptr ++ [y]).length cap') (ptr ++ [y]).length ((ptr ++ [y]).map fun b => .pointer (some ⟨b, 0, none⟩)) → Keeps (fun b => v.ownBlock = some b) w w' →
      (∀ k, (Value.slice ao' (ptr ++ [y]).length cap').ownBlock = some k → v.ownBlock = some k ∨ w.heap.size ≤ k) →
      wpList Tryd.prog ops Q rest (a.put o.dst (.slice ao' (ptr ++ [y]).length cap')) w') : wpList Tryd.prog ops Q (o :: rest) a (w.alloc (.cells #[.pointer (some ⟨y, 0, none⟩)] 69)) := by
  subst hb
  obtain ⟨i0, hi, hz0, hz1, hz2⟩ := tinfoP info_rch
  refine wpList_append_own_at _ hgd s x 23 ho 0 69 i0 (.pointer none) 1 8 Tryd.underlying23 hi hz0 hz1 hz2 rfl (by decide) v ptr.length _ hs (World.ownsRow.alloc hown _) ⟨w.heap.size, 0, none⟩ 1 1 [.pointer (some ⟨y, 0, none⟩)] hx rfl
    (cell_one_new _ _ _) (fun u hu => by simp at hu; subst hu; rfl) (by unfold maxLen; omega) (by omega) (Nat.zero_le _) ?_
  intro v' w' h1 h2 _ h4
  have hO : w'.ownsRow 0 69 1 v' (ptr ++ [y]).length ((ptr ++ [y]).map fun b => .pointer (some ⟨b, 0, none⟩)) := by
    rw [List.map_append, List.length_append]
    exact h1
  obtain ⟨ao', cap', rfl⟩ := own_slice hO
  refine h _ _ _ hO (keeps_append h2 fun k e => e) fun k hk => ?_
  rcases h4 with h4 | h4
  · exact Or.inl (h4 ▸ hk)
  · rw [h4] at hk
    cases hk
    exact Or.inr (by simp)
/-- The roles of a new channel's blocks. -/
def roleRC (σ : Nat → RRole) (cb m : Nat) (v : Value) : Nat → RRole := fun b => if b = cb then .chan m else if v.ownBlock = some b then .chans else σ b
theorem RefsAt.grow {w w4 : World} {σ : Nat → RRole} {rb : Nat} {vl : Value} {ptr : List Nat} {vw : Value} {us : List (Int × Value)} {s : St} {ws : List (Int × List Tk)} (h : RefsAt w σ rb vl ptr vw us s ws) {n : Nat} (hn : n ≤ 8) (hm : s.chs.length < 32) (hk : Keeps (fun b => vl.ownBlock = some b) w w4) (hlt : w.heap.size < w4.heap.size) {v' : Value}
    (hr : w4.ownsRow 0 69 1 v' (ptr ++ [w.heap.size]).length ((ptr ++ [w.heap.size]).map fun b => .pointer (some ⟨b, 0, none⟩))) (hnb : ∀ k, v'.ownBlock = some k → vl.ownBlock = some k ∨ w.heap.size < k)
    (e0 : w4.cell? ⟨w.heap.size, 0, none⟩ = some (.int .i64 (n : Nat))) (e1 : w4.cell? ⟨w.heap.size, 1, none⟩ = some (.slice none 0 0)) (e2 : w4.cell? ⟨w.heap.size, 2, none⟩ = some (.bool false)) (ez : ∀ j, w4.frozen? ⟨w.heap.size, j, none⟩ = false) :
    RefsAt (w4.setCell ⟨rb, 0, none⟩ v') (roleRC σ w.heap.size s.chs.length v') rb v' (ptr ++ [w.heap.size]) vw us ⟨s.chs ++ [newCh n], s.asks⟩ ws ∧ (∀ b, b < w.heap.size → roleRC σ w.heap.size s.chs.length v' b = σ b) := by
  have hold : ∀ b, b < w.heap.size → roleRC σ w.heap.size s.chs.length v' b = σ b := fun b hb => by
    unfold roleRC
    rw [if_neg (by omega)]
    by_cases e : v'.ownBlock = some b
    · rw [if_pos e]
      rcases hnb b e with h1 | h1
      · exact (h.p1 b h1).symm
      · omega
    · rw [if_neg e]
  have hrbl := h.lt
  have hrb : ¬ vl.ownBlock = some rb := fun e => by have h1 := h.p1 rb e; rw [h.p0] at h1; cases h1
  have hs := keeps_set1 w4 ⟨rb, 0, none⟩ v'
  have hvr : ¬ v'.ownBlock = some rb := fun e => by
    rcases hnb rb e with h1 | h1
    · exact hrb h1
    · omega
  have hne : ∀ b r, b < w.heap.size → σ b = r → r ≠ .pipes → ¬ b = rb := fun b r _ hb h1 e => h1 (by rw [← hb, e, h.p0])
  refine ⟨⟨World.cell?_setCell_same _ _ _ (hk.cell_of h.c0 hrb), ?_, fun j => by rw [World.frozen?_setCell, hk.frozen (p := ⟨rb, j, none⟩) h.lt hrb]; exact h.z j, hs.row hr fun b hb e => hvr (by have e' : b = rb := e; rw [← e']; exact hb), by rw [List.length_append, List.length_append, h.len]; rfl, fun k cb c hcb hc => ?_, ?_, ?_, by rw [hold rb hrbl]; exact h.p0,
    fun b hb => ?_, fun b hb => by rw [hold b (World.ownsRow.lt h.wrow b hb).2]; exact h.p2 b hb, fun b hb => ?_, h.ok.make hn hm, h.rel.make h.ok n⟩, hold⟩
  · rw [cell_set_other (off_ne (by decide) rb)]; exact hk.cell_of h.c1 hrb
  · rcases Nat.lt_or_ge k ptr.length with h1 | h1
    · rw [List.getElem?_append_left h1] at hcb
      simp only at hc
      rw [List.getElem?_append_left (by rw [← h.len]; exact h1)] at hc
      obtain ⟨v, h2⟩ := h.chs k cb c hcb hc
      refine ⟨v, ((h2.role hold).keeps hk fun b hbl hb e => ?_).keeps hs fun b hbl hb e => ?_⟩
      · rw [hold b hbl, h.p1 b e] at hb; exact hb
      · simp only at e
        rw [e, hold rb hrbl, h.p0] at hb; exact hb
    · have hkl : k = ptr.length := by
        have := (List.getElem?_eq_some_iff.1 hcb).1
        rw [List.length_append, List.length_singleton] at this
        omega
      subst hkl
      rw [List.getElem?_append_right (Nat.le_refl _), Nat.sub_self] at hcb
      simp only at hc
      rw [h.len, List.getElem?_append_right (Nat.le_refl _), Nat.sub_self] at hc
      cases hcb
      cases hc
      have hcr : ¬ w.heap.size = rb := by omega
      exact ⟨.slice none 0 0, hs.cell_of e0 hcr, hs.cell_of e1 hcr, hs.cell_of e2 hcr, fun j => by rw [World.frozen?_setCell]; exact ez j, MidI.nil _ _, by unfold roleRC; rw [if_pos rfl, h.len], fun b hb => by cases hb⟩
  · exact hs.row (hk.row h.wrow fun b hb e => by have h1 := h.p2 b hb; rw [h.p1 b e] at h1; cases h1) fun b hb => hne b .waiters (World.ownsRow.lt h.wrow b hb).2 (h.p2 b hb) (by simp)
  · refine (h.wts.keeps hk (fun b hb e => by rw [h.p1 b e] at hb; cases hb) fun b hb => hold b (h.dom b hb)).keeps hs (fun b hb e => ?_) fun _ _ => rfl
    simp only at e
    rw [e, hold rb hrbl, h.p0] at hb
    cases hb
  · unfold roleRC
    rw [if_neg, if_pos hb]
    intro e
    rcases hnb b hb with h1 | h1
    · have := (World.ownsRow.lt h.row b h1).2
      omega
    · omega
  · rw [World.size_setCell]
    unfold roleRC at hb
    by_cases e : b = w.heap.size
    · omega
    · rw [if_neg e] at hb
      by_cases e2 : v'.ownBlock = some b
      · exact (World.ownsRow.lt hr b e2).2
      · rw [if_neg e2] at hb
        exact Nat.lt_of_lt_of_le (h.dom b hb) hk.size
section
variable {w : World} {σ : Nat → RRole} {rb : Nat} {vl : Value} {ptr : List Nat} {vw : Value} {us : List (Int × Value)} {s : St} {ws : List (Int × List Tk)}
theorem RefsAt.x (h : RefsAt w σ rb vl ptr vw us s ws) : RefsX w w σ rb s ws := ⟨σ, vl, ptr, vw, us, h, fun _ _ => rfl⟩
set_option maxRecDepth 100000 in
set_option maxHeartbeats 6400000 in
theorem rmake_any (h : RefsAt w σ rb vl ptr vw us s ws) (size : Int) :
    Calls Tryd.prog 5 #[.pointer (some ⟨rb, 0, none⟩), .int .i64 size] w fun e w' => e = .returned (.tuple #[.int .i64 (makeV s size).n, .int .i64 (makeV s size).err]) ∧ RefsX w w' σ rb (makeV s size).st ws ∧ Keeps (fun b => σ b ≠ .free) w w' := by
  have HX := Lib.hid h.x
  obtain ⟨ao, cap, rfl, hcap⟩ := h.vls
  have HH := Lib.hid h
  have c0 := h.c0
  have z0 := h.z 0
  have hrbl := h.lt
  have HW := Lib.hid (withinP_any w size 0 8)
  have hlen := h.len
  by_cases h0 : size < 0 ∨ 8 < size
  · have hv : makeV s size = ⟨0, 2, s⟩ := by unfold makeV; rw [if_pos h0]
    rw [hv]
    have hd : (decide (0 ≤ size) && decide (size ≤ 8)) = false := by
      rcases h0 with h0 | h0
      · rw [decide_eq_false (by omega : ¬ 0 ≤ size)]; rfl
      · rw [decide_eq_false (by omega : ¬ size ≤ 8), Bool.and_false]
    rw [hd] at HW
    clear h hv hlen h0 hd
    generalize s.chs.length = m at *
    go_enter Tryd.func5, Tryd.ntmps5
    go_wp2_with fail
    refine HW.out.mono ?_
    rintro e w' ⟨rfl, rfl⟩
    go_wp2_with fail
    go_ret2
    exact ⟨rfl, HX.out, Keeps.refl _ _⟩
  · have hd : (decide (0 ≤ size) && decide (size ≤ 8)) = true := by rw [decide_eq_true (by omega : 0 ≤ size), decide_eq_true (by omega : size ≤ 8)]; rfl
    rw [hd] at HW
    clear hd
    by_cases h32 : 32 ≤ s.chs.length
    · have hv : makeV s size = ⟨0, 12, s⟩ := by unfold makeV; rw [if_neg h0, if_pos h32]
      rw [hv]
      have d32 : (32 : Int) ≤ (s.chs.length : Int) := by omega
      have HM : Hid (32 ≤ s.chs.length) := Lib.hid h32
      clear h hv hlen h0
      generalize s.chs.length = m at *
      go_enter Tryd.func5, Tryd.ntmps5
      go_wp2_with fail
      refine HW.out.mono ?_
      rintro e w' ⟨rfl, rfl⟩
      go_wp2_with fail
      go_ret2
      exact ⟨rfl, HX.out, Keeps.refl _ _⟩
    · obtain ⟨n, rfl⟩ : ∃ n : Nat, size = n := ⟨size.toNat, by omega⟩
      have hv : makeV s (n : Int) = ⟨(s.chs.length : Int) + 1, 0, ⟨s.chs ++ [newCh n], s.asks⟩⟩ := by unfold makeV; rw [if_neg h0, if_neg h32, Int.toNat_natCast]
      rw [hv]
      have d32 : ¬ (32 : Int) ≤ (s.chs.length : Int) := by omega
      have hn8 : n ≤ 8 := by omega
      have hm32 : s.chs.length < 32 := by omega
      have HN8 := Lib.hid hn8
      have HM32 := Lib.hid hm32
      have HLEN := Lib.hid hlen
      have hka := alloc_new w (.cells #[.int .i64 (n : Nat), .slice none 0 0, .bool false] 72)
      have HR1 := Lib.hid (hka.row h.row fun _ _ => id)
      have HRB : Hid (¬ (Value.slice ao s.chs.length cap).ownBlock = some rb) := Lib.hid fun e => by have h1 := h.p1 rb e; rw [h.p0] at h1; cases h1
      have HNEW : Hid (∀ b, (Value.slice ao s.chs.length cap).ownBlock = some b → b < w.heap.size) := Lib.hid fun b hb => (World.ownsRow.lt h.row b hb).2
      have HC0 := Lib.hid c0
      have HZ0 := Lib.hid z0
      clear h hv h0 h32 hka hn8
      go_enter Tryd.func5, Tryd.ntmps5
      go_wp2_with fail
      refine HW.out.mono ?_
      rintro e w' ⟨rfl, rfl⟩
      go_wp2_with (at_builtin; refine wpList_appendRP rfl _ _ rfl (w.alloc (.cells #[.int .i64 (n : Nat), .slice none 0 0, .bool false] 72)) _ ptr w.heap.size HR1.out rfl (by simp) rfl (by omega) ?_; intro a9 k9 w9 ho9 hk9 hn9; have HO9 := Lib.hid ho9; have HK9 := Lib.hid hk9; have HN9 := Lib.hid hn9; have k0 : w9.cell? ⟨rb, 0, none⟩ = some (.slice ao s.chs.length cap) := hk9.cell_of (Go.Lib.cell?_alloc_some _ HC0.out) HRB.out; have k1 : w9.frozen? ⟨rb, 0, none⟩ = false := (by rw [hk9.frozen (p := ⟨rb, 0, none⟩) (by simp; omega) HRB.out, World.frozen?_alloc_past _ _ _ hrbl]; exact HZ0.out); clear ho9 hk9 hn9)
      have HG : Hid (RefsAt (w9.setCell ⟨rb, 0, none⟩ (.slice a9 (ptr ++ [w.heap.size]).length k9)) (roleRC σ w.heap.size s.chs.length (.slice a9 (ptr ++ [w.heap.size]).length k9)) rb (.slice a9 (ptr ++ [w.heap.size]).length k9) (ptr ++ [w.heap.size]) vw us ⟨s.chs ++ [newCh n], s.asks⟩ ws ∧ (∀ b, b < w.heap.size → roleRC σ w.heap.size s.chs.length (.slice a9 (ptr ++ [w.heap.size]).length k9) b = σ b)) := Lib.hid (by
        have hka := alloc_new w (.cells #[.int .i64 (n : Nat), .slice none 0 0, .bool false] 72)
        have hlt9 : w.heap.size < w9.heap.size := Nat.lt_of_lt_of_le (by simp) HK9.out.size
        have hnw : ¬ (Value.slice ao s.chs.length cap).ownBlock = some w.heap.size := fun e => by have := HNEW.out _ e; omega
        have hcell : ∀ j u, (w.alloc (.cells #[.int .i64 (n : Nat), .slice none 0 0, .bool false] 72)).cell? ⟨w.heap.size, j, none⟩ = some u → w9.cell? ⟨w.heap.size, j, none⟩ = some u := fun j u hu => HK9.out.cell_of hu hnw
        refine HH.out.grow HN8.out HM32.out ((hka.mono fun _ _ e => e.elim).trans HK9.out) hlt9 HO9.out (fun k hk => ?_) (hcell 0 _ (by rw [World.cell?_alloc_at _ _ _ _ rfl]; rfl)) (hcell 1 _ (by rw [World.cell?_alloc_at _ _ _ _ rfl]; rfl)) (hcell 2 _ (by rw [World.cell?_alloc_at _ _ _ _ rfl]; rfl)) fun j => ?_
        · rcases HN9.out k hk with e | e
          · exact Or.inl e
          · exact Or.inr (by simp at e; omega)
        · rw [HK9.out.frozen (p := ⟨w.heap.size, j, none⟩) (by simp) hnw, World.frozen?_alloc_at _ _ _ _ rfl])
      have HKK : Hid (Keeps (fun b => σ b ≠ .free) w (w9.setCell ⟨rb, 0, none⟩ (.slice a9 (ptr ++ [w.heap.size]).length k9))) := Lib.hid (by
        have hka := alloc_new w (.cells #[.int .i64 (n : Nat), .slice none 0 0, .bool false] 72)
        have h1 : Keeps (fun b => σ b ≠ .free) w w9 := (hka.mono fun _ _ e => e.elim).trans' HK9.out fun g hg e => by rw [HH.out.p1 g e]; simp
        refine h1.trans ((keeps_set1 w9 ⟨rb, 0, none⟩ _).mono fun g _ e => ?_)
        have e' : g = rb := e
        rw [e', HH.out.p0]
        simp)
      clear k0 k1 c0 z0
      have HL9 : Hid ((ptr ++ [w.heap.size]).length = s.chs.length + 1) := Lib.hid (by rw [List.length_append, HLEN.out]; rfl)
      rw [HL9.out] at HG HKK
      go_ret2
      exact ⟨rfl, ⟨_, _, _, _, _, HG.out.1, HG.out.2⟩, HKK.out⟩
end
end Go.Proofs.YtppbmhpbbiigaaaDoor

namespace Go.Proofs.YtppbmhpbbiigaaaDoor
open Go.RowKit Go.Maps Pp

section
variable {w : World} {σ : Nat → RRole} {rb : Nat} {vl : Value} {ptr : List Nat} {vw : Value} {us : List (Int × Value)} {s : St} {ws : List (Int × List Tk)}
/-- How many stand in a row. -/
theorem rrow_len (h : RefsAt w σ rb vl ptr vw us s ws) (hN : ws.length ≤ 10000) (c what : Int) {n : Nat} (hn : (rowR ws what c).length = n) :
    Calls Tryd.prog 30 #[.pointer (some ⟨rb, 0, none⟩), .int .i64 c, .int .i64 what] w fun e w' => ∃ au cu, e = .returned (.slice au n cu) ∧ Below w.heap.size w w' := by
  subst hn
  refine (rrow_any h hN c what).mono ?_
  rintro e w' ⟨u, rfl, h1, h2⟩
  obtain ⟨au, cu, rfl⟩ := own_slice h1
  exact ⟨au, cu, rfl, h2⟩
theorem isFree_zero (chs : List Ch) {t : Tk} (h : t.chan = 0) : isFree chs t = false := by
  unfold isFree Pp.chan
  rw [if_pos h, Bool.and_false]
theorem isFree_at {chs : List Ch} {t : Tk} {k : Nat} {x : Ch} (h : t.chan = (k : Int) + 1) (hx : chs[k]? = some x) (h40 : t.what ≠ 40) : isFree chs t = x.free t.what := by
  unfold isFree
  rw [h, chan_succ hx, decide_eq_true h40, Bool.true_and]

set_option maxRecDepth 100000 in
set_option maxHeartbeats 6400000 in
theorem rfree_any (h : RefsAt w σ rb vl ptr vw us s ws) (hN : ws.length ≤ 10000) (t : Tk) (hg : t.good s.chs.length) :
    Calls Tryd.prog 28 #[.pointer (some ⟨rb, 0, none⟩), .agg #[.int .i64 t.what, .int .i64 t.chan, .int .i64 t.n]] w fun e w' => e = .returned (.bool (isFree s.chs t)) ∧ Below w.heap.size w w' := by
  obtain ⟨b, hb⟩ : ∃ b, isFree s.chs t = b := ⟨_, rfl⟩
  rw [hb]
  obtain ⟨tw, tc, tn⟩ := t
  obtain ⟨hc, hw⟩ := hg
  simp only at hc hw
  have hb0 : Below w.heap.size w (w.alloc (.cells #[.int .i64 tw, .int .i64 tc, .int .i64 tn] 85)) := (Below.refl _ _).alloc (Nat.le_refl _) _
  have HB0 := Lib.hid hb0
  clear hb0
  by_cases h0 : tc = 0
  · have hbf : b = false := by rw [← hb]; exact isFree_zero _ h0
    subst hbf
    subst h0
    clear h hb hc hw
    go_enter Tryd.func28, Tryd.ntmps28
    go_wp2_with fail
    go_ret
    exact ⟨rfl, HB0.out⟩
  · obtain ⟨k, rfl⟩ : ∃ k : Nat, tc = (k : Int) + 1 := ⟨(tc - 1).toNat, by omega⟩
    have hk : k < s.chs.length := by omega
    obtain ⟨x, hx⟩ : ∃ x, s.chs[k]? = some x := ⟨_, List.getElem?_eq_getElem hk⟩
    have h40 : tw ≠ 40 := by omega
    have hbx : x.free tw = b := by rw [← hb, isFree_at rfl hx h40]
    obtain ⟨g, cap, cb, v, rfl, hgl, hcap, _, f1, hch⟩ := h.at hx
    obtain ⟨av, cv, rfl⟩ := hch.nums.slice
    have hm32 := h.ok.many
    have HH := Lib.hid h
    have hka := alloc_new w (.cells #[.int .i64 tw, .int .i64 ((k : Int) + 1), .int .i64 tn] 85)
    have HHA := Lib.hid (h.keeps hka fun _ _ e => e.elim)
    have c0 := HHA.out.c0
    have f1' := Go.Lib.cell?_alloc_some (.cells #[.int .i64 tw, .int .i64 ((k : Int) + 1), .int .i64 tn] 85) f1
    have d0 := Go.Lib.cell?_alloc_some (.cells #[.int .i64 tw, .int .i64 ((k : Int) + 1), .int .i64 tn] 85) hch.c0
    have d1 := Go.Lib.cell?_alloc_some (.cells #[.int .i64 tw, .int .i64 ((k : Int) + 1), .int .i64 tn] 85) hch.c1
    have d2 := Go.Lib.cell?_alloc_some (.cells #[.int .i64 tw, .int .i64 ((k : Int) + 1), .int .i64 tn] 85) hch.c2
    have q0 : (w.alloc (.cells #[.int .i64 tw, .int .i64 ((k : Int) + 1), .int .i64 tn] 85)).cell? ⟨w.heap.size, 0, none⟩ = some (.int .i64 tw) := by rw [World.cell?_alloc_at _ _ _ _ rfl]; rfl
    have q1 : (w.alloc (.cells #[.int .i64 tw, .int .i64 ((k : Int) + 1), .int .i64 tn] 85)).cell? ⟨w.heap.size, 1, none⟩ = some (.int .i64 ((k : Int) + 1)) := by rw [World.cell?_alloc_at _ _ _ _ rfl]; rfl
    obtain ⟨hr3, hr10⟩ := h.rel.rows k x hx
    have e0 : (((k : Int) + 1) == 0) = false := by rw [beq_eq_false_iff_ne]; omega
    have e1 : wrap64 (k : Int) = (k : Int) := by unfold wrap64; omega
    have e1' : IntKind.i64.wrap ((k : Int) + 1 - 1) = (k : Int) := by rw [IntKind.wrap_i64]; omega
    have e2 : (k : Int) + 1 - 1 = (k : Int) := by omega
    have e4 : (tw == 40) = false := by rw [beq_eq_false_iff_ne]; exact h40
    have hki : (0 : Int) ≤ (k : Int) ∧ (k : Int) < (s.chs.length : Int) := by omega
    obtain ⟨n3, hn3⟩ : ∃ n, n = x.sends.length := ⟨_, rfl⟩
    obtain ⟨n10, hn10⟩ : ∃ n, n = x.recvs.length := ⟨_, rfl⟩
    obtain ⟨nl, hnl⟩ : ∃ n, n = x.nums.length := ⟨_, rfl⟩
    obtain ⟨sz, hsz⟩ : ∃ n, n = x.size := ⟨_, rfl⟩
    have hbv : (x.shut || if tw = 3 then (decide (0 < n10) || decide (nl < sz)) else (decide (0 < nl) || decide (0 < n3))) = b := by
      rw [hn3, hn10, hnl, hsz]; exact hbx
    obtain ⟨w1, hw1⟩ : ∃ w1, w1 = w.alloc (.cells #[.int .i64 tw, .int .i64 ((k : Int) + 1), .int .i64 tn] 85) := ⟨_, rfl⟩
    rw [← hsz] at d0
    rw [← hnl] at d1
    have HR10 : Hid (∀ V, Below w1.heap.size w1 V → Calls Tryd.prog 30 #[.pointer (some ⟨rb, 0, none⟩), .int .i64 ((k : Int) + 1), .int .i64 10] V fun e V' => ∃ au cu, e = .returned (.slice au n10 cu) ∧ Below V.heap.size V V') := Lib.hid fun V hV => by
      rw [hw1] at hV
      exact rrow_len (HHA.out.keeps (Keeps.of_new (S := fun _ => False) hV) fun _ _ e => e.elim) hN _ _ (by rw [← hr10, hn10])
    have HR3 : Hid (∀ V, Below w1.heap.size w1 V → Calls Tryd.prog 30 #[.pointer (some ⟨rb, 0, none⟩), .int .i64 ((k : Int) + 1), .int .i64 3] V fun e V' => ∃ au cu, e = .returned (.slice au n3 cu) ∧ Below V.heap.size V V') := Lib.hid fun V hV => by
      rw [hw1] at hV
      exact rrow_len (HHA.out.keeps (Keeps.of_new (S := fun _ => False) hV) fun _ _ e => e.elim) hN _ _ (by rw [← hr3, hn3])
    have HF : Hid (∀ V, Below w1.heap.size w1 V → V.cell? ⟨cb, 0, none⟩ = some (.int .i64 (sz : Nat)) ∧ V.cell? ⟨cb, 1, none⟩ = some (.slice av nl cv) ∧ V.cell? ⟨w.heap.size, 1, none⟩ = some (.int .i64 ((k : Int) + 1))) := Lib.hid fun V hV => by
      rw [hw1] at hV
      have hcl := hch.lt
      exact ⟨(hV.cell (p := ⟨cb, 0, none⟩) (by simp; omega)).trans d0, (hV.cell (p := ⟨cb, 1, none⟩) (by simp; omega)).trans d1, (hV.cell (p := ⟨w.heap.size, 1, none⟩) (by simp)).trans q1⟩
    have HB1 : Hid (Below w.heap.size w w1) := Lib.hid (by rw [hw1]; exact HB0.out)
    rw [← hw1] at c0 f1' d0 d1 d2 q0 q1
    clear h hb hc hx hbx hka f1 hch hr3 hr10 hn3 hn10 hnl hsz hk hgl hcap HHA HH h40
    generalize s.chs.length = m at *
    generalize x.shut = sh at *
    go_enter Tryd.func28, Tryd.ntmps28
    go_upto_region 1 with fail
    rw [← hw1]
    clear hw1 HB0
    go_wp2_with fail
    go_quiet (fail)
    have hq1 : Below w1.heap.size w1 (w1.drewN nq) := ⟨rfl, rfl, rfl, Nat.le_refl _, fun _ _ => rfl⟩
    have HQ1 := Lib.hid hq1
    have HBQ : Hid (Below w.heap.size w (w1.drewN nq)) := Lib.hid (HB1.out.trans (HQ1.out.mono HB1.out.size))
    clear hq1
    cases sh with
    | true =>
      rw [Bool.true_or] at hbv
      subst hbv
      go_wp2_with fail
      go_ret
      exact ⟨rfl, HBQ.out⟩
    | false =>
      rw [Bool.false_or] at hbv
      have g0 := HF.out _ HQ1.out
      rcases hw with rfl | rfl
      · rw [if_pos rfl] at hbv
        have p0 : (w1.drewN nq).cell? ⟨w.heap.size, 0, none⟩ = some (.int .i64 3) := q0
        have p2 : (w1.drewN nq).cell? ⟨cb, 2, none⟩ = some (.bool false) := d2
        obtain ⟨p3, p4, p5⟩ := g0
        clear c0 f1' d0 d1 d2 q0 q1
        generalize w1.drewN nq = wq at *
        go_upto_region 7 with fail
        by_cases hl : nl < sz
        · have z1 : decide ((nl : Int) < (sz : Int)) = true := decide_eq_true (by omega)
          have z2 : decide (nl < sz) = true := decide_eq_true hl
          have z3 : (nl : Int) < (sz : Int) := by omega
          rw [z2, Bool.or_true] at hbv
          subst hbv
          go_quiet (fail)
          go_wp2_with fail
          go_ret
          exact ⟨rfl, HBQ.out.trans ⟨rfl, rfl, rfl, Nat.le_refl _, fun _ _ => rfl⟩⟩
        · have z1 : decide ((nl : Int) < (sz : Int)) = false := decide_eq_false (by omega)
          have z2 : decide (nl < sz) = false := decide_eq_false hl
          have z3 : ¬ (nl : Int) < (sz : Int) := by omega
          rw [z2, Bool.or_false] at hbv
          have hb1 : Below w1.heap.size w1 wq := HQ1.out
          go_region_held3 (fun V : World => V.cell? ⟨cb, 0, none⟩ = some (.int .i64 (sz : Nat)) ∧ V.cell? ⟨cb, 1, none⟩ = some (.slice av nl cv) ∧ V.cell? ⟨w.heap.size, 1, none⟩ = some (.int .i64 ((k : Int) + 1))) (first | exact HF.out _ (by assumption) | exact HF.out _ (Below.drew (by assumption)))
            ((first | (go_at_call 30; refine (HR10.out _ ?_).mono ?_; (first | assumption | exact Below.drew (by assumption)); rintro e V ⟨au, cu, rfl, hV⟩; have hv1 : Below w1.heap.size w1 V := (by first | exact bel_step (by assumption) hV | exact bel_step' (by assumption) hV))))
          all_goals go_wp2_with fail
          go_ret
          exact ⟨rfl, HB1.out.trans (hv1.mono HB1.out.size)⟩
      · rw [if_neg (by decide)] at hbv
        have p0 : (w1.drewN nq).cell? ⟨w.heap.size, 0, none⟩ = some (.int .i64 10) := q0
        have p2 : (w1.drewN nq).cell? ⟨cb, 2, none⟩ = some (.bool false) := d2
        obtain ⟨p3, p4, p5⟩ := g0
        clear c0 f1' d0 d1 d2 q0 q1
        generalize w1.drewN nq = wq at *
        go_upto_region 8 with fail
        by_cases hl : 0 < nl
        · have z1 : decide ((0 : Int) < (nl : Int)) = true := decide_eq_true (by omega)
          have z2 : decide (0 < nl) = true := decide_eq_true hl
          have z3 : (0 : Int) < (nl : Int) := by omega
          rw [z2, Bool.true_or] at hbv
          subst hbv
          go_wp2_with fail
          go_ret
          exact ⟨rfl, HBQ.out⟩
        · have z1 : decide ((0 : Int) < (nl : Int)) = false := decide_eq_false (by omega)
          have z2 : decide (0 < nl) = false := decide_eq_false hl
          have z3 : ¬ (0 : Int) < (nl : Int) := by omega
          rw [z2, Bool.false_or] at hbv
          have hb1 : Below w1.heap.size w1 wq := HQ1.out
          have HC := Lib.hid (HR3.out _ hb1)
          go_wp2_with fail
          refine HC.out.mono ?_
          rintro e V ⟨au, cu, rfl, hV⟩
          have hv1 : Below w1.heap.size w1 V := bel_step hb1 hV
          all_goals go_wp2_with fail
          go_ret
          exact ⟨rfl, HB1.out.trans (hv1.mono HB1.out.size)⟩
end
end Go.Proofs.YtppbmhpbbiigaaaDoor

namespace Go.Proofs.YtppbmhpbbiigaaaDoor
open Go.RowKit Go.Maps Pp

theorem ChC.shutS {w : World} {ρ : Nat → Role} {k cb rb sb : Nat} {v1 v2 : Value} {c : Ch} (h : ChC w ρ k cb rb sb v1 v2 c) : ChC (w.setCell ⟨cb, 1, none⟩ (.bool true)) ρ k cb rb sb v1 v2 { c with shut := true } := by
  have hs := keeps_set1 w ⟨cb, 1, none⟩ (.bool true)
  have hm : ∀ g q, ρ g = q → q ≠ .chan k → ¬ g = cb := fun g q hq h3 e => h3 (by rw [← hq, e]; exact h.p0)
  refine ⟨?_, World.cell?_setCell_same _ _ _ h.c1, ?_, ?_, fun j => by rw [World.frozen?_setCell]; exact h.z j, ?_, Nat.lt_of_lt_of_le h.lt hs.size, h.r1.keeps hs fun b hb => hm b _ (h.p3 b hb) (by simp), h.r2.keeps hs fun b hb => hm b _ (h.p4 b hb) (by simp), h.p0, h.p1, h.p2, h.p3, h.p4⟩
  · rw [cell_set_other (off_ne (by decide) cb)]; exact h.c0
  · rw [cell_set_other (off_ne (by decide) cb)]; exact h.c2
  · rw [cell_set_other (off_ne (by decide) cb)]; exact h.c3
  · exact h.ring.keeps hs (hm _ _ h.p1 (by simp)) (hm _ _ h.p2 (by simp))
/-- Whose row it was, nobody's it is. -/
def freeOf (ρ : Nat → Role) (v : Value) : Nat → Role := fun b => if v.ownBlock = some b then .free else ρ b
theorem freeOf_other {ρ : Nat → Role} {v : Value} {k : Nat} (hv : ∀ b, v.ownBlock = some b → ρ b = .recvs k) {b : Nat} (hb : ρ b ≠ .recvs k) : freeOf ρ v b = ρ b := by
  unfold freeOf
  rw [if_neg fun e => hb (hv b e)]
theorem freeOf_own {ρ : Nat → Role} {v : Value} {b : Nat} (h : v.ownBlock = some b) : freeOf ρ v b = .free := if_pos h
theorem freeOf_or (ρ : Nat → Role) (v : Value) (b : Nat) : freeOf ρ v b = ρ b ∨ freeOf ρ v b = .free := by
  unfold freeOf
  split
  · exact Or.inr rfl
  · exact Or.inl rfl
theorem freeOf_sub {ρ : Nat → Role} {v : Value} {b : Nat} (h : freeOf ρ v b ≠ .free) : ρ b ≠ .free := by
  rcases freeOf_or ρ v b with e | e
  · rw [← e]; exact h
  · exact absurd e h
theorem PipesAt.freed {w : World} {ρ : Nat → Role} {pb : Nat} {vch : Value} {ptr : List Nat} {mb : Option Nat} {D : DataW Value} {N M : Nat} {s : St} (h : PipesAt w ρ pb vch ptr mb D N M s) {k : Nat} {v : Value} (hv : ∀ b, v.ownBlock = some b → ρ b = .recvs k)
    (hk : ∀ cb c, ptr[k]? = some cb → s.chs[k]? = some c → ∃ rb sb v1, ChC w ρ k cb rb sb v1 (.slice none 0 0) c) : PipesAt w (freeOf ρ v) pb vch ptr mb D N M s := by
  have key : ∀ {b r}, ρ b = r → r ≠ .recvs k → freeOf ρ v b = r := fun {b r} hr hne => by rw [freeOf_other hv (by rw [hr]; exact hne), hr]
  refine ⟨h.c0, h.c1, h.z, h.row, h.len, h.many, fun j cb c hcb hc => ?_, h.rows, h.map0, fun b hb => ⟨(h.map1 b hb).1, key (h.map1 b hb).2 (by simp)⟩, h.has, fun t l hl => ?_, key h.p0 (by simp), fun b hb => key (h.p1 b hb) (by simp), fun b hb => h.dom b (freeOf_sub hb)⟩
  · by_cases e : j = k
    · subst e
      obtain ⟨rb, sb, v1, hx⟩ := hk cb c hcb hc
      exact ⟨rb, sb, v1, _, hx.c0, hx.c1, hx.c2, hx.c3, hx.z, hx.ring, hx.lt, hx.r1, hx.r2, key hx.p0 (by simp), key hx.p1 (by simp), key hx.p2 (by simp), fun b hb => key (hx.p3 b hb) (by simp), fun b hb => by cases hb⟩
    · obtain ⟨rb, sb, v1, v2, hx⟩ := h.chs j cb c hcb hc
      exact ⟨rb, sb, v1, v2, hx.c0, hx.c1, hx.c2, hx.c3, hx.z, hx.ring, hx.lt, hx.r1, hx.r2, key hx.p0 (by simp), key hx.p1 (by simp), key hx.p2 (by simp), fun b hb => key (hx.p3 b hb) (by simp), fun b hb => key (hx.p4 b hb) (by simp [e])⟩
  · obtain ⟨h1, u, h2, h3, h4⟩ := h.talk t l hl
    exact ⟨h1, u, h2, h3, fun b hb => key (h4 b hb) (by simp)⟩
/-- The world behind both stores. -/
def shutW (w : World) (cb : Nat) : World := (w.setCell ⟨cb, 1, none⟩ (.bool true)).setCell ⟨cb, 3, none⟩ (.slice none 0 0)
theorem PipesAt.shuts {w : World} {ρ : Nat → Role} {pb : Nat} {vch : Value} {ptr : List Nat} {mb : Option Nat} {D : DataW Value} {N M : Nat} {s : St} (h : PipesAt w ρ pb vch ptr mb D N M s) {k cb rb sb : Nat} {v1 v2 : Value} {c : Ch} (hcb : ptr[k]? = some cb) (hc : s.chs[k]? = some c) (hx : ChC w ρ k cb rb sb v1 v2 c) :
    PipesAt (shutW w cb) (freeOf ρ v2) pb vch ptr mb D N M ⟨s.chs.modify k fun c => { c with shut := true, recvs := [] }, s.asks⟩ ∧ Keeps (fun b => b = cb) w (shutW w cb) := by
  have hk : Keeps (fun b => b = cb) w (shutW w cb) := ((Keeps.refl (fun b => b = cb) w).setCell (p := ⟨cb, 1, none⟩) (Or.inl rfl) _).setCell (p := ⟨cb, 3, none⟩) (Or.inl rfl) _
  have hx2 : ChC (shutW w cb) ρ k cb rb sb v1 (.slice none 0 0) { c with shut := true, recvs := [] } := hx.shutS.recvs (Keeps.refl _ _) (rowW_nil _) fun b hb => by cases hb
  refine ⟨?_, hk⟩
  have hp : PipesAt (shutW w cb) ρ pb vch ptr mb D N M ⟨s.chs.set k { c with shut := true, recvs := [] }, s.asks⟩ := by
    refine h.put hk (fun _ _ => rfl) (fun g hg => Nat.lt_of_lt_of_le (h.dom g hg) hk.size) k (fun b e => Or.inr (by rw [e, hx.p0]; rfl)) (fun cb' hcb' => ?_) ⟨(h.rows k c hc).1, Nat.zero_le _⟩ (Nat.le_refl _)
    rw [hcb] at hcb'
    cases hcb'
    exact ⟨_, _, _, _, hx2⟩
  rw [modify_set _ hc]
  refine hp.freed hx.p4 fun cb' c' hcb' hc' => ?_
  rw [hcb] at hcb'
  cases hcb'
  rw [List.getElem?_set_self (List.getElem?_eq_some_iff.1 hc).1] at hc'
  cases hc'
  exact ⟨_, _, _, hx2⟩
theorem cellsK_append (a b : List Wk) : cellsK (a ++ b) = cellsK a ++ cellsK b := by simp [cellsK]
theorem info_wake : (Tryd.prog.info? 65).map (fun i => (i.zero, i.size, i.bytes)) = some (some (.agg #[.int .i64 0, .int .i64 0, .int .i64 0]), 3, 24) := by kernel_rfl
/-- 'wakes = append(wakes, w)'. -/
theorem wpList_appendK {ops : Array Oper} {rest : List Oper} {o : Oper} {a : Act} {Q : Exit → Act → World → Prop} (hgd : o.guard = none) (s x : Operand)
    (ho : o.op = .call { callee := .builtin .append, args := #[s, x], argTypes := #[45, 45] }) (w : World) (B : Nat) (v : Value) (l : List Wk) (y : Wk) (hown : w.ownsRow B 65 3 v l.length (cellsK l)) (hs : a.eval s = v) {b : Nat} (hb : b = w.heap.size)
    (hx : a.eval x = .slice (some ⟨b, 0, none⟩) 1 1) (hl : l.length ≤ 100000000) (hB : B ≤ w.heap.size)
    (h : ∀ ao' cap' w', w'.ownsRow B 65 3 (.slice ao' (l ++ [y]).length cap') (l ++ [y]).length (cellsK (l ++ [y])) → Keeps (fun b => v.ownBlock = some b) w w' →
      wpList Tryd.prog ops Q rest (a.put o.dst (.slice ao' (l ++ [y]).length cap')) w') : wpList Tryd.prog ops Q (o :: rest) a (w.alloc (.cells #[.int .i64 y.task, .int .i64 (y.case : Int), .int .i64 y.n] 65)) := by
  subst hb
  obtain ⟨i0, hi, hz0, hz1, hz2⟩ := tinfoP info_wake
  have hnew : ∀ j u, [Value.int .i64 y.task, Value.int .i64 (y.case : Int), Value.int .i64 y.n][j]? = some u → (w.alloc (.cells #[.int .i64 y.task, .int .i64 (y.case : Int), .int .i64 y.n] 65)).cell? ((⟨w.heap.size, 0, none⟩ : Addr).add j) = some u := fun j u hu => by
    rw [addr_addP, World.cell?_alloc_at _ _ _ _ rfl]
    rcases j with _ | _ | _ | j
    · exact hu
    · exact hu
    · exact hu
    · simp at hu
  refine wpList_append_own_at _ hgd s x 45 ho B 65 i0 (.agg #[.int .i64 0, .int .i64 0, .int .i64 0]) 3 24 Tryd.underlying45 hi hz0 hz1 hz2 rfl (by decide) v l.length (cellsK l) hs (World.ownsRow.alloc hown _) ⟨w.heap.size, 0, none⟩ 1 1 [.int .i64 y.task, .int .i64 (y.case : Int), .int .i64 y.n] hx rfl
    hnew (fun u hu => by simp at hu; rcases hu with rfl | rfl | rfl <;> rfl) (by unfold maxLen; omega) (by omega) (by simp; omega) ?_
  intro v' w' h1 h2 _ h4
  have hO : w'.ownsRow B 65 3 v' (l ++ [y]).length (cellsK (l ++ [y])) := by
    rw [cellsK_append, List.length_append]
    exact h1
  obtain ⟨ao', cap', rfl⟩ := own_sliceK hO
  exact h _ _ _ hO (keeps_append h2 fun k e => e)
section
variable {w w' : World} {ρ : Nat → Role} {pb : Nat} {vch : Value} {ptr : List Nat} {mb : Option Nat} {D : DataW Value} {N M : Nat} {s : St}
set_option maxRecDepth 100000 in
/-- Whether a task waits, whatever is drawn. -/
theorem PipesAt.waitsN (h : PipesAt w ρ pb vch ptr mb D N M s) {t : Int} (hwf : (Lit.int .i64 t).wf = true) : ∃ u, ∀ z, (Instr.lookup 29 (.map mb) (.int .i64 t) true).run Tryd.prog (w.drewN z) = .ok (.tuple #[u, .bool (s.asks t).isSome]) (w.drewN z) := by
  have hz : ∀ w : World, (zeroValue 32).run Tryd.prog w = .ok (.slice none 0 0) w := fun w => by simp [Tryd.zeroValue32]
  cases mb with
  | none =>
    have h1 := h.has t
    rw [h.map0 rfl] at h1
    rw [← h1]
    exact ⟨_, fun z => Maps.look_nil (P := Tryd.prog) (t := 29) (w := w.drewN z) true keyedP Tryd.underlying29 (hz _) (keyOf_int_mk Tryd.underlying3 hwf)⟩
  | some b =>
    have ho := (h.map1 b rfl).1
    have hd : ∀ z, (w.drewN z).ownsMap Tryd.prog 3 heldE b N D := fun z => (keeps_drewN (Keeps.refl (fun _ => False) w) z).map ho id
    obtain ⟨v, ps, h1, h2⟩ := (hd 0).look_ok keyedP Tryd.underlying29 (hz _) (zd := .held (.slice none 0 0)) (zp := []) rfl (keyOf_int_mk Tryd.underlying3 hwf)
    refine ⟨v, fun z => ?_⟩
    obtain ⟨v', ps', h3, h4⟩ := (hd z).look_ok keyedP Tryd.underlying29 (hz _) (zd := .held (.slice none 0 0)) (zp := []) rfl (keyOf_int_mk Tryd.underlying3 hwf)
    have e : v' = v := by
      have r : DataW.held v' = DataW.held v := (congrArg Prod.fst (Option.some.inj h4)).trans (congrArg Prod.fst (Option.some.inj h2)).symm
      injection r
    rw [e, h.has] at h3
    exact h3
end
end Go.Proofs.YtppbmhpbbiigaaaDoor

namespace Go.Proofs.YtppbmhpbbiigaaaDoor
open Go.RowKit Go.Maps Pp

theorem offW_lt {ws : List (Int × List Tk)} {what c : Int} {y : Int × Nat} (hy : y ∈ rowR ws what c) : (offW y.1 ws).length < ws.length := by
  unfold rowR at hy
  obtain ⟨x, hx, h1⟩ := List.mem_flatMap.1 hy
  have h2 := (mem_rowT h1).1
  unfold offW
  rw [List.length_filter_lt_length_iff_exists]
  exact ⟨x, hx, by simp [h2]⟩
/-- 'wakes = append(wakes, w)'. -/
theorem wpList_appendK2 {ops : Array Oper} {rest : List Oper} {o : Oper} {a : Act} {Q : Exit → Act → World → Prop} (hgd : o.guard = none) (s x : Operand)
    (ho : o.op = .call { callee := .builtin .append, args := #[s, x], argTypes := #[45, 45] }) (w : World) (B : Nat) (v : Value) (l : List Wk) (y : Wk) (hown : w.ownsRow B 65 3 v l.length (cellsK l)) (hs : a.eval s = v) {b : Nat} (hb : b = w.heap.size)
    (hx : a.eval x = .slice (some ⟨b, 0, none⟩) 1 1) (hl : l.length ≤ 100000000) (hB : B ≤ w.heap.size)
    (h : ∀ ao' cap' w', w'.ownsRow B 65 3 (.slice ao' (l ++ [y]).length cap') (l ++ [y]).length (cellsK (l ++ [y])) → Keeps (fun b => v.ownBlock = some b) w w' → (∀ k, (Value.slice ao' (l ++ [y]).length cap').ownBlock = some k → v.ownBlock = some k ∨ w.heap.size ≤ k) →
      wpList Tryd.prog ops Q rest (a.put o.dst (.slice ao' (l ++ [y]).length cap')) w') : wpList Tryd.prog ops Q (o :: rest) a (w.alloc (.cells #[.int .i64 y.task, .int .i64 (y.case : Int), .int .i64 y.n] 65)) := by
  subst hb
  obtain ⟨i0, hi, hz0, hz1, hz2⟩ := tinfoP info_wake
  have hnew : ∀ j u, [Value.int .i64 y.task, Value.int .i64 (y.case : Int), Value.int .i64 y.n][j]? = some u → (w.alloc (.cells #[.int .i64 y.task, .int .i64 (y.case : Int), .int .i64 y.n] 65)).cell? ((⟨w.heap.size, 0, none⟩ : Addr).add j) = some u := fun j u hu => by
    rw [addr_addP, World.cell?_alloc_at _ _ _ _ rfl]
    rcases j with _ | _ | _ | j
    · exact hu
    · exact hu
    · exact hu
    · simp at hu
  refine wpList_append_own_at _ hgd s x 45 ho B 65 i0 (.agg #[.int .i64 0, .int .i64 0, .int .i64 0]) 3 24 Tryd.underlying45 hi hz0 hz1 hz2 rfl (by decide) v l.length (cellsK l) hs (World.ownsRow.alloc hown _) ⟨w.heap.size, 0, none⟩ 1 1 [.int .i64 y.task, .int .i64 (y.case : Int), .int .i64 y.n] hx rfl
    hnew (fun u hu => by simp at hu; rcases hu with rfl | rfl | rfl <;> rfl) (by unfold maxLen; omega) (by omega) (by simp; omega) ?_
  intro v' w' h1 h2 _ h4
  have hO : w'.ownsRow B 65 3 v' (l ++ [y]).length (cellsK (l ++ [y])) := by
    rw [cellsK_append, List.length_append]
    exact h1
  obtain ⟨ao', cap', rfl⟩ := own_sliceK hO
  refine h _ _ _ hO (keeps_append h2 fun k e => e) fun k hk => ?_
  rcases h4 with e | e
  · exact Or.inl (by rw [← e]; exact hk)
  · rw [e] at hk
    cases hk
    exact Or.inr (by simp)
/-- How many wait, as the memory has it. -/
def lenW (rb : Nat) (w : World) : Nat := match w.cell? ⟨rb, 1, none⟩ with | some (.slice _ n _) => n | _ => 0
section
variable {w : World} {σ : Nat → RRole} {rb : Nat} {vl : Value} {ptr : List Nat} {vw : Value} {us : List (Int × Value)} {s : St} {ws : List (Int × List Tk)}
theorem RefsAt.lenW (h : RefsAt w σ rb vl ptr vw us s ws) : lenW rb w = ws.length := by
  obtain ⟨ao, cap, rfl⟩ := h.vws
  unfold Go.Proofs.YtppbmhpbbiigaaaDoor.lenW
  rw [h.c1]
/-- What stands in a row first. -/
theorem rrow_head (h : RefsAt w σ rb vl ptr vw us s ws) (hN : ws.length ≤ 10000) (c what : Int) {y : Int × Nat} {r : List (Int × Nat)} (hy : rowR ws what c = y :: r) :
    Calls Tryd.prog 30 #[.pointer (some ⟨rb, 0, none⟩), .int .i64 c, .int .i64 what] w fun e w' => ∃ g cu, e = .returned (.slice (some ⟨g, 0, none⟩) (y :: r).length cu) ∧ w'.cell? ⟨g, 0, none⟩ = some (.int .i64 y.1) ∧ w'.cell? ⟨g, 1, none⟩ = some (.int .i64 (y.2 : Nat)) ∧ (y :: r).length ≤ cu ∧ Below w.heap.size w w' := by
  refine (rrow_any h hN c what).mono ?_
  rintro e w' ⟨u, rfl, h1, h2⟩
  rw [hy] at h1
  have hrw : RowW w' u (y :: r) := own_mono h1 (Nat.zero_le _)
  obtain ⟨au, cu, rfl⟩ := own_slice h1
  obtain ⟨g, rfl, -, h4, -, -, -⟩ := hrw.addr (by simp)
  obtain ⟨h6, h7⟩ := hrw.cell (i := 0) (x := y) rfl
  rw [Nat.zero_mul] at h6 h7
  exact ⟨g, cu, rfl, h6, h7, h4, h2⟩
/-- What comes of a close. -/
structure RCloseP (w w' : World) (σ : Nat → RRole) (rb : Nat) (ws : List (Int × List Tk)) (g : Got) (vw : Value) : Prop where
  refs : ∃ ws', RefsX w w' σ rb g.st ws' ∧ ws'.length ≤ ws.length
  wk : w'.ownsRow w.heap.size 65 3 vw g.wakes.length (cellsK g.wakes)
  keep : Keeps (fun b => σ b ≠ .free) w w'
theorem RCloseP.same (h : RefsAt w σ rb vl ptr vw us s ws) {w' : World} (hb : Below w.heap.size w w') (er : Int) : RCloseP w w' σ rb ws ⟨s, 0, [], er⟩ (.slice none 0 0) :=
  ⟨⟨ws, ⟨σ, vl, ptr, vw, us, h.keeps (Keeps.of_new (S := fun _ => False) hb) (fun _ _ e => e.elim), fun _ _ => rfl⟩, Nat.le_refl _⟩, World.ownsRow_nil _ _ _ _, Keeps.of_new hb⟩
/-- A channel is shut. -/
theorem RefsAt.shuts {k cb : Nat} {v : Value} {x : Ch} (h : RefsAt w σ rb vl ptr vw us s ws) (hcb : ptr[k]? = some cb) (hx : s.chs[k]? = some x) (hc : RCh w σ k cb v x) : RefsAt (w.setCell ⟨cb, 2, none⟩ (.bool true)) σ rb vl ptr vw us (shutV k s) ws ∧ Keeps (fun b => b = cb) w (w.setCell ⟨cb, 2, none⟩ (.bool true)) := by
  have hs := keeps_set1 w ⟨cb, 2, none⟩ (.bool true)
  have he : shutV k s = ⟨s.chs.set k { x with shut := true }, s.asks⟩ := by unfold Pp.shutV; rw [modify_set _ hx]
  refine ⟨?_, hs⟩
  have hok := h.ok.shutV k
  have hrel := h.rel.shutV k
  rw [he] at hok hrel ⊢
  refine h.put hs (fun _ _ => rfl) (fun b hb => by rw [World.size_setCell]; exact h.dom b hb) k (fun b e => Or.inr (by have e' : b = cb := e; rw [e', hc.p0]; rfl)) (fun cb' hcb' => ?_) hok hrel
  rw [hcb] at hcb'
  cases hcb'
  refine ⟨v, ?_, ?_, World.cell?_setCell_same _ _ _ hc.c2, fun j => by rw [World.frozen?_setCell]; exact hc.z j, hc.nums.keeps hs fun b hb e => ?_, hc.p0, hc.p1⟩
  · rw [cell_set_other (off_ne (by decide) cb)]; exact hc.c0
  · rw [cell_set_other (off_ne (by decide) cb)]; exact hc.c1
  · have e' : b = cb := e
    have h1 := hc.p1 b hb
    rw [e', hc.p0] at h1
    cases h1
/-- So far. -/
structure RCloJ (w wr : World) (σ : Nat → RRole) (rb n : Nat) (s : St) (c : Int) (k : Nat) (av : Value) (si : St) (wi : List (Int × List Tk)) (acc : List Wk) : Prop where
  refs : ∃ σ' vl' ptr' vw' us', RefsAt wr σ' rb vl' ptr' vw' us' si wi ∧ (∀ b, b < w.heap.size → σ' b = σ b) ∧ ∀ b, av.ownBlock = some b → σ' b = .free
  clo : CloseR s c k si wi acc
  wk : wr.ownsRow w.heap.size 65 3 av acc.length (cellsK acc)
  keep : Keeps (fun b => σ b ≠ .free) w wr
  len : acc.length + wi.length ≤ n

set_option maxRecDepth 100000 in
set_option maxHeartbeats 12800000 in
theorem rclose_any (h : RefsAt w σ rb vl ptr vw us s ws) (hN : ws.length ≤ 10000) (c : Int) :
    Calls Tryd.prog 11 #[.pointer (some ⟨rb, 0, none⟩), .int .i64 c] w fun e w' => ∃ vw, e = .returned (.tuple #[vw, .int .i64 (Pp.close s c).err]) ∧ RCloseP w w' σ rb ws (Pp.close s c) vw := by
  obtain ⟨r, hr⟩ : ∃ r, Pp.close s c = r := ⟨_, rfl⟩
  rw [hr]
  have HR := Lib.hid hr
  have HH := Lib.hid h
  have HW := Lib.hid (withinP_any w c 0 s.chs.length)
  rw [may_within] at HW
  have c0 := h.c0
  have hm32 := h.ok.many
  cases hm : may s.chs.length c with
  | false =>
    have hre : r = ⟨s, 0, [], 2⟩ := by rw [← hr]; unfold Pp.close; rw [if_pos hm]
    have HC := Lib.hid (RCloseP.same h (Below.refl _ _) 2)
    subst hre
    rw [hm] at HW
    obtain ⟨ao, cap, rfl, _⟩ := h.vls
    clear h hr hm
    generalize s.chs.length = m at *
    go_enter Tryd.func11, Tryd.ntmps11
    go_wp2_with fail
    refine HW.out.mono ?_
    rintro e w' ⟨rfl, rfl⟩
    go_wp2_with fail
    go_ret2
    exact ⟨_, rfl, HC.out⟩
  | true =>
    rw [hm] at HW
    rcases may_cases hm with rfl | ⟨k, rfl, hk⟩
    · have hre : r = ⟨s, 0, [], 1⟩ := by rw [← hr]; unfold Pp.close; rw [if_neg (by rw [hm]; decide)]; rfl
      have HC := Lib.hid (RCloseP.same h (Below.refl _ _) 1)
      subst hre
      obtain ⟨ao, cap, rfl, _⟩ := h.vls
      clear h hr hm
      generalize s.chs.length = m at *
      go_enter Tryd.func11, Tryd.ntmps11
      go_wp2_with fail
      refine HW.out.mono ?_
      rintro e w' ⟨rfl, rfl⟩
      go_wp2_with fail
      go_ret2
      exact ⟨_, rfl, HC.out⟩
    · obtain ⟨x, hx⟩ : ∃ x, s.chs[k]? = some x := ⟨_, List.getElem?_eq_getElem hk⟩
      have hcx := chan_succ hx
      obtain ⟨g, cap, cb, v, rfl, hgl, hcap, hcb, f1, hch⟩ := h.at hx
      have d2 := hch.c2
      have e0 : (((k : Int) + 1) == 0) = false := by rw [beq_eq_false_iff_ne]; omega
      have e1 : wrap64 (k : Int) = (k : Int) := by unfold wrap64; omega
      have e1' : IntKind.i64.wrap ((k : Int) + 1 - 1) = (k : Int) := by rw [IntKind.wrap_i64]; omega
      have e2 : (k : Int) + 1 - 1 = (k : Int) := by omega
      have hki : (0 : Int) ≤ (k : Int) ∧ (k : Int) < (s.chs.length : Int) := by omega
      cases hs : x.shut with
      | true =>
        have hre : r = ⟨s, 0, [], 1⟩ := by rw [← hr]; unfold Pp.close; rw [if_neg (by rw [hm]; decide), hcx]; simp only; rw [if_pos hs]
        have HC := Lib.hid (RCloseP.same h (Below.refl _ _) 1)
        subst hre
        rw [hs] at d2
        clear h hr hm hx hcx hch hs hgl hcap hcb hk
        generalize s.chs.length = m at *
        go_enter Tryd.func11, Tryd.ntmps11
        go_wp2_with fail
        refine HW.out.mono ?_
        rintro e w' ⟨rfl, rfl⟩
        go_wp2_with fail
        go_ret2
        exact ⟨_, rfl, HC.out⟩
      | false =>
        obtain ⟨hr3, hr10⟩ := h.rel.rows k x hx
        rw [hs] at d2
        obtain ⟨n3, hn3⟩ : ∃ n, n = x.sends.length := ⟨_, rfl⟩
        have HROW := Lib.hid (rrow_len h hN ((k : Int) + 1) 3 (n := n3) (by rw [← hr3, hn3]))
        rcases Nat.eq_zero_or_pos n3 with h0 | h0
        · have hs0 : x.sends = [] := List.eq_nil_of_length_eq_zero (by omega)
          have HSTART := Lib.hid (CloseR.start h.ok h.rel hx hs hs0)
          have HX := Lib.hid hx
          have HCB := Lib.hid hcb
          have HCH := Lib.hid hch
          have z0 : ¬ (0 : Int) < (n3 : Int) := by omega
          have z1 : decide ((0 : Int) < (n3 : Int)) = false := decide_eq_false z0
          have z2 : decide (0 < n3) = false := decide_eq_false (by omega)
          obtain ⟨n, hn⟩ : ∃ n, n = ws.length := ⟨_, rfl⟩
          have HNN := Lib.hid hn
          rw [← hn] at hN
          have HF : Hid (∀ V, Below w.heap.size w V → V.cell? ⟨rb, 0, none⟩ = some (.slice (some ⟨g, 0, none⟩) s.chs.length cap) ∧ V.cell? ⟨g, k, none⟩ = some (.pointer (some ⟨cb, 0, none⟩)) ∧ V.cell? ⟨cb, 2, none⟩ = some (.bool false) ∧ V.frozen? ⟨cb, 2, none⟩ = false) := Lib.hid fun V hV =>
            ⟨(hV.cell (p := ⟨rb, 0, none⟩) h.lt).trans c0, (hV.cell (p := ⟨g, k, none⟩) hgl).trans f1, (hV.cell (p := ⟨cb, 2, none⟩) hch.lt).trans d2, (hV.frozen (p := ⟨cb, 2, none⟩) hch.lt).trans (hch.z 2)⟩
          have HKC : Hid (k < s.chs.length) := Lib.hid hk
          clear h hr hm hx hcx hch hs hgl hcap hcb hr3 hr10 hs0 hn3 h0 hn hk
          obtain ⟨m, hmm⟩ : ∃ m, m = s.chs.length := ⟨_, rfl⟩
          rw [← hmm] at HW c0 hki HF HH hm32
          clear hmm
          go_enter Tryd.func11, Tryd.ntmps11
          go_wp2_with fail
          refine HW.out.mono ?_
          rintro e w' ⟨rfl, rfl⟩
          go_wp2_with fail
          refine HROW.out.mono ?_
          rintro e w1 ⟨au, cu, rfl, hb1⟩
          have HB1 := Lib.hid hb1
          obtain ⟨k0, k1, k2, k3⟩ := HF.out w1 hb1
          have hk1 := Keeps.of_new (S := fun _ => False) hb1
          have hch1 : RCh w1 σ k cb v x := HCH.out.keeps hk1 fun _ _ _ e => e
          have HSH := Lib.hid ((HH.out.keeps hk1 fun _ _ e => e.elim).shuts HCB.out HX.out hch1)
          have HK2 : Hid (Keeps (fun b => σ b ≠ .free) w (w1.setCell ⟨cb, 2, none⟩ (.bool true))) := Lib.hid ((hk1.mono fun _ _ e => e.elim).trans (HSH.out.2.mono fun b _ e => by rw [e, HCH.out.p0]; simp))
          clear hb1 hk1 hch1
          go_wp2_with fail
          clear k0 k1 k2 k3 c0 f1 d2
          generalize w1.setCell ⟨cb, 2, none⟩ (.bool true) = w2 at *
          have HJ0 : Hid (RCloJ w w2 σ rb n s ((k : Int) + 1) k (.slice none 0 0) (shutV k s) ws []) := Lib.hid ⟨⟨σ, _, ptr, vw, us, HSH.out.1, (fun _ _ => rfl), fun b hb => by cases hb⟩, HSTART.out, World.ownsRow_nil _ _ _ _, HK2.out, by rw [HNN.out]; simp⟩
          go_loopw [6] (fun av wr => ∃ si wi acc, RCloJ w wr σ rb n s ((k : Int) + 1) k av si wi acc) (fun _ wr => lenW rb wr)
          case atStart => exact ⟨_, _, _, HJ0.out⟩
          case round =>
            obtain ⟨si, wi, acc, hJ⟩ := hrel
            rename World => wr
            obtain ⟨aw, kw, hav⟩ := own_sliceK hJ.wk
            subst hav
            obtain ⟨σ1, vl1, ptr1, vw1, us1, hra, hold, hfree⟩ := hJ.refs
            have HFREE := Lib.hid hfree
            have HJ := Lib.hid hJ
            have HRA := Lib.hid hra
            have HOLD := Lib.hid hold
            have hwl := hJ.len
            clear hJ hra hold hfree HJ0
            rcases hrow : rowR wi 10 ((k : Int) + 1) with _ | ⟨y, yr⟩
            · have HFIN := Lib.hid (HJ.out.clo.fin hrow)
              have HROW2 := Lib.hid (rrow_len HRA.out (by omega) ((k : Int) + 1) 10 (n := 0) (by rw [hrow]; rfl))
              clear hrow
              go_wp2_with fail
              refine HROW2.out.mono ?_
              rintro e w6 ⟨a6, c6, rfl, hb6⟩
              have HB6 := Lib.hid hb6
              clear hb6
              go_wp2_with fail
              go_ret2
              have hre : r = ⟨si, 0, acc, 0⟩ := by rw [← HR.out, HFIN.out]
              subst hre
              have hk6 := Keeps.of_new (S := fun _ => False) HB6.out
              exact ⟨_, rfl, ⟨wi, ⟨σ1, vl1, ptr1, vw1, us1, HRA.out.keeps hk6 fun _ _ e => e.elim, HOLD.out⟩, by rw [← HNN.out]; omega⟩, hk6.row HJ.out.wk fun _ _ => id, HJ.out.keep.trans (hk6.mono fun _ _ e => e.elim)⟩
            · have HROW2 := Lib.hid (rrow_len HRA.out (by omega) ((k : Int) + 1) 10 (n := yr.length + 1) (by rw [hrow]; rfl))
              obtain ⟨l, hl⟩ := HJ.out.clo.head (y := y) (by rw [hrow]; exact List.mem_cons_self)
              have HL := Lib.hid hl
              have HYM : Hid (y ∈ rowR wi 10 ((k : Int) + 1)) := Lib.hid (by rw [hrow]; exact List.mem_cons_self)
              have HY := Lib.hid hrow
              have hyl : (0 : Int) < ((yr.length + 1 : Nat) : Int) := by omega
              have hyl2 : decide ((0 : Int) < ((yr.length + 1 : Nat) : Int)) = true := decide_eq_true hyl
              have hyl3 : (0 : Int) < (yr.length : Int) + 1 := by omega
              clear hrow hl
              go_wp2_with fail
              refine HROW2.out.mono ?_
              rintro e w6 ⟨a6, c6, rfl, hb6⟩
              have HRA6 := Lib.hid (HRA.out.keeps (Keeps.of_new (S := fun _ => False) hb6) fun _ _ e => e.elim)
              have HB6 := Lib.hid hb6
              have HHD := Lib.hid (rrow_head HRA6.out (by omega) ((k : Int) + 1) 10 HY.out)
              clear hb6
              go_wp2_with fail
              refine HHD.out.mono ?_
              rintro e w7 ⟨g7, c7, rfl, j0, j1, jc, hb7⟩
              have HRA7 := Lib.hid (HRA6.out.keeps (Keeps.of_new (S := fun _ => False) hb7) fun _ _ e => e.elim)
              have HB7 : Hid (Below wr.heap.size wr w7) := Lib.hid (bel_step HB6.out hb7)
              obtain ⟨yt, yk⟩ := y
              simp only at j0 j1
              have HGO := Lib.hid (rgoes_any HRA7.out (by omega) (yt, yk) 0 HL.out)
              simp only at HGO
              have hcc : 1 ≤ c7 := by simp at jc; omega
              clear hb7
              go_wp2_with fail
              refine HGO.out.mono ?_
              rintro e w8 ⟨rfl, hx8, hk8⟩
              obtain ⟨σ2, vl2, vw2, us2, hra8, hold8⟩ := hx8.ex
              have HRA8 := Lib.hid hra8
              have HOLD8 := Lib.hid hold8
              have hrbl : rb < w.heap.size := HH.out.lt
              have hw8 : w8.ownsRow w.heap.size 65 3 (.slice aw acc.length kw) acc.length (cellsK acc) := hk8.row ((Keeps.of_new (S := fun _ => False) HB7.out).row HJ.out.wk fun _ _ => id) fun b hb e => by
                have := (World.ownsRow.lt HJ.out.wk b hb).1
                omega
              have HW8 := Lib.hid hw8
              have hs8 : w.heap.size ≤ w8.heap.size := Nat.le_trans HJ.out.keep.size (Nat.le_trans HB7.out.size hk8.size)
              have HS8 := Lib.hid hs8
              have HK8 : Hid (Keeps (fun b => σ b ≠ .free) w w8) := Lib.hid ((HJ.out.keep.trans (Keeps.of_new HB7.out)).trans (hk8.mono fun b _ e => by rw [e, HH.out.p0]; simp))
              have HOWN2 : Hid (∀ b, (Value.slice aw acc.length kw).ownBlock = some b → σ2 b = .free) := Lib.hid fun b hb => by
                have h1 := (World.ownsRow.lt HJ.out.wk b hb).2
                rw [hold8 b (Nat.lt_of_lt_of_le h1 HB7.out.size)]
                exact HFREE.out b hb
              have hlt : (offW yt wi).length < wi.length := offW_lt HYM.out
              have HLT := Lib.hid hlt
              have HWW : Hid (∀ b, b < w.heap.size → σ2 b = σ b) := Lib.hid fun b hb => by
                rw [hold8 b (Nat.lt_of_lt_of_le hb (Nat.le_trans HJ.out.keep.size HB7.out.size))]
                exact HOLD.out b hb
              have HLEN1 : Hid (lenW rb wr = wi.length) := Lib.hid HRA.out.lenW
              clear hra8 hold8 hx8 hk8 hw8 hs8 hlt j0 j1
              go_wp2_with (at_builtin; refine wpList_appendK2 rfl _ _ rfl w8 w.heap.size _ acc ⟨yt, yk, 0⟩ HW8.out rfl rfl rfl (by omega) HS8.out ?_; intro a9 k9 w9 hO9 hK9 hN9; have HO9 := Lib.hid hO9; have HK9 := Lib.hid hK9; have HN9 := Lib.hid hN9; clear hO9 hK9 hN9)
              have HRA9 := Lib.hid (HRA8.out.keeps HK9.out fun b _ e => HOWN2.out b e)
              have HJ9 : Hid (RCloJ w w9 σ rb n s ((k : Int) + 1) k (.slice a9 (acc ++ [Wk.mk yt yk 0]).length k9) (Pp.wake si yt) (offW yt wi) (acc ++ [⟨yt, yk, 0⟩])) := Lib.hid ⟨⟨σ2, vl2, ptr1, vw2, us2, HRA9.out, HWW.out, fun b hb => by
                  rcases HN9.out b hb with e | e
                  · exact HOWN2.out b e
                  · exact Classical.byContradiction fun e2 => by
                      have := HRA8.out.dom b e2
                      omega⟩, HJ.out.clo.step HY.out, HO9.out, HK8.out.trans' HK9.out fun b hb e => by
                    have := (World.ownsRow.lt HW8.out b e).1
                    omega, by
                    have := HLT.out
                    rw [List.length_append, List.length_singleton]
                    omega⟩
              have HLEN9 : Hid (lenW rb w9 = (offW yt wi).length) := Lib.hid HRA9.out.lenW
              go_roundw
              case rel =>
                have h9 := HJ9.out
                rw [List.length_append] at h9
                exact ⟨_, _, _, h9⟩
              case measure => rw [HLEN1.out, HLEN9.out]; exact HLT.out
        · have hre : r = ⟨s, 0, [], 13⟩ := by rw [← hr]; unfold Pp.close; rw [if_neg (by rw [hm]; decide), hcx]; simp only; rw [if_neg (by rw [hs]; decide), if_pos (by omega)]
          have HC : Hid (∀ V, Below w.heap.size w V → RCloseP w V σ rb ws ⟨s, 0, [], 13⟩ (.slice none 0 0)) := Lib.hid fun V hV => RCloseP.same h hV 13
          subst hre
          have z0 : (0 : Int) < (n3 : Int) := by omega
          have z1 : decide ((0 : Int) < (n3 : Int)) = true := decide_eq_true z0
          have z2 : decide (0 < n3) = true := decide_eq_true h0
          clear h hr hm hx hcx hch hs hgl hcap hcb hr3 hr10 hn3 hk
          generalize s.chs.length = m at *
          go_enter Tryd.func11, Tryd.ntmps11
          go_wp2_with fail
          refine HW.out.mono ?_
          rintro e w' ⟨rfl, rfl⟩
          go_wp2_with fail
          refine HROW.out.mono ?_
          rintro e w1 ⟨au, cu, rfl, hb1⟩
          have HB1 := Lib.hid hb1
          clear hb1
          go_wp2_with fail
          go_ret2
          exact ⟨_, rfl, HC.out _ HB1.out⟩
end
end Go.Proofs.YtppbmhpbbiigaaaDoor

namespace Go.Proofs.YtppbmhpbbiigaaaDoor
open Go.RowKit Go.Maps Pp

theorem below_drewN (w : World) (n : Nat) : Below w.heap.size w (w.drewN n) := ⟨rfl, rfl, rfl, Nat.le_refl _, fun _ _ => rfl⟩

set_option maxRecDepth 100000 in
set_option maxHeartbeats 3200000 in
theorem sameInts_any {w : World} {v1 v2 : Value} {xs : List Int} (h1 : IntsAt w v1 xs) (h2 : IntsAt w v2 xs) :
    Calls Tryd.prog 42 #[v1, v2] w fun e w' => e = .returned (.bool true) ∧ Below w.heap.size w w' := by
  obtain ⟨a1, n, k1, rfl, hn, hc1, hm1, hx1⟩ := h1
  obtain ⟨a2, n2, k2, rfl, hn2, hc2, hm2, hx2⟩ := h2
  obtain rfl : n = n2 := by omega
  have HX1 := Lib.hid hx1
  have HX2 := Lib.hid hx2
  unfold maxLen at hm1
  clear hx1 hx2 hn hn2 hm2
  go_enter Tryd.func42, Tryd.ntmps42
  go_wp2_with fail
  go_loopw [5] (fun iv wr => ∃ i : Nat, i ≤ n ∧ iv = .int .i64 i ∧ Below w.heap.size w wr) (fun iv _ => n - (intOf iv).toNat)
  case atStart => exact ⟨0, Nat.zero_le _, rfl, Below.refl _ _⟩
  case round =>
    obtain ⟨i, hi, rfl, hb⟩ := hrel
    rename World => wr
    have HB := Lib.hid hb
    clear hb
    by_cases hin : i < n
    · obtain ⟨b1, o1, rfl, hb1, g1⟩ := HX1.out (by omega)
      obtain ⟨b2, o2, rfl, hb2, g2⟩ := HX2.out (by omega)
      have q1 := (HB.out.cell (p := ⟨b1, o1 + i, none⟩) hb1).trans (g1 i hin)
      have q2 := (HB.out.cell (p := ⟨b2, o2 + i, none⟩) hb2).trans (g2 i hin)
      obtain ⟨x, hx⟩ : ∃ x, xs.getD i 0 = x := ⟨_, rfl⟩
      rw [hx] at q1 q2
      have hii : (0 : Int) ≤ (i : Int) ∧ (i : Int) < (n : Int) := by omega
      clear g1 g2 hx hb1 hb2
      go_wp2_with fail
      go_quiet (fail)
      have HBQ : Hid (Below w.heap.size w (wr.drewN nq)) := Lib.hid (HB.out.trans ((below_drewN wr nq).mono HB.out.size))
      go_wp2_with fail
      go_roundw
      case rel => exact ⟨i + 1, by omega, by go_num, HBQ.out⟩
      case measure => simp [intOf]; omega
    · obtain rfl : i = n := by omega
      have hnn : ¬ (i : Int) < (i : Int) := by omega
      go_wp2_with fail
      go_ret
      exact ⟨rfl, HB.out⟩
set_option maxRecDepth 100000 in
set_option maxHeartbeats 3200000 in
theorem sameWaits_any {w : World} {v1 v2 : Value} {r : List (Int × Nat)} (h1 : RowW w v1 r) (h2 : RowW w v2 r) :
    Calls Tryd.prog 43 #[v1, v2] w fun e w' => e = .returned (.bool true) ∧ Below w.heap.size w w' := by
  obtain ⟨a1, k1, rfl, hc1, hm1⟩ := h1.slice
  obtain ⟨a2, k2, rfl, hc2, hm2⟩ := h2.slice
  have H1 := Lib.hid h1
  have H2 := Lib.hid h2
  obtain ⟨n, hn⟩ : ∃ n, n = r.length := ⟨_, rfl⟩
  have HN := Lib.hid hn
  rw [← hn] at hc1 hc2 H1 H2 ⊢
  unfold maxLen at hm1
  clear h1 h2 hn hm2
  go_enter Tryd.func43, Tryd.ntmps43
  go_wp2_with fail
  go_loopw [5] (fun iv wr => ∃ i : Nat, i ≤ n ∧ iv = .int .i64 i ∧ Below w.heap.size w wr) (fun iv _ => n - (intOf iv).toNat)
  case atStart => exact ⟨0, Nat.zero_le _, rfl, Below.refl _ _⟩
  case round =>
    obtain ⟨i, hi, rfl, hb⟩ := hrel
    rename World => wr
    have HB := Lib.hid hb
    clear hb
    by_cases hin : i < n
    · obtain ⟨⟨xt, xk⟩, hx⟩ : ∃ x, r[i]? = some x := ⟨_, List.getElem?_eq_getElem (by rw [← HN.out]; exact hin)⟩
      obtain ⟨b1, rfl, -, -, -, hb1, -⟩ := H1.out.addr (by rw [← HN.out]; omega)
      obtain ⟨b2, rfl, -, -, -, hb2, -⟩ := H2.out.addr (by rw [← HN.out]; omega)
      obtain ⟨g1, g2⟩ := H1.out.cell hx
      obtain ⟨g3, g4⟩ := H2.out.cell hx
      simp only at g1 g2 g3 g4
      have q1 := (HB.out.cell (p := ⟨b1, i * 2, none⟩) hb1).trans g1
      have q2 := (HB.out.cell (p := ⟨b1, i * 2 + 1, none⟩) hb1).trans g2
      have q3 := (HB.out.cell (p := ⟨b2, i * 2, none⟩) hb2).trans g3
      have q4 := (HB.out.cell (p := ⟨b2, i * 2 + 1, none⟩) hb2).trans g4
      have hii : (0 : Int) ≤ (i : Int) ∧ (i : Int) < (n : Int) := by omega
      clear g1 g2 g3 g4 hx hb1 hb2
      go_wp2_with fail
      go_quiet (fail)
      have HBQ : Hid (Below w.heap.size w (wr.drewN nq)) := Lib.hid (HB.out.trans ((below_drewN wr nq).mono HB.out.size))
      go_wp2_with fail
      go_roundw
      case rel => exact ⟨i + 1, by omega, by go_num, HBQ.out⟩
      case measure => simp [intOf]; omega
    · obtain rfl : i = n := by omega
      have hnn : ¬ (i : Int) < (i : Int) := by omega
      go_wp2_with fail
      go_ret
      exact ⟨rfl, HB.out⟩
theorem cellsK_at : ∀ (l : List Wk) (i : Nat) (x : Wk), l[i]? = some x → (cellsK l)[i * 3]? = some (.int .i64 x.task) ∧ (cellsK l)[i * 3 + 1]? = some (.int .i64 (x.case : Int)) ∧ (cellsK l)[i * 3 + 2]? = some (.int .i64 x.n) := by
  intro l
  induction l with
  | nil => intro i x h; cases h
  | cons p r ih =>
    intro i x h
    have e : cellsK (p :: r) = .int .i64 p.task :: .int .i64 (p.case : Int) :: .int .i64 p.n :: cellsK r := rfl
    cases i with
    | zero => cases h; exact ⟨rfl, rfl, rfl⟩
    | succ i =>
      have := ih i x (by simpa using h)
      rw [e]
      refine ⟨?_, ?_, ?_⟩
      · rw [show (i + 1) * 3 = i * 3 + 1 + 1 + 1 by omega]; simpa using this.1
      · rw [show (i + 1) * 3 + 1 = i * 3 + 1 + 1 + 1 + 1 by omega]; simpa using this.2.1
      · rw [show (i + 1) * 3 + 2 = i * 3 + 2 + 1 + 1 + 1 by omega]; simpa using this.2.2
/-- Those that go on, to be read. -/
def WakesAt (w : World) (v : Value) (l : List Wk) : Prop :=
  ∃ ao cap, v = .slice ao l.length cap ∧ l.length ≤ cap ∧ cap ≤ maxLen ∧ (0 < l.length → ∃ g, ao = some ⟨g, 0, none⟩ ∧ g < w.heap.size ∧ ∀ (i : Nat) x, l[i]? = some x → w.cell? ⟨g, i * 3, none⟩ = some (.int .i64 x.task) ∧ w.cell? ⟨g, i * 3 + 1, none⟩ = some (.int .i64 (x.case : Int)) ∧ w.cell? ⟨g, i * 3 + 2, none⟩ = some (.int .i64 x.n))
theorem wakesAt_of {w : World} {B : Nat} {v : Value} {l : List Wk} (h : w.ownsRow B 65 3 v l.length (cellsK l)) : WakesAt w v l := by
  have hc := h
  rcases h.2 with ⟨rfl, h0⟩ | ⟨g, cap, cur, rfl, hb, hg, h3, h4, h5, h6⟩
  · exact ⟨none, 0, by rw [h0], by omega, Nat.zero_le _, fun h => by omega⟩
  · refine ⟨_, _, rfl, h3, h4, fun _ => ⟨g, rfl, (Array.getElem?_eq_some_iff.1 hg).1, fun i x hx => ?_⟩⟩
    obtain ⟨e1, e2, e3⟩ := cellsK_at l i x hx
    have f1 := World.ownsRow.cells hc (g := g) rfl _ _ e1
    have f2 := World.ownsRow.cells hc (g := g) rfl _ _ e2
    have f3 := World.ownsRow.cells hc (g := g) rfl _ _ e3
    rw [addr_addP, Nat.zero_add] at f1 f2 f3
    exact ⟨f1, f2, f3⟩
set_option maxRecDepth 100000 in
set_option maxHeartbeats 3200000 in
theorem sameWakes_any {w : World} {v1 v2 : Value} {l : List Wk} (h1 : WakesAt w v1 l) (h2 : WakesAt w v2 l) :
    Calls Tryd.prog 10 #[v1, v2] w fun e w' => e = .returned (.bool true) ∧ Below w.heap.size w w' := by
  obtain ⟨a1, k1, rfl, hc1, hm1, hx1⟩ := h1
  obtain ⟨a2, k2, rfl, hc2, hm2, hx2⟩ := h2
  have HX1 := Lib.hid hx1
  have HX2 := Lib.hid hx2
  obtain ⟨n, hn⟩ : ∃ n, n = l.length := ⟨_, rfl⟩
  have HN := Lib.hid hn
  rw [← hn] at hc1 hc2 HX1 HX2 ⊢
  unfold maxLen at hm1
  clear hx1 hx2 hn hm2
  go_enter Tryd.func10, Tryd.ntmps10
  go_wp2_with fail
  go_loopw [5] (fun iv wr => ∃ i : Nat, i ≤ n ∧ iv = .int .i64 i ∧ Below w.heap.size w wr) (fun iv _ => n - (intOf iv).toNat)
  case atStart => exact ⟨0, Nat.zero_le _, rfl, Below.refl _ _⟩
  case round =>
    obtain ⟨i, hi, rfl, hb⟩ := hrel
    rename World => wr
    have HB := Lib.hid hb
    clear hb
    by_cases hin : i < n
    · obtain ⟨⟨xt, xk, xn⟩, hx⟩ : ∃ x, l[i]? = some x := ⟨_, List.getElem?_eq_getElem (by rw [← HN.out]; exact hin)⟩
      obtain ⟨b1, rfl, hb1, g1⟩ := HX1.out (by omega)
      obtain ⟨b2, rfl, hb2, g2⟩ := HX2.out (by omega)
      obtain ⟨f1, f2, f3⟩ := g1 i _ hx
      obtain ⟨f4, f5, f6⟩ := g2 i _ hx
      simp only at f1 f2 f3 f4 f5 f6
      have q1 := (HB.out.cell (p := ⟨b1, i * 3, none⟩) hb1).trans f1
      have q2 := (HB.out.cell (p := ⟨b1, i * 3 + 1, none⟩) hb1).trans f2
      have q3 := (HB.out.cell (p := ⟨b1, i * 3 + 2, none⟩) hb1).trans f3
      have q4 := (HB.out.cell (p := ⟨b2, i * 3, none⟩) hb2).trans f4
      have q5 := (HB.out.cell (p := ⟨b2, i * 3 + 1, none⟩) hb2).trans f5
      have q6 := (HB.out.cell (p := ⟨b2, i * 3 + 2, none⟩) hb2).trans f6
      have hii : (0 : Int) ≤ (i : Int) ∧ (i : Int) < (n : Int) := by omega
      clear f1 f2 f3 f4 f5 f6 g1 g2 hx hb1 hb2
      go_wp2_with fail
      go_quiet (fail)
      have HBQ : Hid (Below w.heap.size w (wr.drewN nq)) := Lib.hid (HB.out.trans ((below_drewN wr nq).mono HB.out.size))
      go_wp2_with fail
      go_roundw
      case rel => exact ⟨i + 1, by omega, by go_num, HBQ.out⟩
      case measure => simp [intOf]; omega
    · obtain rfl : i = n := by omega
      have hnn : ¬ (i : Int) < (i : Int) := by omega
      go_wp2_with fail
      go_ret
      exact ⟨rfl, HB.out⟩
end Go.Proofs.YtppbmhpbbiigaaaDoor
