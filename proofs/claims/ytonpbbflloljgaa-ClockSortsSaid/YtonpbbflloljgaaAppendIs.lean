/-
  append(own, other...) of numbers, where the other slice is of the call's own too (nil, too). Of no chapter.
-/
import Derived.Test.YtonpbbflloljgaaOwnI
namespace Go.Proofs.Ytonpbbflloljgaa
open Go.RowKit

theorem wpList_appendIs {ops : Array Oper} {rest : List Oper} {o : Oper} {a : Act} {Q : Exit → Act → World → Prop} (hgd : o.guard = none) (s x : Operand)
    (ho : o.op = .call { callee := .builtin .append, args := #[s, x], argTypes := #[22, 22] }) (w : World) (B B' : Nat) (v u : Value) (xs ys : List Int) (hown : OwnI w B v xs) (hs : a.eval s = v) (hu : OwnI w B' u ys)
    (hx : a.eval x = u) (hl : xs.length + ys.length ≤ 1000000) (hB : B ≤ w.heap.size)
    (h : ∀ v' w', OwnI w' B v' (xs ++ ys) → Keeps (fun b => v.ownBlock = some b) w w' → (∀ k, v'.ownBlock = some k → v.ownBlock = some k ∨ w.heap.size ≤ k) →
      wpList Try.prog ops Q rest (a.put o.dst v') w') : wpList Try.prog ops Q (o :: rest) a w := by
  obtain ⟨i0, hi, hz0, hz1, hz2⟩ := info_parts info_int
  have hc := hu
  rcases hu.2 with ⟨rfl, h0⟩ | ⟨g, cap, cur, rfl, _, _, h3, h4, _⟩
  · have hy : ys = [] := List.eq_nil_of_length_eq_zero (by simpa using h0)
    subst hy
    refine wpList_plain hgd fun K hK => ?_
    have hr := run_append_owned_none (P := Try.prog) (w := w) B 22 o.type 3 i0 1 Try.underlying22 hi v xs.length (xs.map (Value.int .i64)) hown
    unfold Oper.wp execOp
    simp only [ho, resolve, invoke, builtin, Sem.run_bind, Sem.run_pure, Result.andThen_ok, List.map_toArray, List.map_cons, List.map_nil, hs, hx, hr]
    exact hK _ _ (h v w (by rw [List.append_nil]; exact hown) (Keeps.refl _ _) fun k e => Or.inl e)
  · refine wpList_append_own_at _ hgd s x 22 ho B 3 i0 (.int .i64 0) 1 8 Try.underlying22 hi hz0 hz1 hz2 rfl (by decide) v xs.length (xs.map (Value.int .i64)) hs hown ⟨g, 0, none⟩ ys.length cap (ys.map (Value.int .i64)) hx (by simp)
      (World.ownsRow.cells hc (g := g) rfl) (fun u hu => by obtain ⟨y, _, rfl⟩ := List.mem_map.1 hu; rfl) (by unfold maxLen; omega) (by omega) hB ?_
    intro v' w' h1 h2 _ h5
    refine h v' w' ?_ (Keeps.of_grownBy h2 fun k _ e => e) fun k hk => ?_
    · unfold OwnI; rw [List.map_append, List.length_append]; exact h1
    · rcases h5 with e | e
      · exact Or.inl (by rw [← e]; exact hk)
      · rw [e] at hk; cases hk; exact Or.inr (Nat.le_refl _)
end Go.Proofs.Ytonpbbflloljgaa
