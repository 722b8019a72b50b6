/-
  The laws' small helpers: a send, a receive, a row of talks of one's own.
-/
import Derived.Test.YtpehmghnfbkaaaaDoorPipeL
import Derived.Test.YtpehmghnfbkaaaaDoorPick
namespace Go.Proofs.YtpehmghnfbkaaaaDoor
open Go.RowKit Go.Maps Pp

set_option maxRecDepth 100000 in
set_option maxHeartbeats 1600000 in
theorem rsend_any (w : World) (c n : Int) : Calls Tryd.prog 22 #[.int .i64 c, .int .i64 n] w fun e w' => e = .returned (.slice (some ⟨w.heap.size, 0, none⟩) 1 1) ∧ w' = w.alloc (.cells #[.int .i64 3, .int .i64 c, .int .i64 n] 85) := by
  go_enter Tryd.func22, Tryd.ntmps22
  go_wp2_with fail
  go_ret
  exact ⟨rfl, rfl⟩
set_option maxRecDepth 100000 in
set_option maxHeartbeats 1600000 in
theorem rrecv_any (w : World) (c : Int) : Calls Tryd.prog 23 #[.int .i64 c] w fun e w' => e = .returned (.slice (some ⟨w.heap.size, 0, none⟩) 1 1) ∧ w' = w.alloc (.cells #[.int .i64 10, .int .i64 c, .int .i64 0] 85) := by
  go_enter Tryd.func23, Tryd.ntmps23
  go_wp2_with fail
  go_ret
  exact ⟨rfl, rfl⟩
theorem cellsL_append (a b : List Tk) : cellsL (a ++ b) = cellsL a ++ cellsL b := by simp [cellsL]
/-- Talks of one's own. -/
def OwnT (w : World) (B : Nat) (v : Value) (l : List Tk) : Prop := w.ownsRow B 85 3 v l.length (cellsL l)
theorem OwnT.slice {w : World} {B : Nat} {v : Value} {l : List Tk} (h : OwnT w B v l) : ∃ ao cap, v = .slice ao l.length cap := by
  rcases h.2 with ⟨rfl, h0⟩ | ⟨g, cap, cur, rfl, _⟩
  · exact ⟨none, 0, by rw [h0]⟩
  · exact ⟨_, _, rfl⟩
/-- 'l = append(l, x)'. -/
theorem wpList_appendT {ops : Array Oper} {rest : List Oper} {o : Oper} {a : Act} {Q : Exit → Act → World → Prop} (hgd : o.guard = none) (s x : Operand)
    (ho : o.op = .call { callee := .builtin .append, args := #[s, x], argTypes := #[32, 32] }) (w : World) (B : Nat) (v : Value) (l : List Tk) (y : Tk) (hown : OwnT w B v l) (hs : a.eval s = v) {b : Nat} (hb : b = w.heap.size)
    (hx : a.eval x = .slice (some ⟨b, 0, none⟩) 1 1) (hl : l.length ≤ 1000000) (hB : B ≤ w.heap.size)
    (h : ∀ ao' cap' w', OwnT w' B (.slice ao' (l.length + 1) cap') (l ++ [y]) → Keeps (fun b => v.ownBlock = some b) w w' → (∀ k, (Value.slice ao' (l.length + 1) cap').ownBlock = some k → v.ownBlock = some k ∨ w.heap.size ≤ k) →
      wpList Tryd.prog ops Q rest (a.put o.dst (.slice ao' (l.length + 1) cap')) w') : wpList Tryd.prog ops Q (o :: rest) a (w.alloc (.cells #[.int .i64 y.what, .int .i64 y.chan, .int .i64 y.n] 85)) := by
  subst hb
  obtain ⟨i0, hi, hz0, hz1, hz2⟩ := tinfoP info_talk
  have hnew : ∀ j u, [Value.int .i64 y.what, Value.int .i64 y.chan, Value.int .i64 y.n][j]? = some u → (w.alloc (.cells #[.int .i64 y.what, .int .i64 y.chan, .int .i64 y.n] 85)).cell? ((⟨w.heap.size, 0, none⟩ : Addr).add j) = some u := fun j u hu => by
    rw [addr_addP, World.cell?_alloc_at _ _ _ _ rfl]
    rcases j with _ | _ | _ | j
    · exact hu
    · exact hu
    · exact hu
    · simp at hu
  refine wpList_append_own_at _ hgd s x 32 ho B 85 i0 (.agg #[.int .i64 0, .int .i64 0, .int .i64 0]) 3 24 Tryd.underlying32 hi hz0 hz1 hz2 rfl (by decide) v l.length (cellsL l) hs (World.ownsRow.alloc hown _) ⟨w.heap.size, 0, none⟩ 1 1 [.int .i64 y.what, .int .i64 y.chan, .int .i64 y.n] hx rfl
    hnew (fun u hu => by simp at hu; rcases hu with rfl | rfl | rfl <;> rfl) (by unfold maxLen; omega) (by omega) (by simp; omega) ?_
  intro v' w' h1 h2 _ h4
  have hO : OwnT w' B v' (l ++ [y]) := by
    unfold OwnT
    rw [cellsL_append, List.length_append]
    exact h1
  obtain ⟨ao', cap', e⟩ := hO.slice
  rw [List.length_append] at e
  have e' : v' = .slice ao' (l.length + 1) cap' := e
  subst e'
  refine h _ _ _ hO (keeps_append h2 fun k e => e) fun k hk => ?_
  rcases h4 with h4 | h4
  · exact Or.inl (h4 ▸ hk)
  · rw [h4] at hk
    cases hk
    exact Or.inr (by simp)
end Go.Proofs.YtpehmghnfbkaaaaDoor
