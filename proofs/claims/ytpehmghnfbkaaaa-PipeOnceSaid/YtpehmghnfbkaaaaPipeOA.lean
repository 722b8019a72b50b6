/-
  Who waits, as the law PipeOnce notes it: a map of the law's own; rows that are joined.
-/
import Derived.Test.YtpehmghnfbkaaaaPipeOM
import Derived.Test.YtpehmghnfbkaaaaPipeNF
import Derived.Test.YtpehmghnfbkaaaaPipeFfM
namespace Go.Proofs.Ytpehmghnfbkaaaa
open Go.RowKit Go.Maps Pp

/-- The map tells who waits. -/
structure WaitM (D : DataW Unit) (f : Int → Bool) : Prop where
  yes : ∀ x : Int, f x = true → ∀ z, D.atKey (.int .i64 x) z = .lit (.int .i64 1)
theorem WaitM.zero : WaitM (.map []) (fun _ => false) := ⟨fun _ h => by cases h⟩
theorem WaitM.put {D : DataW Unit} {f g : Int → Bool} (h : WaitM D f) (hD : Tidy D) {t : Int} (hg : ∀ x, g x = (decide (x = t) || f x)) : WaitM (D.put (.int .i64 t) (.lit (.int .i64 1))) g := by
  refine ⟨fun x hx z => ?_⟩
  by_cases e : x = t
  · subst e
    rw [Maps.atKey_put_same hD.isMap (show WideAt.IsKeyLit (Lit.int .i64 x) from trivial)]
  · rw [Maps.atKey_put_other (lit_neI e)]
    exact h.yes x (by rw [hg] at hx; simpa [e] using hx) z
theorem WaitM.del {D : DataW Unit} {f g : Int → Bool} (h : WaitM D f) {t : Int} (hg : ∀ x, g x = (!decide (x = t) && f x)) : WaitM (D.del (.int .i64 t)) g := by
  refine ⟨fun x hx z => ?_⟩
  rw [hg] at hx
  have e : x ≠ t := fun e => by simp [e] at hx
  rw [Maps.atKey_del_other (lit_neI e)]
  exact h.yes x (by simpa [e] using hx) z
theorem WaitM.same {D : DataW Unit} {f g : Int → Bool} (h : WaitM D f) (hg : ∀ x, g x = f x) : WaitM D g := ⟨fun x hx z => h.yes x (by rw [← hg]; exact hx) z⟩
theorem zero_intO (w : World) : (zeroValue 3).run Try.prog w = .ok (.int .i64 0) w := by
  have h := Try.zeroValue3
  simp [h]
set_option maxRecDepth 100000 in
/-- What such a map tells. -/
theorem WaitM.look {D : DataW Unit} {f : Int → Bool} (h : WaitM D f) {w : World} {mb k : Nat} (hD : w.ownsMap Try.prog 3 (plainElem Try.prog 3) mb k D) {x : Int} (hx : f x = true) (hwf : (Lit.int .i64 x).wf = true) :
    (Instr.lookup 34 (.map (some mb)) (.int .i64 x) false).run Try.prog w = .ok (.int .i64 1) w := by
  obtain ⟨c, hrun, hat, -⟩ := hD.lookup_int keyedP Try.underlying34 Try.underlying3 (zero_intO _) (keyOf_int_mk Try.underlying3 hwf)
  have hc : c = 1 := by
    rw [h.yes x hx] at hat
    injection hat with h1
    injection h1 with _ h1
    exact h1.symm
  rw [hc] at hrun
  exact hrun
/-- All that was looked at, each row of its own. -/
def ReadO (w : World) (v : Value) (chs : List Ch) : Prop :=
  ∃ ao cap, v = .slice ao chs.length cap ∧ (0 < chs.length → ∃ g, ao = some ⟨g, 0, none⟩ ∧ g < w.heap.size ∧ ∀ (i : Nat) c, chs[i]? = some c → ∃ v1 v2, w.cell? ⟨g, i * 5 + 3, none⟩ = some v1 ∧ w.cell? ⟨g, i * 5 + 4, none⟩ = some v2 ∧ RowW w v1 c.sends ∧ RowW w v2 c.recvs)
theorem readO_of {w : World} {B : Nat} {ao : Option Addr} {cap : Nat} {L : List Sn} {chs : List Ch} (hm : L.map Sn.c = chs) (h : Looked w B (.slice ao chs.length cap) L) : ReadO w (.slice ao chs.length cap) chs := by
  have hr := h.row
  rcases h.row.2 with ⟨e, h0⟩ | ⟨g, cap', cur, hv, hb, hg, h3, h4, h5, h6⟩
  · have hl : L.length = chs.length := by rw [← hm, List.length_map]
    exact ⟨ao, cap, rfl, fun h => by omega⟩
  · rw [Value.slice.injEq] at hv
    obtain ⟨rfl, _, rfl⟩ := hv
    refine ⟨_, _, rfl, fun _ => ⟨g, rfl, (Array.getElem?_eq_some_iff.1 hg).1, fun i c hc => ?_⟩⟩
    rw [← hm, List.getElem?_map] at hc
    obtain ⟨x, hx, rfl⟩ := Option.map_eq_some_iff.1 hc
    obtain ⟨-, -, e3, e4⟩ := cellsP_get L i x hx
    have hs := h.seen x (List.mem_of_getElem? hx)
    have f3 := World.ownsRow.cells hr (g := g) rfl _ _ e3
    have f4 := World.ownsRow.cells hr (g := g) rfl _ _ e4
    rw [addr_addP, Nat.zero_add] at f3 f4
    exact ⟨_, _, f3, f4, own_lower hs.sends (Nat.zero_le _), own_lower hs.recvs (Nat.zero_le _)⟩
/-- 'append(own, other...)' of those that wait. -/
theorem wpList_appendWs {ops : Array Oper} {rest : List Oper} {o : Oper} {a : Act} {Q : Exit → Act → World → Prop} (hgd : o.guard = none) (s x : Operand)
    (ho : o.op = .call { callee := .builtin .append, args := #[s, x], argTypes := #[50, 50] }) (w : World) (B : Nat) (v u : Value) (xs ys : List (Int × Nat)) (hown : w.ownsRow B 58 2 v xs.length (cellsW xs)) (hs : a.eval s = v) (hu : RowW w u ys)
    (hx : a.eval x = u) (hl : xs.length + ys.length ≤ 100000000) (hB : B ≤ w.heap.size)
    (h : ∀ v' w', w'.ownsRow B 58 2 v' (xs ++ ys).length (cellsW (xs ++ ys)) → Keeps (fun b => v.ownBlock = some b) w w' → wpList Try.prog ops Q rest (a.put o.dst v') w') : wpList Try.prog ops Q (o :: rest) a w := by
  obtain ⟨i0, hi, hz0, hz1, hz2⟩ := tinfoP info_wait
  have hc := hu
  rcases hu.2 with ⟨rfl, h0⟩ | ⟨g, cap, cur, rfl, _, _, h3, h4, _⟩
  · have hy : ys = [] := List.eq_nil_of_length_eq_zero (by simpa using h0)
    subst hy
    refine wpList_plain hgd fun K hK => ?_
    have hr := run_append_owned_none (P := Try.prog) (w := w) B 50 o.type 58 i0 2 Try.underlying50 hi v xs.length (cellsW xs) hown
    unfold Oper.wp execOp
    simp only [ho, resolve, invoke, builtin, Sem.run_bind, Sem.run_pure, Result.andThen_ok, List.map_toArray, List.map_cons, List.map_nil, hs, hx, hr]
    exact hK _ _ (h v w (by rw [List.append_nil]; exact hown) (Keeps.refl _ _))
  · refine wpList_append_own_at _ hgd s x 50 ho B 58 i0 (.agg #[.int .i64 0, .int .i64 0]) 2 16 Try.underlying50 hi hz0 hz1 hz2 rfl (by decide) v xs.length (cellsW xs) hs hown ⟨g, 0, none⟩ ys.length cap (cellsW ys) hx (cellsW_len ys)
      (World.ownsRow.cells hc (g := g) rfl) (cellsW_one ys) (by unfold maxLen; omega) (by omega) hB ?_
    intro v' w' h1 h2 _ h5
    refine h v' w' ?_ (Keeps.of_grownBy h2 fun k _ e => e)
    rw [cellsW_append, List.length_append]; exact h1
/-- The same, as one step of a region that draws. -/
theorem step_appendWs {ops : Array Oper} {o : Oper} {a : Act} {w : World} {K : Act → World → Prop} {Q : Exit → Act → World → Prop} {F : Prop} (hgd : o.guard = none) (s x : Operand)
    (ho : o.op = .call { callee := .builtin .append, args := #[s, x], argTypes := #[50, 50] }) (B : Nat) (v u : Value) (xs ys : List (Int × Nat)) (hown : w.ownsRow B 58 2 v xs.length (cellsW xs)) (hu : RowW w u ys)
    (hl : xs.length + ys.length ≤ 100000000) (hB : B ≤ w.heap.size) (hs : a.eval s = v) (hx : a.eval x = u)
    (h : ∀ ao cap w', w'.ownsRow B 58 2 (.slice ao (xs ++ ys).length cap) (xs ++ ys).length (cellsW (xs ++ ys)) → Keeps (fun b => v.ownBlock = some b) w w' → K (a.put o.dst (.slice ao (xs ++ ys).length cap)) w') :
    if Region.wanted o (yielded ops a.tmps) = true then Oper.wp Try.prog o a w K Q else F := by
  have hw : Region.wanted o (yielded ops a.tmps) = true := by simp [Region.wanted, hgd]
  rw [if_pos hw]
  obtain ⟨i0, hi, hz0, hz1, hz2⟩ := tinfoP info_wait
  have hc := hu
  rcases hu.2 with ⟨rfl, h0⟩ | ⟨g, cap, cur, rfl, _, _, h3, h4, _⟩
  · have hy : ys = [] := List.eq_nil_of_length_eq_zero (by simpa using h0)
    subst hy
    have hr := run_append_owned_none (P := Try.prog) (w := w) B 50 o.type 58 i0 2 Try.underlying50 hi v xs.length (cellsW xs) hown
    obtain ⟨ao, cap, e⟩ := own_slice hown
    unfold Oper.wp
    simp [execOp, ho, resolve, invoke, builtin, hs, hx, hr, Result.andThen]
    subst e
    have := h ao cap w (by rw [List.append_nil]; exact hown) (Keeps.refl _ _)
    rw [List.append_nil] at this
    exact this
  · obtain ⟨v', w', hr, h1, h2, _, _⟩ := run_append_own_at (P := Try.prog) w B 50 o.type 58 i0 (.agg #[.int .i64 0, .int .i64 0]) 2 16 Try.underlying50 hi hz0 hz1 hz2 rfl (by decide) v xs.length (cellsW xs) hown ⟨g, 0, none⟩ ys.length cap (cellsW ys) (cellsW_len ys)
      (World.ownsRow.cells hc (g := g) rfl) (cellsW_one ys) (by unfold maxLen; omega) (by omega) hB
    have h1' : w'.ownsRow B 58 2 v' (xs ++ ys).length (cellsW (xs ++ ys)) := by
      rw [cellsW_append, List.length_append]
      exact h1
    obtain ⟨ao', cap', rfl⟩ := own_slice h1'
    unfold Oper.wp
    simp [execOp, ho, resolve, invoke, builtin, hs, hx, hr, Result.andThen]
    have := h ao' cap' w' h1' (Keeps.of_grownBy h2 fun k _ e => e)
    rw [List.length_append] at this
    exact this
/-- Who waits, behind a deal: it was t who waits now; or none, or one goes on, who waited. -/
def OnceR (f g : Int → Bool) (t : Int) (wk : List Wk) (b : Bool) : Prop :=
  (b = true ∧ wk = [] ∧ ∀ x, g x = (decide (x = t) || f x)) ∨ (b = false ∧ wk = [] ∧ ∀ x, g x = f x) ∨ (b = false ∧ ∃ y : Wk, wk = [y] ∧ f y.task = true ∧ ∀ x, g x = (!decide (x = y.task) && f x))
theorem talk_onceR {s : St} (ok : Ok s) (task : Int) (l : List Tk) (draw : Int) (h : (Pp.talk s task l draw).err = 0) :
    OnceR (fun x => (s.asks x).isSome) (fun x => ((Pp.talk s task l draw).st.asks x).isSome) task (Pp.talk s task l draw).wakes (Pp.talk s task l draw).waits := by
  rcases talk_once ok task l draw h with ⟨h1, h2, h3⟩ | ⟨h1, h2 | ⟨y, h2, h3, h4⟩⟩
  · exact Or.inl ⟨h1, h2, h3⟩
  · exact Or.inr (Or.inl ⟨h1, h2.1, h2.2⟩)
  · exact Or.inr (Or.inr ⟨h1, y, h2, h3, h4⟩)
/-- The law's map, in memory. -/
structure OnM (w wr : World) (mb K : Nat) (g : Int → Bool) : Prop where
  map : ∃ (D : DataW Unit) (k : Nat), k ≤ K ∧ wr.ownsMap Try.prog 3 (plainElem Try.prog 3) mb k D ∧ WaitM D g
  keep : Keeps (fun b => b = mb) w wr
theorem OnM.new {w wr w' : World} {mb K : Nat} {g : Int → Bool} (h : OnM w wr mb K g) (hk : Keeps (fun _ => False) wr w') : OnM w w' mb K g := by
  obtain ⟨⟨D, k, h1, h2, h3⟩, h4⟩ := h
  exact ⟨⟨D, k, h1, hk.map h2 id, h3⟩, h4.trans (hk.mono fun _ _ e => e.elim)⟩
theorem OnM.look {w wr : World} {mb K : Nat} {g : Int → Bool} (h : OnM w wr mb K g) {x : Int} (hx : g x = true) (hwf : (Lit.int .i64 x).wf = true) :
    (Instr.lookup 34 (.map (some mb)) (.int .i64 x) false).run Try.prog wr = .ok (.int .i64 1) wr := by
  obtain ⟨⟨D, k, h1, h2, h3⟩, h4⟩ := h
  exact h3.look h2 hx hwf
theorem OnM.put {w wr w' : World} {mb K k : Nat} {D : DataW Unit} {f g : Int → Bool} (hk : Keeps (fun b => b = mb) w wr) (hD : wr.ownsMap Try.prog 3 (plainElem Try.prog 3) mb k D) (hW : WaitM D f) {t : Int} (hgr : wr.grownBy w' (some mb))
    (ho : w'.ownsMap Try.prog 3 (plainElem Try.prog 3) mb (k + 1) (D.put (.int .i64 t) (.lit (.int .i64 1)))) (hg : ∀ x, g x = (decide (x = t) || f x)) (hK : k + 1 ≤ K) : OnM w w' mb K g :=
  ⟨⟨_, _, hK, ho, hW.put (hD.tidy keyedP) hg⟩, hk.trans (Keeps.of_grownBy hgr fun g _ e => by cases e; rfl)⟩
theorem OnM.del {w wr w' : World} {mb K k : Nat} {D : DataW Unit} {f g : Int → Bool} (hk : Keeps (fun b => b = mb) w wr) (hW : WaitM D f) {t : Int} (hgr : wr.grownBy w' (some mb))
    (ho : w'.ownsMap Try.prog 3 (plainElem Try.prog 3) mb k (D.del (.int .i64 t))) (hg : ∀ x, g x = (!decide (x = t) && f x)) (hK : k ≤ K) : OnM w w' mb K g :=
  ⟨⟨_, _, hK, ho, hW.del hg⟩, hk.trans (Keeps.of_grownBy hgr fun g _ e => by cases e; rfl)⟩
end Go.Proofs.Ytpehmghnfbkaaaa
