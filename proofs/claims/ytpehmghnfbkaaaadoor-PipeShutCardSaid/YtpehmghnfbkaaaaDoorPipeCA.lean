/-
  A channel is shut: what turns in memory; one more that goes on.
-/
import Derived.Test.YtpehmghnfbkaaaaDoorPipeWF
import Derived.Test.YtpehmghnfbkaaaaDoorPipeSM
namespace Go.Proofs.YtpehmghnfbkaaaaDoor
open Go.RowKit Go.Maps Pp

theorem ChC.shutS {w : World} {ρ : Nat → Role} {k cb rb sb : Nat} {v1 v2 : Value} {c : Ch} (h : ChC w ρ k cb rb sb v1 v2 c) : ChC (w.setCell ⟨cb, 1, none⟩ (.bool true)) ρ k cb rb sb v1 v2 { c with shut := true } := by
  have hs := keeps_set1 w ⟨cb, 1, none⟩ (.bool true)
  have hm : ∀ g q, ρ g = q → q ≠ .chan k → ¬ g = cb := fun g q hq h3 e => h3 (by rw [← hq, e]; exact h.p0)
  refine ⟨?_, World.cell?_setCell_same _ _ _ h.c1, ?_, ?_, fun j => by rw [World.frozen?_setCell]; exact h.z j, ?_, Nat.lt_of_lt_of_le h.lt hs.size, h.r1.keeps hs fun b hb => hm b _ (h.p3 b hb) (by simp), h.r2.keeps hs fun b hb => hm b _ (h.p4 b hb) (by simp), h.p0, h.p1, h.p2, h.p3, h.p4⟩
  · rw [cell_set_other (off_ne (by decide) cb)]; exact h.c0
  · rw [cell_set_other (off_ne (by decide) cb)]; exact h.c2
  · rw [cell_set_other (off_ne (by decide) cb)]; exact h.c3
  · exact h.ring.keeps hs (hm _ _ h.p1 (by simp)) (hm _ _ h.p2 (by simp))
/-- Whose row it was, nobody's it is. -/
def freeOf (ρ : Nat → Role) (v : Value) : Nat → Role := fun b => if v.ownBlock = some b then .free else ρ b
theorem freeOf_other {ρ : Nat → Role} {v : Value} {k : Nat} (hv : ∀ b, v.ownBlock = some b → ρ b = .recvs k) {b : Nat} (hb : ρ b ≠ .recvs k) : freeOf ρ v b = ρ b := by
  unfold freeOf
  rw [if_neg fun e => hb (hv b e)]
theorem freeOf_own {ρ : Nat → Role} {v : Value} {b : Nat} (h : v.ownBlock = some b) : freeOf ρ v b = .free := if_pos h
theorem freeOf_or (ρ : Nat → Role) (v : Value) (b : Nat) : freeOf ρ v b = ρ b ∨ freeOf ρ v b = .free := by
  unfold freeOf
  split
  · exact Or.inr rfl
  · exact Or.inl rfl
theorem freeOf_sub {ρ : Nat → Role} {v : Value} {b : Nat} (h : freeOf ρ v b ≠ .free) : ρ b ≠ .free := by
  rcases freeOf_or ρ v b with e | e
  · rw [← e]; exact h
  · exact absurd e h
theorem PipesAt.freed {w : World} {ρ : Nat → Role} {pb : Nat} {vch : Value} {ptr : List Nat} {mb : Option Nat} {D : DataW Value} {N M : Nat} {s : St} (h : PipesAt w ρ pb vch ptr mb D N M s) {k : Nat} {v : Value} (hv : ∀ b, v.ownBlock = some b → ρ b = .recvs k)
    (hk : ∀ cb c, ptr[k]? = some cb → s.chs[k]? = some c → ∃ rb sb v1, ChC w ρ k cb rb sb v1 (.slice none 0 0) c) : PipesAt w (freeOf ρ v) pb vch ptr mb D N M s := by
  have key : ∀ {b r}, ρ b = r → r ≠ .recvs k → freeOf ρ v b = r := fun {b r} hr hne => by rw [freeOf_other hv (by rw [hr]; exact hne), hr]
  refine ⟨h.c0, h.c1, h.z, h.row, h.len, h.many, fun j cb c hcb hc => ?_, h.rows, h.map0, fun b hb => ⟨(h.map1 b hb).1, key (h.map1 b hb).2 (by simp)⟩, h.has, fun t l hl => ?_, key h.p0 (by simp), fun b hb => key (h.p1 b hb) (by simp), fun b hb => h.dom b (freeOf_sub hb)⟩
  · by_cases e : j = k
    · subst e
      obtain ⟨rb, sb, v1, hx⟩ := hk cb c hcb hc
      exact ⟨rb, sb, v1, _, hx.c0, hx.c1, hx.c2, hx.c3, hx.z, hx.ring, hx.lt, hx.r1, hx.r2, key hx.p0 (by simp), key hx.p1 (by simp), key hx.p2 (by simp), fun b hb => key (hx.p3 b hb) (by simp), fun b hb => by cases hb⟩
    · obtain ⟨rb, sb, v1, v2, hx⟩ := h.chs j cb c hcb hc
      exact ⟨rb, sb, v1, v2, hx.c0, hx.c1, hx.c2, hx.c3, hx.z, hx.ring, hx.lt, hx.r1, hx.r2, key hx.p0 (by simp), key hx.p1 (by simp), key hx.p2 (by simp), fun b hb => key (hx.p3 b hb) (by simp), fun b hb => key (hx.p4 b hb) (by simp [e])⟩
  · obtain ⟨h1, u, h2, h3, h4⟩ := h.talk t l hl
    exact ⟨h1, u, h2, h3, fun b hb => key (h4 b hb) (by simp)⟩
/-- The world behind both stores. -/
def shutW (w : World) (cb : Nat) : World := (w.setCell ⟨cb, 1, none⟩ (.bool true)).setCell ⟨cb, 3, none⟩ (.slice none 0 0)
theorem PipesAt.shuts {w : World} {ρ : Nat → Role} {pb : Nat} {vch : Value} {ptr : List Nat} {mb : Option Nat} {D : DataW Value} {N M : Nat} {s : St} (h : PipesAt w ρ pb vch ptr mb D N M s) {k cb rb sb : Nat} {v1 v2 : Value} {c : Ch} (hcb : ptr[k]? = some cb) (hc : s.chs[k]? = some c) (hx : ChC w ρ k cb rb sb v1 v2 c) :
    PipesAt (shutW w cb) (freeOf ρ v2) pb vch ptr mb D N M ⟨s.chs.modify k fun c => { c with shut := true, recvs := [] }, s.asks⟩ ∧ Keeps (fun b => b = cb) w (shutW w cb) := by
  have hk : Keeps (fun b => b = cb) w (shutW w cb) := ((Keeps.refl (fun b => b = cb) w).setCell (p := ⟨cb, 1, none⟩) (Or.inl rfl) _).setCell (p := ⟨cb, 3, none⟩) (Or.inl rfl) _
  have hx2 : ChC (shutW w cb) ρ k cb rb sb v1 (.slice none 0 0) { c with shut := true, recvs := [] } := hx.shutS.recvs (Keeps.refl _ _) (rowW_nil _) fun b hb => by cases hb
  refine ⟨?_, hk⟩
  have hp : PipesAt (shutW w cb) ρ pb vch ptr mb D N M ⟨s.chs.set k { c with shut := true, recvs := [] }, s.asks⟩ := by
    refine h.put hk (fun _ _ => rfl) (fun g hg => Nat.lt_of_lt_of_le (h.dom g hg) hk.size) k (fun b e => Or.inr (by rw [e, hx.p0]; rfl)) (fun cb' hcb' => ?_) ⟨(h.rows k c hc).1, Nat.zero_le _⟩ (Nat.le_refl _)
    rw [hcb] at hcb'
    cases hcb'
    exact ⟨_, _, _, _, hx2⟩
  rw [modify_set _ hc]
  refine hp.freed hx.p4 fun cb' c' hcb' hc' => ?_
  rw [hcb] at hcb'
  cases hcb'
  rw [List.getElem?_set_self (List.getElem?_eq_some_iff.1 hc).1] at hc'
  cases hc'
  exact ⟨_, _, _, hx2⟩
theorem cellsK_append (a b : List Wk) : cellsK (a ++ b) = cellsK a ++ cellsK b := by simp [cellsK]
theorem info_wake : (Tryd.prog.info? 65).map (fun i => (i.zero, i.size, i.bytes)) = some (some (.agg #[.int .i64 0, .int .i64 0, .int .i64 0]), 3, 24) := by kernel_rfl
/-- 'wakes = append(wakes, w)'. -/
theorem wpList_appendK {ops : Array Oper} {rest : List Oper} {o : Oper} {a : Act} {Q : Exit → Act → World → Prop} (hgd : o.guard = none) (s x : Operand)
    (ho : o.op = .call { callee := .builtin .append, args := #[s, x], argTypes := #[45, 45] }) (w : World) (B : Nat) (v : Value) (l : List Wk) (y : Wk) (hown : w.ownsRow B 65 3 v l.length (cellsK l)) (hs : a.eval s = v) {b : Nat} (hb : b = w.heap.size)
    (hx : a.eval x = .slice (some ⟨b, 0, none⟩) 1 1) (hl : l.length ≤ 100000000) (hB : B ≤ w.heap.size)
    (h : ∀ ao' cap' w', w'.ownsRow B 65 3 (.slice ao' (l ++ [y]).length cap') (l ++ [y]).length (cellsK (l ++ [y])) → Keeps (fun b => v.ownBlock = some b) w w' →
      wpList Tryd.prog ops Q rest (a.put o.dst (.slice ao' (l ++ [y]).length cap')) w') : wpList Tryd.prog ops Q (o :: rest) a (w.alloc (.cells #[.int .i64 y.task, .int .i64 (y.case : Int), .int .i64 y.n] 65)) := by
  subst hb
  obtain ⟨i0, hi, hz0, hz1, hz2⟩ := tinfoP info_wake
  have hnew : ∀ j u, [Value.int .i64 y.task, Value.int .i64 (y.case : Int), Value.int .i64 y.n][j]? = some u → (w.alloc (.cells #[.int .i64 y.task, .int .i64 (y.case : Int), .int .i64 y.n] 65)).cell? ((⟨w.heap.size, 0, none⟩ : Addr).add j) = some u := fun j u hu => by
    rw [addr_addP, World.cell?_alloc_at _ _ _ _ rfl]
    rcases j with _ | _ | _ | j
    · exact hu
    · exact hu
    · exact hu
    · simp at hu
  refine wpList_append_own_at _ hgd s x 45 ho B 65 i0 (.agg #[.int .i64 0, .int .i64 0, .int .i64 0]) 3 24 Tryd.underlying45 hi hz0 hz1 hz2 rfl (by decide) v l.length (cellsK l) hs (World.ownsRow.alloc hown _) ⟨w.heap.size, 0, none⟩ 1 1 [.int .i64 y.task, .int .i64 (y.case : Int), .int .i64 y.n] hx rfl
    hnew (fun u hu => by simp at hu; rcases hu with rfl | rfl | rfl <;> rfl) (by unfold maxLen; omega) (by omega) (by simp; omega) ?_
  intro v' w' h1 h2 _ h4
  have hO : w'.ownsRow B 65 3 v' (l ++ [y]).length (cellsK (l ++ [y])) := by
    rw [cellsK_append, List.length_append]
    exact h1
  obtain ⟨ao', cap', rfl⟩ := own_sliceK hO
  exact h _ _ _ hO (keeps_append h2 fun k e => e)
section
variable {w w' : World} {ρ : Nat → Role} {pb : Nat} {vch : Value} {ptr : List Nat} {mb : Option Nat} {D : DataW Value} {N M : Nat} {s : St}
set_option maxRecDepth 100000 in
/-- Whether a task waits, whatever is drawn. -/
theorem PipesAt.waitsN (h : PipesAt w ρ pb vch ptr mb D N M s) {t : Int} (hwf : (Lit.int .i64 t).wf = true) : ∃ u, ∀ z, (Instr.lookup 29 (.map mb) (.int .i64 t) true).run Tryd.prog (w.drewN z) = .ok (.tuple #[u, .bool (s.asks t).isSome]) (w.drewN z) := by
  have hz : ∀ w : World, (zeroValue 32).run Tryd.prog w = .ok (.slice none 0 0) w := fun w => by simp [Tryd.zeroValue32]
  cases mb with
  | none =>
    have h1 := h.has t
    rw [h.map0 rfl] at h1
    rw [← h1]
    exact ⟨_, fun z => Maps.look_nil (P := Tryd.prog) (t := 29) (w := w.drewN z) true keyedP Tryd.underlying29 (hz _) (keyOf_int_mk Tryd.underlying3 hwf)⟩
  | some b =>
    have ho := (h.map1 b rfl).1
    have hd : ∀ z, (w.drewN z).ownsMap Tryd.prog 3 heldE b N D := fun z => (keeps_drewN (Keeps.refl (fun _ => False) w) z).map ho id
    obtain ⟨v, ps, h1, h2⟩ := (hd 0).look_ok keyedP Tryd.underlying29 (hz _) (zd := .held (.slice none 0 0)) (zp := []) rfl (keyOf_int_mk Tryd.underlying3 hwf)
    refine ⟨v, fun z => ?_⟩
    obtain ⟨v', ps', h3, h4⟩ := (hd z).look_ok keyedP Tryd.underlying29 (hz _) (zd := .held (.slice none 0 0)) (zp := []) rfl (keyOf_int_mk Tryd.underlying3 hwf)
    have e : v' = v := by
      have r : DataW.held v' = DataW.held v := (congrArg Prod.fst (Option.some.inj h4)).trans (congrArg Prod.fst (Option.some.inj h2)).symm
      injection r
    rw [e, h.has] at h3
    exact h3
end
end Go.Proofs.YtpehmghnfbkaaaaDoor
