/-
  What turns when a task waits: the map is made, a row grows.
-/
import Derived.Test.YtpehmghnfbkaaaaDoorPipeWB
import Derived.Test.YtpehmghnfbkaaaaDoorPipeWC
import Derived.Maps.AppendAt
namespace Go.Proofs.YtpehmghnfbkaaaaDoor
open Go.RowKit Go.Maps Pp

/-- 'row = append(row, y)'. -/
theorem wpList_appendW {ops : Array Oper} {rest : List Oper} {o : Oper} {a : Act} {Q : Exit → Act → World → Prop} (hgd : o.guard = none) (s x : Operand)
    (ho : o.op = .call { callee := .builtin .append, args := #[s, x], argTypes := #[77, 77] }) (w : World) (v : Value) (r : List (Int × Nat)) (y1 : Int) (y2 : Nat) (hown : RowW w v r) (hs : a.eval s = v)
    (hx : a.eval x = .slice (some ⟨w.heap.size, 0, none⟩) 1 1) (hl : r.length ≤ 100000000)
    (h : ∀ ao' cap' w', RowW w' (.slice ao' (r.length + 1) cap') (r ++ [(y1, y2)]) → Keeps (fun b => v.ownBlock = some b) w w' → (∀ k, (Value.slice ao' (r.length + 1) cap').ownBlock = some k → v.ownBlock = some k ∨ w.heap.size ≤ k) →
      wpList Tryd.prog ops Q rest (a.put o.dst (.slice ao' (r.length + 1) cap')) w') : wpList Tryd.prog ops Q (o :: rest) a (w.alloc (.cells #[.int .i64 y1, .int .i64 (y2 : Int)] 90)) := by
  obtain ⟨i0, hi, hz0, hz1, hz2⟩ := tinfoP info_wait
  have hnew : ∀ j u, [Value.int .i64 y1, Value.int .i64 (y2 : Int)][j]? = some u → (w.alloc (.cells #[.int .i64 y1, .int .i64 (y2 : Int)] 90)).cell? ((⟨w.heap.size, 0, none⟩ : Addr).add j) = some u := fun j u hu => by
    rw [addr_addP, World.cell?_alloc_at _ _ _ _ rfl]
    rcases j with _ | _ | j
    · exact hu
    · exact hu
    · simp at hu
  refine wpList_append_own_at _ hgd s x 77 ho 0 90 i0 (.agg #[.int .i64 0, .int .i64 0]) 2 16 Tryd.underlying77 hi hz0 hz1 hz2 rfl (by decide) v r.length (cellsW r) hs (World.ownsRow.alloc hown _) ⟨w.heap.size, 0, none⟩ 1 1 [.int .i64 y1, .int .i64 (y2 : Int)] hx rfl
    hnew (fun u hu => by simp at hu; rcases hu with rfl | rfl <;> rfl) (by unfold maxLen; omega) (by omega) (Nat.zero_le _) ?_
  intro v' w' h1 h2 _ h4
  have hO : RowW w' v' (r ++ [(y1, y2)]) := by
    unfold RowW
    rw [cellsW_append, List.length_append]
    exact h1
  obtain ⟨ao', cap', e, _, _⟩ := hO.slice
  rw [List.length_append] at e
  have e' : v' = .slice ao' (r.length + 1) cap' := e
  subst e'
  refine h _ _ _ hO (keeps_append h2 fun k e => e) fun k hk => ?_
  rcases h4 with h4 | h4
  · exact Or.inl (h4 ▸ hk)
  · rw [h4] at hk
    cases hk
    exact Or.inr (by simp)

section
variable {w w' : World} {ρ : Nat → Role} {pb : Nat} {vch : Value} {ptr : List Nat} {mb : Option Nat} {D : DataW Value} {N M : Nat} {s : St}
theorem PipesAt.mono (h : PipesAt w ρ pb vch ptr mb D N M s) {N' M' : Nat} (hN : N ≤ N') (hM : M ≤ M') : PipesAt w ρ pb vch ptr mb D N' M' s :=
  ⟨h.c0, h.c1, h.z, h.row, h.len, h.many, h.chs, fun k c hc => by have := h.rows k c hc; omega, h.map0, fun b hb => ⟨(h.map1 b hb).1.mono hN, (h.map1 b hb).2⟩, h.has, h.talk, h.p0, h.p1, h.dom⟩
/-- New blocks, of a role. -/
def roleFrom (ρ : Nat → Role) (lo hi : Nat) (r : Role) (b : Nat) : Role := if lo ≤ b ∧ b < hi then r else ρ b
theorem roleFrom_old {ρ : Nat → Role} {lo hi : Nat} {r : Role} {b : Nat} (h : b < lo) : roleFrom ρ lo hi r b = ρ b := by unfold roleFrom; rw [if_neg (by omega)]
theorem roleFrom_new {ρ : Nat → Role} {lo hi : Nat} {r : Role} {b : Nat} (h : lo ≤ b) (h2 : b < hi) : roleFrom ρ lo hi r b = r := by unfold roleFrom; rw [if_pos ⟨h, h2⟩]
theorem roleFrom_dom {ρ : Nat → Role} {lo hi : Nat} {r : Role} (hd : ∀ b, ρ b ≠ .free → b < lo) (hl : lo ≤ hi) : ∀ b, roleFrom ρ lo hi r b ≠ .free → b < hi := fun b h => by
  unfold roleFrom at h
  split at h
  · omega
  · have := hd b h; omega
/-- The map is made. -/
theorem PipesAt.made (h : PipesAt w ρ pb vch ptr none D N M s) : PipesAt ((w.alloc (.map #[] 0)).setCell ⟨pb, 1, none⟩ (.map (some w.heap.size))) (roleFrom ρ w.heap.size (w.heap.size + 1) .asks) pb vch ptr (some w.heap.size) (.map []) 0 M s ∧
    Keeps (fun b => b = pb) w ((w.alloc (.map #[] 0)).setCell ⟨pb, 1, none⟩ (.map (some w.heap.size))) := by
  have hk0 : Keeps (fun _ => False) w (w.alloc (.map #[] 0)) := (Keeps.refl _ w).alloc _
  have h1 := h.same (ρ' := roleFrom ρ w.heap.size (w.heap.size + 1) .asks) hk0 (fun b hb => roleFrom_old hb) (fun b hb => by simpa using roleFrom_dom h.dom (Nat.le_succ _) b hb) fun _ e => e.elim
  have hk1 := keeps_set1 (w.alloc (.map #[] 0)) ⟨pb, 1, none⟩ (.map (some w.heap.size))
  have hk1' : Keeps (fun b => b = pb) (w.alloc (.map #[] 0)) ((w.alloc (.map #[] 0)).setCell ⟨pb, 1, none⟩ (.map (some w.heap.size))) := hk1
  have hn : ∀ g r, roleFrom ρ w.heap.size (w.heap.size + 1) .asks g = r → r ≠ .pipes → ¬ g = pb := fun g r hr h3 e => h3 (by rw [← hr, e]; exact h1.p0)
  have hempty : ∀ t : Int, s.asks t = none := fun t => by
    have h2 := h.has t
    rw [h.map0 rfl] at h2
    cases hs : s.asks t with
    | none => rfl
    | some l => rw [hs] at h2; cases h2
  have hrole : roleFrom ρ w.heap.size (w.heap.size + 1) .asks w.heap.size = .asks := roleFrom_new (Nat.le_refl _) (Nat.lt_succ_self _)
  refine ⟨⟨?_, World.cell?_setCell_same _ _ _ h1.c1, fun j => by rw [World.frozen?_setCell]; exact h1.z j, hk1'.row h1.row fun g hg => hn g _ (h1.p1 g hg) (by simp), h1.len, h1.many, fun k cb c hcb hc => ?_, h1.rows, fun e => (by cases e), fun b hb => ?_,
    fun t => by rw [hempty t]; rfl, fun t l hl => (by rw [hempty t] at hl; cases hl), h1.p0, h1.p1, fun g hg => Nat.lt_of_lt_of_le (h1.dom g hg) hk1'.size⟩, (hk0.mono fun _ _ e => e.elim).trans hk1'⟩
  · rw [cell_set_other (off_ne (by decide) pb)]; exact h1.c0
  · obtain ⟨rb, sb, v1, v2, h3⟩ := h1.chs k cb c hcb hc
    exact ⟨rb, sb, v1, v2, h3.keeps hk1' fun g _ hg e => by rw [e, h1.p0] at hg; exact hg⟩
  · cases hb
    refine ⟨hk1'.map (World.ownsMap_made w Tryd.prog 3 (heldE)) (hn _ _ hrole (by simp)), hrole⟩
/-- A task's talks are noted. -/
theorem PipesAt.note (h : PipesAt w ρ pb vch ptr mb D N M s) {b : Nat} (hb : mb = some b) {t : Int} {l : List Tk} {u : Value} (hwf : (Lit.int .i64 t).wf = true) (hk : Keeps (fun k => k = b) w w') (ho : w'.ownsMap Tryd.prog 3 heldE b (N + 1) (D.put (.int .i64 t) (.held u)))
    (hu : TalksAt w u l) (hur : ∀ g, u.ownBlock = some g → ρ g = .talks t) :
    PipesAt w' ρ pb vch ptr mb (D.put (.int .i64 t) (.held u)) (N + 1) M ⟨s.chs, fun x => if x = t then some l else s.asks x⟩ := by
  obtain ⟨h1, h2⟩ := h.map1 b hb
  have hI := h1.isMap
  have hkl : WideAt.IsKeyLit (Lit.int .i64 t) := trivial
  have hoff : ∀ {v : Value} {q : Int}, (∀ g, v.ownBlock = some g → ρ g = .talks q) → Off v (fun k => k = b) := fun hv g hg e => by
    have := hv g hg
    rw [e, h2] at this
    cases this
  refine h.turn hb hk ho (fun x => ?_) fun x m hm => ?_
  · by_cases e : x = t
    · subst e
      rw [Maps.has_put_same hI hkl]; simp
    · rw [Maps.has_put_other (lit_neI e), h.has, if_neg e]
  · split at hm
    · next e =>
      subst e
      cases hm
      exact ⟨hwf, u, fun z => Maps.atKey_put_same hI hkl _ z, hu.keeps hk (hoff hur), hur⟩
    · next e =>
      obtain ⟨h3, v, h4, h5, h6⟩ := h.talk x m hm
      exact ⟨h3, v, fun z => by rw [Maps.atKey_put_other (lit_neI e)]; exact h4 z, h5.keeps hk (hoff h6), h6⟩
end
theorem lay_succ {task : Int} {l : List Tk} {i : Nat} {x : Tk} (hx : l[i]? = some x) : ∀ (chs : List Ch) (k : Nat), lay task chs (l.take (i + 1)) k = layAt task (lay task chs (l.take i) k) x (k + i) := by
  induction l generalizing i with
  | nil => cases hx
  | cons t l ih =>
    intro chs k
    cases i with
    | zero => cases hx; rfl
    | succ i =>
      rw [List.take_succ_cons, List.take_succ_cons, lay, lay, ih (by simpa using hx)]
      congr 1
      omega
theorem layAt_zero {task : Int} {chs : List Ch} {x : Tk} {i : Nat} (h : x.chan = 0) : layAt task chs x i = chs := by unfold layAt; rw [if_pos h]
theorem layAt_set {task : Int} {chs : List Ch} {x : Tk} {i k : Nat} {c : Ch} (h : x.chan = (k : Int) + 1) (hc : chs[k]? = some c) : layAt task chs x i = chs.set k (c.lay task x.what i) := by
  unfold layAt
  rw [if_neg (by omega), show (x.chan - 1).toNat = k by omega, modify_set _ hc]
end Go.Proofs.YtpehmghnfbkaaaaDoor
