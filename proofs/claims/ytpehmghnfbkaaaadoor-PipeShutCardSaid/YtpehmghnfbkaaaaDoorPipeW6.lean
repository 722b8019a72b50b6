/-
  What turns when a task goes on: the map of what is asked, a channel's rows.
-/
import Derived.Test.YtpehmghnfbkaaaaDoorPipeW2
import Derived.Test.YtpehmghnfbkaaaaDoorPipeW5
namespace Go.Proofs.YtpehmghnfbkaaaaDoor
open Go.RowKit Go.Maps Pp

theorem keeps_set1 (w : World) (p : Addr) (u : Value) : Keeps (fun b => b = p.block) w (w.setCell p u) := (Keeps.refl (fun b => b = p.block) w).setCell (Or.inl rfl) u
section
variable {w w' : World} {ρ : Nat → Role} {pb : Nat} {vch : Value} {ptr : List Nat} {mb : Option Nat} {D : DataW Value} {N M : Nat} {s : St}
/-- Where what a task asked lies. -/
theorem PipesAt.look (h : PipesAt w ρ pb vch ptr mb D N M s) {t : Int} {l : List Tk} (ht : s.asks t = some l) : ∃ b v, mb = some b ∧ ρ b = .asks ∧ (Lit.int .i64 t).wf = true ∧ TalksAt w v l ∧ (∀ g, v.ownBlock = some g → ρ g = .talks t) ∧
    w.ownsMap Tryd.prog 3 heldE b N D ∧ ∀ (W : World) (n : Nat), W.ownsMap Tryd.prog 3 heldE b n D → (Instr.lookup 29 (.map (some b)) (.int .i64 t) false).run Tryd.prog W = .ok v W := by
  obtain ⟨hwf, v, hat, h2, h3⟩ := h.talk t l ht
  cases hb : mb with
  | none =>
    have h4 := h.has t
    rw [h.map0 hb, ht] at h4
    cases h4
  | some b =>
    obtain ⟨h4, h5⟩ := h.map1 b hb
    refine ⟨b, v, rfl, h5, hwf, h2, h3, h4, fun W n hW => ?_⟩
    have hz : (zeroValue 32).run Tryd.prog W = .ok (.slice none 0 0) W := by simp [Tryd.zeroValue32]
    obtain ⟨u, ps, h6, h7⟩ := hW.lookup keyedP Tryd.underlying29 hz (zd := .held (.slice none 0 0)) (zp := []) rfl (keyOf_int_mk Tryd.underlying3 hwf)
    rw [hat, heldE, Option.some.injEq, Prod.mk.injEq, DataW.held.injEq] at h7
    obtain ⟨rfl, _⟩ := h7
    exact h6
/-- Another map in its place. -/
theorem PipesAt.turn (h : PipesAt w ρ pb vch ptr mb D N M s) {b : Nat} (hb : mb = some b) (hk : Keeps (fun k => k = b) w w') {D' : DataW Value} {N' : Nat} (ho : w'.ownsMap Tryd.prog 3 heldE b N' D') {asks' : Int → Option (List Tk)}
    (has' : ∀ t : Int, Maps.has D' (.int .i64 t) = (asks' t).isSome) (ht : ∀ (t : Int) l, asks' t = some l → (Lit.int .i64 t).wf = true ∧ ∃ v, (∀ z, D'.atKey (.int .i64 t) z = .held v) ∧ TalksAt w' v l ∧ ∀ g, v.ownBlock = some g → ρ g = .talks t) :
    PipesAt w' ρ pb vch ptr mb D' N' M ⟨s.chs, asks'⟩ := by
  obtain ⟨h1, h2⟩ := h.map1 b hb
  have hn : ∀ g r, ρ g = r → r ≠ .asks → ¬ g = b := fun g r hr h3 e => by rw [e, h2] at hr; exact h3 hr.symm
  have hpb : ¬ pb = b := hn _ _ h.p0 (by simp)
  refine ⟨hk.cell_of h.c0 hpb, hk.cell_of h.c1 hpb, fun j => by rw [hk.frozen (p := ⟨pb, j, none⟩) h.lt hpb]; exact h.z j, hk.row h.row fun g hg => hn g _ (h.p1 g hg) (by simp), h.len, h.many, fun k cb c hcb hc => ?_, h.rows,
    fun e => by (rw [hb] at e; cases e), fun b' e => ?_, has', ht, h.p0, h.p1, fun g hg => Nat.lt_of_lt_of_le (h.dom g hg) hk.size⟩
  · obtain ⟨rb, sb, v1, v2, h3⟩ := h.chs k cb c hcb hc
    exact ⟨rb, sb, v1, v2, h3.keeps hk fun g _ hg e => by rw [e, h2] at hg; exact hg⟩
  · rw [hb] at e
    cases e
    exact ⟨ho, h2⟩
theorem lit_neI {a b : Int} (h : a ≠ b) : (Lit.int .i64 a) ≠ .int .i64 b := fun e => h (by injection e)
/-- One task is struck off. -/
theorem PipesAt.del (h : PipesAt w ρ pb vch ptr mb D N M s) {b : Nat} (hb : mb = some b) {task : Int} (hk : Keeps (fun k => k = b) w w') (ho : w'.ownsMap Tryd.prog 3 heldE b N (D.del (.int .i64 task))) :
    PipesAt w' ρ pb vch ptr mb (D.del (.int .i64 task)) N M ⟨s.chs, fun x => if x = task then none else s.asks x⟩ := by
  obtain ⟨_, h2⟩ := h.map1 b hb
  refine h.turn hb hk ho (fun t => ?_) fun t l hl => ?_
  · by_cases e : t = task
    · subst e
      rw [Maps.has_del_same]; simp
    · rw [Maps.has_del_other (lit_neI e), h.has, if_neg e]
  · split at hl
    · cases hl
    · next e =>
      obtain ⟨h3, v, h4, h5, h6⟩ := h.talk t l hl
      exact ⟨h3, v, fun z => by rw [Maps.atKey_del_other (lit_neI e)]; exact h4 z, h5.keeps hk fun g hg e2 => by (have := h6 g hg; rw [e2, h2] at this; cases this), h6⟩
end
section
variable {w w' : World} {ρ : Nat → Role} {k cb rb sb : Nat} {v1 v2 v' : Value} {c : Ch}
/-- What the blocks of a row and of the channel itself are. -/
theorem ChC.sends (h : ChC w ρ k cb rb sb v1 v2 c) (hk : Keeps (fun b => v1.ownBlock = some b) w w') {r : List (Int × Nat)} (hr : RowW w' v' r) (hp : ∀ b, v'.ownBlock = some b → ρ b = .sends k) :
    ChC (w'.setCell ⟨cb, 2, none⟩ v') ρ k cb rb sb v' v2 { c with sends := r } := by
  have hn : ∀ g q, ρ g = q → q ≠ .sends k → ¬ v1.ownBlock = some g := fun g q hq h3 e => h3 (by rw [← hq]; exact h.p3 g e)
  have hcb : ¬ v1.ownBlock = some cb := hn _ _ h.p0 (by simp)
  have hlt : cb < w.heap.size := block_lt_of_cell h.c0
  have hs := keeps_set1 w' ⟨cb, 2, none⟩ v'
  have hm : ∀ g q, ρ g = q → q ≠ .chan k → ¬ g = cb := fun g q hq h3 e => h3 (by rw [← hq, e]; exact h.p0)
  refine ⟨?_, ?_, World.cell?_setCell_same _ _ _ (hk.cell_of h.c2 hcb), ?_, fun j => by rw [World.frozen?_setCell, hk.frozen (p := ⟨cb, j, none⟩) hlt hcb]; exact h.z j, ?_, ?_, hr.keeps hs fun b hb => hm b _ (hp b hb) (by simp), ?_, h.p0, h.p1, h.p2, hp, h.p4⟩
  · rw [cell_set_other (off_ne (by decide) cb)]; exact hk.cell_of h.c0 hcb
  · rw [cell_set_other (off_ne (by decide) cb)]; exact hk.cell_of h.c1 hcb
  · rw [cell_set_other (off_ne (by decide) cb)]; exact hk.cell_of h.c3 hcb
  · exact (h.ring.keeps hk (hn _ _ h.p1 (by simp)) (hn _ _ h.p2 (by simp))).keeps hs (hm _ _ h.p1 (by simp)) (hm _ _ h.p2 (by simp))
  · exact Nat.lt_of_lt_of_le h.lt (Nat.le_trans hk.size hs.size)
  · exact (h.r2.keeps hk fun b hb => hn b _ (h.p4 b hb) (by simp)).keeps hs fun b hb => hm b _ (h.p4 b hb) (by simp)
theorem ChC.recvs (h : ChC w ρ k cb rb sb v1 v2 c) (hk : Keeps (fun b => v2.ownBlock = some b) w w') {r : List (Int × Nat)} (hr : RowW w' v' r) (hp : ∀ b, v'.ownBlock = some b → ρ b = .recvs k) :
    ChC (w'.setCell ⟨cb, 3, none⟩ v') ρ k cb rb sb v1 v' { c with recvs := r } := by
  have hn : ∀ g q, ρ g = q → q ≠ .recvs k → ¬ v2.ownBlock = some g := fun g q hq h3 e => h3 (by rw [← hq]; exact h.p4 g e)
  have hcb : ¬ v2.ownBlock = some cb := hn _ _ h.p0 (by simp)
  have hlt : cb < w.heap.size := block_lt_of_cell h.c0
  have hs := keeps_set1 w' ⟨cb, 3, none⟩ v'
  have hm : ∀ g q, ρ g = q → q ≠ .chan k → ¬ g = cb := fun g q hq h3 e => h3 (by rw [← hq, e]; exact h.p0)
  refine ⟨?_, ?_, ?_, World.cell?_setCell_same _ _ _ (hk.cell_of h.c3 hcb), fun j => by rw [World.frozen?_setCell, hk.frozen (p := ⟨cb, j, none⟩) hlt hcb]; exact h.z j, ?_, ?_, ?_, hr.keeps hs fun b hb => hm b _ (hp b hb) (by simp), h.p0, h.p1, h.p2, h.p3, hp⟩
  · rw [cell_set_other (off_ne (by decide) cb)]; exact hk.cell_of h.c0 hcb
  · rw [cell_set_other (off_ne (by decide) cb)]; exact hk.cell_of h.c1 hcb
  · rw [cell_set_other (off_ne (by decide) cb)]; exact hk.cell_of h.c2 hcb
  · exact (h.ring.keeps hk (hn _ _ h.p1 (by simp)) (hn _ _ h.p2 (by simp))).keeps hs (hm _ _ h.p1 (by simp)) (hm _ _ h.p2 (by simp))
  · exact Nat.lt_of_lt_of_le h.lt (Nat.le_trans hk.size hs.size)
  · exact (h.r1.keeps hk fun b hb => hn b _ (h.p3 b hb) (by simp)).keeps hs fun b hb => hm b _ (h.p3 b hb) (by simp)
end
end Go.Proofs.YtpehmghnfbkaaaaDoor
