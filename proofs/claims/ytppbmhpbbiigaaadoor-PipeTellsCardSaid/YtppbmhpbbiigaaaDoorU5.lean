/-
  Texts of one proof, in build order: The walk of the reference's Talk. | Operations on channels that came in: what a walk is told of them. | The walk of package pipe's Close. | errors.As at a target of type *api.Errno: what it does at an api.Errno (Go's own text of errors.As and errors.as, walked; the entries of internal/reflectlite by the model). | errors.As at a target of type *api.Errno, walked: at an api.Errno it is true, and the target holds it. | api.Tell, plain.Place at nil and at an api.Errno.
-/
import Derived.Test.YtppbmhpbbiigaaaDoorU4
import Derived.Deep.Cut
import Derived.BigQuiet
import Derived.Deep.RegionHeld
import Derived.WalkKit
import Derived.OpenShut
import Derived.ProofKit
import Derived.Deep.SlicePairs
import Derived.Test.YtppbmhpbbiigaaaDoorRows
import Derived.WalkSpells
import Derived.WalkLawsBesides
import Derived.LaidEql
import Derived.LaidHandle
import Derived.Stop.Asserts
import Derived.RowKitTokens
import Derived.Lib.Hide
import Derived.RegionTactic
import Derived.ChangeAlike
namespace Go.Proofs.YtppbmhpbbiigaaaDoor
open Go.RowKit Go.Maps Pp

/-- What comes of a talk. -/
structure RTalkP (w w' : World) (σ : Nat → RRole) (rb : Nat) (ws : List (Int × List Tk)) (r : Pp.Told) (vw : Value) : Prop where
  refs : ∃ ws', RefsX w w' σ rb r.st ws' ∧ ws'.length ≤ ws.length + 1
  wk : w'.ownsRow w.heap.size 65 3 vw r.wakes.length (cellsK r.wakes)
  keep : Keeps (fun b => σ b ≠ .free) w w'
/-- Ahead of the answer's note: the block that the talk made for it is zeros. -/
structure RTalkI (w w1 W : World) : Prop where
  bel : Below w1.heap.size w1 W
  c0 : W.cell? ⟨w.heap.size, 0, none⟩ = some (.int .i64 0)
  c1 : W.cell? ⟨w.heap.size, 1, none⟩ = some (.int .i64 0)
  z0 : W.frozen? ⟨w.heap.size, 0, none⟩ = false
  z1 : W.frozen? ⟨w.heap.size, 1, none⟩ = false
theorem RTalkI.of {w w1 W : World} (hw1 : w1 = w.alloc (.cells #[.int .i64 0, .int .i64 0] 44)) (h : Below w1.heap.size w1 W) : RTalkI w w1 W := by
  have hl : w.heap.size < w1.heap.size := by rw [hw1]; simp
  refine ⟨h, (h.cell (p := ⟨w.heap.size, 0, none⟩) hl).trans ?_, (h.cell (p := ⟨w.heap.size, 1, none⟩) hl).trans ?_, (h.frozen (p := ⟨w.heap.size, 0, none⟩) hl).trans ?_, (h.frozen (p := ⟨w.heap.size, 1, none⟩) hl).trans ?_⟩
  · rw [hw1, World.cell?_alloc_at _ _ _ _ rfl]; rfl
  · rw [hw1, World.cell?_alloc_at _ _ _ _ rfl]; rfl
  · rw [hw1, World.frozen?_alloc_at _ _ _ _ rfl]
  · rw [hw1, World.frozen?_alloc_at _ _ _ _ rfl]
/-- Two cells of one block are written. -/
theorem set2 {W : World} {r : Nat} {a0 b0 : Value} (h0 : W.cell? ⟨r, 0, none⟩ = some a0) (h1 : W.cell? ⟨r, 1, none⟩ = some b0) (a b : Value) :
    ((W.setCell ⟨r, 0, none⟩ a).setCell ⟨r, 1, none⟩ b).cell? ⟨r, 0, none⟩ = some a ∧ ((W.setCell ⟨r, 0, none⟩ a).setCell ⟨r, 1, none⟩ b).cell? ⟨r, 1, none⟩ = some b ∧ Keeps (fun g => g = r) W ((W.setCell ⟨r, 0, none⟩ a).setCell ⟨r, 1, none⟩ b) := by
  refine ⟨?_, ?_, ((Keeps.refl (fun g => g = r) W).setCell (p := ⟨r, 0, none⟩) (Or.inl rfl) _).setCell (p := ⟨r, 1, none⟩) (Or.inl rfl) _⟩
  · rw [cell_set_other (off_ne (by decide) _)]; exact cell_set_same h0
  · exact cell_set_same (u := b0) (by rw [cell_set_other (off_ne (by decide) _)]; exact h1)
theorem other_at {m : Nat} {l : List Tk} {k : Nat} {o : Int} {t : Tk} (ht : l[k]? = some t) : Pp.other m (l.drop k) k o =
    if t.what = 40 then (if 0 ≤ o then (-1, 9) else Pp.other m (l.drop (k + 1)) (k + 1) (k : Int)) else if t.what ≠ 3 ∧ t.what ≠ 10 then (-1, 1) else if may m t.chan = false then (-1, 2) else Pp.other m (l.drop (k + 1)) (k + 1) o := by
  have hk := (List.getElem?_eq_some_iff.1 ht).1
  rw [List.drop_eq_getElem_cons hk, (List.getElem?_eq_some_iff.1 ht).2, Pp.other]
theorem frees_at {chs : List Ch} {l : List Tk} {k : Nat} {t : Tk} (ht : l[k]? = some t) : frees chs (l.drop k) k = if isFree chs t then k :: frees chs (l.drop (k + 1)) (k + 1) else frees chs (l.drop (k + 1)) (k + 1) := by
  have hk := (List.getElem?_eq_some_iff.1 ht).1
  rw [List.drop_eq_getElem_cons hk, (List.getElem?_eq_some_iff.1 ht).2, frees]
/-- So far. -/
structure RTalkJ (w w1 wr : World) (s : St) (l : List Tk) (k : Nat) (o : Int) (ks : List Nat) (mv : Value) : Prop where
  i : RTalkI w w1 wr
  own : OwnI wr w1.heap.size mv (ks.map fun (j : Nat) => (j : Int))
  other : Pp.other s.chs.length l 0 (-1) = Pp.other s.chs.length (l.drop k) k o
  frees : Pp.frees s.chs l 0 = ks ++ Pp.frees s.chs (l.drop k) k
  len : ks.length ≤ k
  lo : -1 ≤ o ∧ o < k
section
variable {w : World} {σ : Nat → RRole} {rb : Nat} {vl : Value} {ptr : List Nat} {vw : Value} {us : List (Int × Value)} {s : St} {ws : List (Int × List Tk)}
theorem RTalkP.same (h : RefsAt w σ rb vl ptr vw us s ws) {w1 W W' : World} (hi : RTalkI w w1 W) (hw1 : w1 = w.alloc (.cells #[.int .i64 0, .int .i64 0] 44)) (hk : Keeps (fun b => b = w.heap.size) W W') (r : Pp.Told) (hs : r.st = s) (hw : r.wakes = []) : RTalkP w W' σ rb ws r (.slice none 0 0) := by
  have hl : w1.heap.size = w.heap.size + 1 := by rw [hw1]; simp
  have hb : Below w.heap.size w W := (show Below w.heap.size w w1 by rw [hw1]; exact (Below.refl _ _).alloc (Nat.le_refl _) _).trans (hi.bel.mono (by omega))
  have hkk : Keeps (fun _ => False) w W' := (Keeps.of_new (S := fun _ => False) hb).trans' hk fun g hg e => by omega
  exact ⟨⟨ws, ⟨σ, vl, ptr, vw, us, by rw [hs]; exact h.keeps hkk fun _ _ e => e.elim, fun _ _ => rfl⟩, Nat.le_succ _⟩, by rw [hw]; exact World.ownsRow_nil _ _ _ _, hkk.mono fun _ _ e => e.elim⟩

theorem RTalkP.of (h : RefsAt w σ rb vl ptr vw us s ws) {w1 W W9 W' : World} (hi : RTalkI w w1 W) (hw1 : w1 = w.alloc (.cells #[.int .i64 0, .int .i64 0] 44)) {r : Pp.Told} {ws' : List (Int × List Tk)} {wv : Value} (hx : RefsX W W9 σ rb r.st ws') (hlen : ws'.length ≤ ws.length + 1) (hk9 : Keeps (fun b => σ b ≠ .free) W W9)
    (hk : Keeps (fun b => b = w.heap.size) W9 W') (hwk : W9.ownsRow (w.heap.size + 1) 65 3 wv r.wakes.length (cellsK r.wakes)) : RTalkP w W' σ rb ws r wv := by
  have hl : w1.heap.size = w.heap.size + 1 := by rw [hw1]; simp
  have hb : Below w.heap.size w W := (show Below w.heap.size w w1 by rw [hw1]; exact (Below.refl _ _).alloc (Nat.le_refl _) _).trans (hi.bel.mono (by omega))
  have hW : w.heap.size < W.heap.size := by have := hi.bel.size; omega
  obtain ⟨σ', vl', ptr', vw', us', h1, h2⟩ := hx.ex
  have hf : σ' w.heap.size = .free := by
    rw [h2 _ hW]
    exact Classical.byContradiction fun e => by have := h.dom _ e; omega
  refine ⟨⟨ws', ⟨σ', vl', ptr', vw', us', h1.keeps hk fun b _ e => by rw [e]; exact hf, fun b hb => h2 b (by omega)⟩, hlen⟩, own_mono (hk.row hwk fun b hb e => ?_) (Nat.le_succ _), ?_⟩
  · have := (World.ownsRow.lt hwk b hb).1
    omega
  · refine ((Keeps.of_new (S := fun b => σ b ≠ .free) hb).trans hk9).trans' hk fun g hg e => by omega
/-- A row, to be read, and where it lies. -/
theorem rrow_head2 (h : RefsAt w σ rb vl ptr vw us s ws) (hN : ws.length ≤ 10000) (c what : Int) {r : List (Int × Nat)} (hy : rowR ws what c = r) :
    Calls Tryd.prog 30 #[.pointer (some ⟨rb, 0, none⟩), .int .i64 c, .int .i64 what] w fun e w' => ∃ au cu, e = .returned (.slice au r.length cu) ∧ r.length ≤ cu ∧ ReadW w' (.slice au r.length cu) r ∧ (∀ g, au = some ⟨g, 0, none⟩ → w.heap.size ≤ g) ∧ Below w.heap.size w w' := by
  refine (rrow_any h hN c what).mono ?_
  rintro e w' ⟨u, rfl, h1, h2⟩
  rw [hy] at h1
  obtain ⟨au, cu, rfl⟩ := own_slice h1
  refine ⟨au, cu, rfl, ?_, readW_of h1, fun g hg => (World.ownsRow.lt h1 g (by rw [hg]; rfl)).1, h2⟩
  rcases h1.2 with ⟨e1, h0⟩ | ⟨g, cap, cur, e1, _, _, h3, h4, _⟩
  · rw [h0]; exact Nat.zero_le _
  · rw [Value.slice.injEq] at e1
    rw [e1.2.2]
    exact h3
theorem readW_head {V : World} {au : Option Addr} {n cu : Nat} {r yr : List (Int × Nat)} {y : Int × Nat} (h : ReadW V (.slice au n cu) r) (e : r = y :: yr) : ∃ g, au = some ⟨g, 0, none⟩ ∧ V.cell? ⟨g, 0, none⟩ = some (.int .i64 y.1) ∧ V.cell? ⟨g, 1, none⟩ = some (.int .i64 (y.2 : Nat)) := by
  subst e
  obtain ⟨a', c', hv', hrd⟩ := h
  obtain ⟨g, hg, _, hcells⟩ := hrd (by simp)
  rw [Value.slice.injEq] at hv'
  obtain ⟨k0, k1⟩ := hcells 0 y rfl
  rw [Nat.zero_mul] at k0 k1
  exact ⟨g, by rw [hv'.1, hg], k0, k1⟩
theorem send_shut (s : St) (k : Nat) {c : Ch} (n : Int) (h : c.shut = true) : Pp.send s k c n = ⟨s, 0, [], 13⟩ := by unfold Pp.send; rw [if_pos h]
theorem send_meet (s : St) (k : Nat) {c : Ch} (n : Int) (h : c.shut = false) {y : Int × Nat} {yr : List (Int × Nat)} (e : c.recvs = y :: yr) : Pp.send s k c n = ⟨Pp.wake s y.1, 0, [⟨y.1, y.2, n⟩], 0⟩ := by unfold Pp.send; rw [if_neg (by rw [h]; decide), e]
theorem send_lay (s : St) (k : Nat) {c : Ch} (n : Int) (h : c.shut = false) (e : c.recvs = []) (hl : c.nums.length ≠ c.size) : Pp.send s k c n = ⟨setNums s k (c.nums ++ [n]), 0, [], 0⟩ := by unfold Pp.send; rw [if_neg (by rw [h]; decide), e]; simp only; rw [if_neg hl]
theorem wk_one (V : World) (t : Int) (k : Nat) (n : Int) {B : Nat} (hB : B ≤ V.heap.size) : (V.alloc (.cells #[.int .i64 t, .int .i64 (k : Nat), .int .i64 n] 65)).ownsRow B 65 3 (.slice (some ⟨V.heap.size, 0, none⟩) 1 1) 1 (cellsK [⟨t, k, n⟩]) :=
  ⟨rfl, Or.inr ⟨V.heap.size, 1, #[.int .i64 t, .int .i64 (k : Nat), .int .i64 n], rfl, hB, by show (V.heap.push _)[V.heap.size]? = _; simp, Nat.le_refl _, by unfold maxLen; decide, rfl, rfl⟩⟩
theorem offW_le (t : Int) (ws : List (Int × List Tk)) : (offW t ws).length ≤ ws.length := List.length_filter_le _ _
theorem readW_below {V V' : World} {v : Value} {r : List (Int × Nat)} (h : ReadW V v r) (hb : Below V.heap.size V V') : ReadW V' v r := by
  obtain ⟨ao, cap, rfl, h⟩ := h
  refine ⟨ao, cap, rfl, fun h0 => ?_⟩
  obtain ⟨g, e, hl, hc⟩ := h h0
  exact ⟨g, e, Nat.lt_of_lt_of_le hl hb.size, fun i x hx => ⟨(hb.cell (p := ⟨g, i * 2, none⟩) hl).trans (hc i x hx).1, (hb.cell (p := ⟨g, i * 2 + 1, none⟩) hl).trans (hc i x hx).2⟩⟩
theorem recvR_none (s : St) (k : Nat) {c : Ch} (h1 : c.sends = []) (h2 : c.nums = []) : recvR s k c = ⟨s, 0, [], 0⟩ := by
  obtain ⟨a1, a2, a3, a4, a5⟩ := c
  simp only at h1 h2
  subst h1 h2
  rfl
theorem recvR_nums (s : St) (k : Nat) {c : Ch} (h1 : c.sends = []) {x : Int} {r : List Int} (h2 : c.nums = x :: r) : recvR s k c = ⟨setNums s k r, x, [], 0⟩ := by
  obtain ⟨a1, a2, a3, a4, a5⟩ := c
  simp only at h1 h2
  subst h1 h2
  unfold recvR
  simp
theorem recvR_met (s : St) (k : Nat) {c : Ch} {y : Int × Nat} {yr : List (Int × Nat)} (h1 : c.sends = y :: yr) {x : Int} {r : List Int} (h2 : c.nums ++ [sent s y] = x :: r) : recvR s k c = ⟨setNums (Pp.wake s y.1) k r, x, [⟨y.1, y.2, 0⟩], 0⟩ := by
  obtain ⟨a1, a2, a3, a4, a5⟩ := c
  simp only at h1 h2
  subst h1
  unfold recvR
  simp only
  rw [h2]
theorem ownI_head {V : World} {B : Nat} {a : Option Addr} {n c : Nat} {x : Int} {r : List Int} (h : OwnI V B (.slice a n c) (x :: r)) : ∃ g, a = some ⟨g, 0, none⟩ ∧ n = r.length + 1 ∧ n ≤ c ∧ B ≤ g ∧ g < V.heap.size ∧ V.cell? ⟨g, 0, none⟩ = some (.int .i64 x) := by
  have hc := h
  rcases h.2 with ⟨_, h0⟩ | ⟨g, cap', cur, hv, hb, hg, h3, h4, h5, h6⟩
  · simp at h0
  · rw [Value.slice.injEq] at hv
    obtain ⟨rfl, rfl, rfl⟩ := hv
    have f := World.ownsRow.cells hc (g := g) rfl 0 (.int .i64 x) (by simp)
    rw [addr_addP, Nat.zero_add] at f
    exact ⟨g, rfl, by simp, h3, hb, (Array.getElem?_eq_some_iff.1 hg).1, f⟩
theorem RCh.roleF {w : World} {σ σ' : Nat → RRole} {k cb : Nat} {v : Value} {c : Ch} (h : RCh w σ k cb v c) (hx : ∀ b, σ b ≠ .free → σ' b = σ b) : RCh w σ' k cb v c :=
  ⟨h.c0, h.c1, h.c2, h.z, h.nums, by rw [hx _ (by rw [h.p0]; simp)]; exact h.p0, fun b hb => by rw [hx _ (by rw [h.p1 b hb]; simp)]; exact h.p1 b hb⟩
/-- A channel's numbers become a row of somebody's own. -/
theorem RefsAt.numsF {w w0 : World} {σ σ0 : Nat → RRole} {rb : Nat} {vl : Value} {ptr : List Nat} {vw : Value} {us : List (Int × Value)} {s : St} {ws : List (Int × List Tk)} {k cb : Nat} {v : Value} {x : Ch} (h : RefsAt w σ rb vl ptr vw us s ws) (hcb : ptr[k]? = some cb) (hx : s.chs[k]? = some x) (hc : RCh w σ k cb v x) {v' : Value} {nums' : List Int}
    (hm : MidI w 0 v' nums') (hnb : ∀ b, v'.ownBlock = some b → w0.heap.size ≤ b ∧ σ b = .free) (h0 : ∀ b, b < w0.heap.size → σ b = σ0 b) (hl : nums'.length ≤ x.size) :
    RefsX w0 (w.setCell ⟨cb, 1, none⟩ v') σ0 rb (setNums s k nums') ws ∧ Keeps (fun b => b = cb) w (w.setCell ⟨cb, 1, none⟩ v') := by
  have hxf : ∀ b, σ b ≠ .free → asOf σ v' (.nums k) b = σ b := fun b hb => asOf_old fun e => hb (hnb b e).2
  have hs := keeps_set1 w ⟨cb, 1, none⟩ v'
  have he : setNums s k nums' = ⟨s.chs.set k { x with nums := nums' }, s.asks⟩ := by unfold setNums; rw [modify_set _ hx]
  have hok : Ok (setNums s k nums') := h.ok.nums k nums' fun c hc' => by rw [hx] at hc'; cases hc'; exact hl
  have hrel := h.rel.nums k nums'
  rw [he] at hok hrel ⊢
  have hn : ∀ b, ¬ (σ b).of k → ¬ b = cb := fun b h1 e => h1 (by rw [e, hc.p0]; rfl)
  refine ⟨⟨asOf σ v' (.nums k), vl, ptr, vw, us, ⟨hs.cell_of h.c0 (hn _ (by rw [h.p0]; exact id)), hs.cell_of h.c1 (hn _ (by rw [h.p0]; exact id)), fun j => by rw [World.frozen?_setCell]; exact h.z j, hs.row h.row fun b hb => hn b (by rw [h.p1 b hb]; exact id), by simpa using h.len, fun j cb' c hcb' hj => ?_, hs.row h.wrow fun b hb => hn b (by rw [h.p2 b hb]; exact id),
    h.wts.keeps hs (fun b hb => hn b (by rw [hb]; exact id)) hxf, by rw [hxf _ (by rw [h.p0]; simp)]; exact h.p0, fun b hb => by rw [hxf _ (by rw [h.p1 b hb]; simp)]; exact h.p1 b hb, fun b hb => by rw [hxf _ (by rw [h.p2 b hb]; simp)]; exact h.p2 b hb, fun b hb => by rw [World.size_setCell]; exact asOf_dom h.dom (Nat.le_refl _) (fun b hb => (hm.le b hb).2) b hb, hok, hrel⟩, fun b hb => ?_⟩, hs⟩
  · by_cases e : k = j
    · subst e
      have hkl : k < s.chs.length := (List.getElem?_eq_some_iff.1 hx).1
      rw [List.getElem?_set_self hkl] at hj
      cases hj
      rw [hcb] at hcb'
      cases hcb'
      refine ⟨v', ?_, World.cell?_setCell_same _ _ _ hc.c1, ?_, fun j => by rw [World.frozen?_setCell]; exact hc.z j, hm.keeps hs fun b hb e => ?_, by rw [hxf _ (by rw [hc.p0]; simp)]; exact hc.p0, fun b hb => asOf_own hb⟩
      · rw [cell_set_other (off_ne (by decide) cb)]; exact hc.c0
      · rw [cell_set_other (off_ne (by decide) cb)]; exact hc.c2
      · have e' : b = cb := e
        have h1 := (hnb b hb).2
        rw [e', hc.p0] at h1
        cases h1
    · rw [List.getElem?_set_ne e] at hj
      obtain ⟨v1, h1⟩ := h.chs j cb' c hcb' hj
      refine ⟨v1, (h1.keeps hs fun b hbl hb e2 => ?_).roleF hxf⟩
      have e3 : b = cb := e2
      rw [e3, hc.p0] at hb
      exact e hb
  · rw [asOf_old fun e => by have := (hnb b e).1; omega]
    exact h0 b hb
theorem RTalkP.fin (h : RefsAt w σ rb vl ptr vw us s ws) {w1 W W9 W' : World} (hi : RTalkI w w1 W) (hw1 : w1 = w.alloc (.cells #[.int .i64 0, .int .i64 0] 44)) {r : Pp.Told} {ws' : List (Int × List Tk)} {wv : Value} (hx : RefsX W W9 σ rb r.st ws') (hlen : ws'.length ≤ ws.length + 1) (hk9 : Keeps (fun b => σ b ≠ .free) W W9)
    (hk : Keeps (fun b => b = w.heap.size) W9 W') (hwk : W'.ownsRow (w.heap.size + 1) 65 3 wv r.wakes.length (cellsK r.wakes)) : RTalkP w W' σ rb ws r wv := by
  have h0 := RTalkP.of (wv := .slice none 0 0) (r := { r with wakes := [] }) h hi hw1 hx hlen hk9 hk (World.ownsRow_nil _ _ _ _)
  exact ⟨h0.refs, own_mono hwk (Nat.le_succ _), h0.keep⟩
theorem Keeps.drewK {S : Nat → Prop} {V V' : World} (h : Keeps S V V') : Keeps S V V'.drew := h.trans (Keeps.of_new (Below.drew (Below.refl _ V')))
/-- The answer's note is written over two cells that stand there in whatever world to come. -/
theorem note_at {rz : Nat} {wy : World} (t0 : wy.cell? ⟨rz, 0, none⟩ = some (.int .i64 0)) (t1 : wy.cell? ⟨rz, 1, none⟩ = some (.int .i64 0)) (f0 : wy.frozen? ⟨rz, 0, none⟩ = false) (f1 : wy.frozen? ⟨rz, 1, none⟩ = false) {S : Nat → Prop} (hS : ¬ S rz) {V : World} (hk : Keeps S wy V) :
    V.cell? ⟨rz, 0, none⟩ = some (.int .i64 0) ∧ V.cell? ⟨rz, 1, none⟩ = some (.int .i64 0) ∧ V.frozen? ⟨rz, 0, none⟩ = false ∧ V.frozen? ⟨rz, 1, none⟩ = false :=
  ⟨hk.cell_of t0 hS, hk.cell_of t1 hS, by rw [hk.frozen (p := ⟨rz, 0, none⟩) (block_lt_of_cell t0) hS]; exact f0, by rw [hk.frozen (p := ⟨rz, 1, none⟩) (block_lt_of_cell t1) hS]; exact f1⟩
set_option maxRecDepth 100000 in
set_option maxHeartbeats 25600000 in
theorem rtalk_any (h : RefsAt w σ rb vl ptr vw us s ws) (hN : ws.length ≤ 1000) (task : Int) {v : Value} {l : List Tk} (hl : TalksAt w v l) (hvo : 0 < l.length → ∀ b, v.ownBlock = some b → σ b = .free) (draw : Int) (hd : -9223372036854775808 ≤ draw ∧ draw ≤ 9223372036854775807) (hl10 : l.length ≤ 1000) :
    Calls Tryd.prog 8 #[.pointer (some ⟨rb, 0, none⟩), .int .i64 task, v, .int .i64 draw] w fun e w' => ∃ vw, e = .returned (.tuple #[.agg #[.int .i64 (Pp.talk s task l draw).case, .int .i64 (Pp.talk s task l draw).n], vw, .bool (Pp.talk s task l draw).waits, .int .i64 (Pp.talk s task l draw).err]) ∧
      RTalkP w w' σ rb ws (Pp.talk s task l draw) vw := by
  obtain ⟨r, hr⟩ : ∃ r, Pp.talk s task l draw = r := ⟨_, rfl⟩
  rw [hr]
  obtain ⟨vl0, hvl0⟩ : ∃ v0, v0 = vl := ⟨_, rfl⟩
  subst hvl0
  obtain ⟨av, capv, rfl⟩ := h.vws
  obtain ⟨ao, cap, rfl, hc1, hc2⟩ := hl.slice
  obtain ⟨w1, hw1⟩ : ∃ w1, w1 = w.alloc (.cells #[.int .i64 0, .int .i64 0] 44) := ⟨_, rfl⟩
  have hka : Keeps (fun _ => False) w w1 := by rw [hw1]; exact alloc_new _ _
  have hs1 : w1.heap.size = w.heap.size + 1 := by rw [hw1]; simp
  have HS1 := Lib.hid hs1
  have HH := Lib.hid h
  have HR := Lib.hid hr
  have HTA := Lib.hid hl
  have HVO := Lib.hid hvo
  have HD := Lib.hid hd
  have HKA := Lib.hid hka
  have HW1 := Lib.hid hw1
  have HH1 := Lib.hid (h.keeps hka fun _ _ e => e.elim)
  have HT1 := Lib.hid (hl.keeps hka fun _ _ e => e)
  have c1 := HH1.out.c1
  obtain ⟨n, hn⟩ : ∃ n, n = ws.length := ⟨_, rfl⟩
  have HNW := Lib.hid hn
  obtain ⟨ln, hln⟩ : ∃ n, n = l.length := ⟨_, rfl⟩
  have HLN := Lib.hid hln
  rw [← hn] at hN c1 HH HH1
  rw [← hln] at hc1 HTA HT1 HVO hl10 ⊢
  unfold maxLen at hc2
  clear h hl hvo hd hka hn hln hs1
  -- where nothing is done
  have HNONE : Hid (∀ W W', RTalkI w w1 W → Keeps (fun b => b = w.heap.size) W W' → ∀ q : Pp.Told, q.st = s → q.wakes = [] → RTalkP w W' σ rb ws q (.slice none 0 0)) := Lib.hid fun W W' hi hk q h1 h2 => RTalkP.same HH.out hi HW1.out hk q h1 h2
  have HI1 := Lib.hid (RTalkI.of HW1.out (Below.refl _ _))
  go_enter Tryd.func8, Tryd.ntmps8
  go_upto_region 1 with fail
  rw [← hw1]
  clear hw1
  cases hw : (s.asks task).isSome with
  | true =>
    have hre : r = ⟨s, 0, 0, [], false, 6⟩ := by rw [← HR.out]; unfold Pp.talk; rw [if_pos hw]
    subst hre
    obtain ⟨l0, hl0⟩ := Option.isSome_iff_exists.1 hw
    obtain ⟨i0, hi0⟩ := List.mem_iff_getElem?.1 ((HH.out.rel.asks task l0).1 hl0)
    have HI0 := Lib.hid hi0
    have hil : i0 < n := by rw [HNW.out]; exact (List.getElem?_eq_some_iff.1 hi0).1
    have HNOD : Hid (∀ (i : Nat) x, ws[i]? = some x → x.1 = task → i = i0) := Lib.hid fun i x hx e => by
      have hi := (List.getElem?_eq_some_iff.1 hx).1
      have h1 : (ws.map (·.1))[i]? = some task := by rw [List.getElem?_map, hx, ← e]; rfl
      have h2 : (ws.map (·.1))[i0]? = some task := by rw [List.getElem?_map, hi0]; rfl
      exact (List.getElem?_inj (by rw [List.length_map]; exact hi) HH.out.rel.nod).1 (h1.trans h2.symm)
    clear hw hl0 hi0
    go_wp2_with fail
    go_loopw [30] (fun iv wr => ∃ i : Nat, i ≤ i0 ∧ iv = .int .i64 i ∧ Below w1.heap.size w1 wr) (fun iv _ => n - (intOf iv).toNat)
    case atStart => exact ⟨0, Nat.zero_le _, rfl, Below.refl _ _⟩
    case round =>
      obtain ⟨i, hi, rfl, hb⟩ := hrel
      rename World => wr
      have HB := Lib.hid hb
      clear hb c1
      obtain ⟨⟨xt, xl⟩, hx⟩ : ∃ x, ws[i]? = some x := ⟨_, List.getElem?_eq_getElem (by rw [← HNW.out]; omega)⟩
      obtain ⟨g, cap', aT, cT, hv, hg, -, y1, y2, -, -⟩ := HH1.out.one hx
      rw [Value.slice.injEq] at hv
      obtain ⟨rfl, -, rfl⟩ := hv
      simp only at y1 y2
      have r1 := (HB.out.cell (p := ⟨g, i * 2, none⟩) hg).trans y1
      have r2 := (HB.out.cell (p := ⟨g, i * 2 + 1, none⟩) hg).trans y2
      have hii : (0 : Int) ≤ (i : Int) ∧ (i : Int) < (n : Int) := by omega
      have HBN : Hid (Below w1.heap.size w1 (wr.alloc (.cells #[.int .i64 xt, .slice aT xl.length cT] 83))) := Lib.hid (HB.out.alloc HB.out.size _)
      by_cases e : xt = task
      · have z1 : (xt == task) = true := by rw [beq_iff_eq]; exact e
        have z3 : decide (xt = task) = true := decide_eq_true e
        have hit := RTalkI.of HW1.out HBN.out
        have HIT := Lib.hid hit
        have t0 := hit.c0
        have t1 := hit.c1
        have f0 := hit.z0
        have f1 := hit.z1
        clear hit hx hg e y1 y2
        go_upto_region 5 with fail
        generalize wr.alloc (.cells #[.int .i64 xt, .slice aT xl.length cT] 83) = wz at *
        obtain ⟨e0, e1, hkz⟩ := set2 (W := wz) (r := w.heap.size) t0 t1 (.int .i64 0) (.int .i64 0)
        have HKZ := Lib.hid hkz
        clear hkz
        go_wp2_with fail
        refine bodyPost_ret (v := .tuple #[.agg #[.int .i64 0, .int .i64 0], .slice none 0 0, .bool false, .int .i64 6]) (by simp [results, Tryd.results8, go_sem, e0, e1] <;> rfl) rfl ?_
        exact ⟨_, rfl, HNONE.out _ _ HIT.out HKZ.out _ rfl rfl⟩
      · have z1 : (xt == task) = false := by rw [beq_eq_false_iff_ne]; exact e
        have z3 : decide (xt = task) = false := decide_eq_false e
        have hlt : i < i0 := by
          rcases Nat.lt_or_ge i i0 with h1 | h1
          · exact h1
          · obtain rfl : i = i0 := by omega
            rw [HI0.out] at hx
            cases hx
            exact absurd rfl e
        clear hx
        go_wp2_with fail
        go_roundw
        case rel => exact ⟨i + 1, by omega, by go_num, HBN.out⟩
        case measure => simp [intOf]; omega
  | false =>
    have hnone : s.asks task = none := by
      cases h9 : s.asks task with
      | none => rfl
      | some m => rw [h9] at hw; cases hw
    have HNA := Lib.hid hnone
    have HNE : Hid (∀ x ∈ ws, x.1 ≠ task) := Lib.hid (HH.out.rel.noone hnone)
    have HRW := Lib.hid hw
    clear hw hnone
    go_wp2_with fail
    go_loopw [30] (fun iv wr => ∃ i : Nat, i ≤ n ∧ iv = .int .i64 i ∧ Below w1.heap.size w1 wr) (fun iv _ => n - (intOf iv).toNat)
    case atStart => exact ⟨0, Nat.zero_le _, rfl, Below.refl _ _⟩
    case round =>
      obtain ⟨i, hi, rfl, hb⟩ := hrel
      rename World => wr
      have HB := Lib.hid hb
      clear hb c1
      by_cases hin : i < n
      · obtain ⟨⟨xt, xl⟩, hx⟩ : ∃ x, ws[i]? = some x := ⟨_, List.getElem?_eq_getElem (by rw [← HNW.out]; omega)⟩
        obtain ⟨g, cap', aT, cT, hv, hg, -, y1, y2, -, -⟩ := HH1.out.one hx
        rw [Value.slice.injEq] at hv
        obtain ⟨rfl, -, rfl⟩ := hv
        simp only at y1 y2
        have r1 := (HB.out.cell (p := ⟨g, i * 2, none⟩) hg).trans y1
        have r2 := (HB.out.cell (p := ⟨g, i * 2 + 1, none⟩) hg).trans y2
        have hii : (0 : Int) ≤ (i : Int) ∧ (i : Int) < (n : Int) := by omega
        have HBN : Hid (Below w1.heap.size w1 (wr.alloc (.cells #[.int .i64 xt, .slice aT xl.length cT] 83))) := Lib.hid (HB.out.alloc HB.out.size _)
        have e : xt ≠ task := HNE.out _ (List.mem_of_getElem? hx)
        have z1 : (xt == task) = false := by rw [beq_eq_false_iff_ne]; exact e
        have z3 : decide (xt = task) = false := decide_eq_false e
        clear hx y1 y2 hg e
        go_wp2_with fail
        go_roundw
        case rel => exact ⟨i + 1, by omega, by go_num, HBN.out⟩
        case measure => simp [intOf]; omega
      · obtain rfl : i = n := by omega
        have hii : ¬ (i : Int) < (i : Int) := by omega
        by_cases h6 : 6 < ln
        · have hre : r = ⟨s, 0, 0, [], false, 4⟩ := by rw [← HR.out]; unfold Pp.talk; rw [if_neg (by rw [HRW.out]; decide), if_pos (by rw [← HLN.out]; exact h6)]
          subst hre
          have h6i : (6 : Int) < (ln : Int) := by omega
          have hit := RTalkI.of HW1.out HB.out
          have HIT := Lib.hid hit
          have t0 := hit.c0
          have t1 := hit.c1
          have f0 := hit.z0
          have f1 := hit.z1
          clear hit
          obtain ⟨e0, e1, hkz⟩ := set2 (W := wr) (r := w.heap.size) t0 t1 (.int .i64 0) (.int .i64 0)
          have HKZ := Lib.hid hkz
          clear hkz
          go_wp2_with fail
          refine bodyPost_ret (v := .tuple #[.agg #[.int .i64 0, .int .i64 0], .slice none 0 0, .bool false, .int .i64 4]) (by simp [results, Tryd.results8, go_sem, e0, e1] <;> rfl) rfl ?_
          exact ⟨_, rfl, HNONE.out _ _ HIT.out HKZ.out _ rfl rfl⟩
        · have h6i : ¬ (6 : Int) < (ln : Int) := by omega
          have HREV : Hid (r = if (Pp.other s.chs.length l 0 (-1)).2 ≠ 0 then ⟨s, 0, 0, [], false, (Pp.other s.chs.length l 0 (-1)).2⟩ else
              if 0 < (frees s.chs l 0).length then
                (let k := (frees s.chs l 0).getD (drawn draw (frees s.chs l 0).length) 0
                let g := doT s (l.getD k ⟨0, 0, 0⟩)
                if g.err ≠ 0 then ⟨g.st, 0, 0, [], false, g.err⟩ else ⟨g.st, (k : Nat), g.n, g.wakes, false, 0⟩)
              else if 0 ≤ (Pp.other s.chs.length l 0 (-1)).1 then ⟨s, (Pp.other s.chs.length l 0 (-1)).1, 0, [], false, 0⟩
              else ⟨Pp.wait s task l, 0, 0, [], true, 0⟩) := Lib.hid (by
            rw [← HR.out]; unfold Pp.talk; rw [if_neg (by rw [HRW.out]; decide), if_neg (by rw [← HLN.out]; exact h6)])
          have hm32 : s.chs.length ≤ 32 := HH.out.ok.many
          have HJ0 : Hid (RTalkJ w w1 wr s l 0 (-1) [] (.slice none 0 0)) := Lib.hid ⟨RTalkI.of HW1.out HB.out, ownI_nil _ _, rfl, rfl, Nat.le_refl _, by decide⟩
          go_wp2_with fail
          go_loopw [14, 15, 46] (fun mv ov kv wx => ∃ (k : Nat) (o : Int) (ks : List Nat), k ≤ ln ∧ kv = .int .i64 k ∧ ov = .int .i64 o ∧ RTalkJ w w1 wx s l k o ks mv) (fun _ _ kv _ => ln - (intOf kv).toNat)
          case atStart => exact ⟨0, -1, [], Nat.zero_le _, rfl, rfl, HJ0.out⟩
          case round =>
            obtain ⟨k, o, ks, hk, rfl, rfl, hJ⟩ := hrel
            rename World => wx
            obtain ⟨am, cm, hmv⟩ := hJ.own.slice
            rw [List.length_map] at hmv
            subst hmv
            have HJ := Lib.hid hJ
            have hkl := hJ.len
            have hlo := hJ.lo
            clear hJ HJ0
            by_cases hkn : k < ln
            · obtain ⟨⟨tw, tc, tn⟩, ht⟩ : ∃ t, l[k]? = some t := ⟨_, List.getElem?_eq_getElem (by rw [← HLN.out]; exact hkn)⟩
              have htk : TalksAt wx (.slice ao ln cap) l := HT1.out.keeps (Keeps.of_new (S := fun _ => False) HJ.out.i.bel) fun _ _ => id
              obtain ⟨b, ob, rfl, hb, d1, d2, d3⟩ := htk.at ht
              simp only at d1 d2 d3
              have hki : (0 : Int) ≤ (k : Int) ∧ (k : Int) < (ln : Int) := by omega
              have HOT := Lib.hid (other_at (m := s.chs.length) (o := o) ht)
              have HFT := Lib.hid (frees_at (chs := s.chs) ht)
              have HT := Lib.hid ht
              simp only at HOT
              have q0 : (wx.alloc (.cells #[.int .i64 tw, .int .i64 tc, .int .i64 tn] 85)).cell? ⟨wx.heap.size, 0, none⟩ = some (.int .i64 tw) := by rw [World.cell?_alloc_at _ _ _ _ rfl]; rfl
              have q1 : (wx.alloc (.cells #[.int .i64 tw, .int .i64 tc, .int .i64 tn] 85)).cell? ⟨wx.heap.size, 1, none⟩ = some (.int .i64 tc) := by rw [World.cell?_alloc_at _ _ _ _ rfl]; rfl
              have q2 : (wx.alloc (.cells #[.int .i64 tw, .int .i64 tc, .int .i64 tn] 85)).cell? ⟨wx.heap.size, 2, none⟩ = some (.int .i64 tn) := by rw [World.cell?_alloc_at _ _ _ _ rfl]; rfl
              have hby : Below w1.heap.size w1 (wx.alloc (.cells #[.int .i64 tw, .int .i64 tc, .int .i64 tn] 85)) := HJ.out.i.bel.alloc HJ.out.i.bel.size _
              have hity := RTalkI.of HW1.out hby
              have HIY := Lib.hid hity
              have HOY := Lib.hid (HJ.out.own.keeps (alloc_new wx (.cells #[.int .i64 tw, .int .i64 tc, .int .i64 tn] 85)) fun _ _ => id)
              have t0 := hity.c0
              have t1 := hity.c1
              have f0 := hity.z0
              have f1 := hity.z1
              have hks : ks.length ≤ 1000 := by omega
              clear htk ht hb hby hity
              by_cases h40 : tw = 40
              · subst h40
                by_cases ho : 0 ≤ o
                · have hre : r = ⟨s, 0, 0, [], false, 9⟩ := by
                    have h2 : Pp.other s.chs.length l 0 (-1) = (-1, 9) := by rw [HJ.out.other, HOT.out, if_pos rfl, if_pos ho]
                    rw [HREV.out, h2]
                    simp
                  subst hre
                  have ho1 : decide (0 ≤ o) = true := decide_eq_true ho
                  go_upto_region 26 with fail
                  generalize wx.alloc (.cells #[.int .i64 40, .int .i64 tc, .int .i64 tn] 85) = wy at *
                  obtain ⟨e0, e1, hkz⟩ := set2 (W := wy) (r := w.heap.size) t0 t1 (.int .i64 0) (.int .i64 0)
                  have HKZ := Lib.hid hkz
                  clear hkz
                  go_wp2_with fail
                  refine bodyPost_ret (v := .tuple #[.agg #[.int .i64 0, .int .i64 0], .slice none 0 0, .bool false, .int .i64 9]) (by simp [results, Tryd.results8, go_sem, e0, e1] <;> rfl) rfl ?_
                  exact ⟨_, rfl, HNONE.out _ _ HIY.out HKZ.out _ rfl rfl⟩
                · have ho1 : decide (0 ≤ o) = false := decide_eq_false ho
                  have HJN : Hid (RTalkJ w w1 (wx.alloc (.cells #[.int .i64 40, .int .i64 tc, .int .i64 tn] 85)) s l (k + 1) (k : Int) ks (.slice am ks.length cm)) := Lib.hid ⟨HIY.out, HOY.out, by rw [HJ.out.other, HOT.out, if_pos rfl, if_neg ho], by rw [HJ.out.frees, HFT.out, if_neg (by simp [isFree])], by omega, by omega⟩
                  go_wp2_with fail
                  go_roundw
                  case rel => exact ⟨k + 1, _, ks, by omega, by go_num, rfl, HJN.out⟩
                  case measure => simp [intOf]; omega
              · have n40 : (tw == 40) = false := by rw [beq_eq_false_iff_ne]; exact h40
                have n40d : decide (tw = 40) = false := decide_eq_false h40
                by_cases h310 : tw ≠ 3 ∧ tw ≠ 10
                · have hre : r = ⟨s, 0, 0, [], false, 1⟩ := by
                    have h2 : Pp.other s.chs.length l 0 (-1) = (-1, 1) := by rw [HJ.out.other, HOT.out, if_neg h40, if_pos h310]
                    rw [HREV.out, h2]
                    simp
                  subst hre
                  have n3 : (tw == 3) = false := by rw [beq_eq_false_iff_ne]; exact h310.1
                  have n10 : (tw == 10) = false := by rw [beq_eq_false_iff_ne]; exact h310.2
                  have n3' : (tw != 3) = true := by simp [h310.1]
                  have n10' : (tw != 10) = true := by simp [h310.2]
                  clear h310
                  go_upto_region 26 with fail
                  generalize wx.alloc (.cells #[.int .i64 tw, .int .i64 tc, .int .i64 tn] 85) = wy at *
                  obtain ⟨e0, e1, hkz⟩ := set2 (W := wy) (r := w.heap.size) t0 t1 (.int .i64 0) (.int .i64 0)
                  have HKZ := Lib.hid hkz
                  clear hkz
                  go_wp2_with fail
                  refine bodyPost_ret (v := .tuple #[.agg #[.int .i64 0, .int .i64 0], .slice none 0 0, .bool false, .int .i64 1]) (by simp [results, Tryd.results8, go_sem, e0, e1] <;> rfl) rfl ?_
                  exact ⟨_, rfl, HNONE.out _ _ HIY.out HKZ.out _ rfl rfl⟩
                · have htw : tw = 3 ∨ tw = 10 := by omega
                  clear h310
                  rcases htw with rfl | rfl
                  · have HY0 : Hid (RefsAt (wx.alloc (.cells #[.int .i64 3, .int .i64 tc, .int .i64 tn] 85)) σ rb vl0 ptr (.slice av i capv) us s ws) := Lib.hid (HH1.out.keeps (Keeps.of_new (S := fun _ => False) HIY.out.bel) fun _ _ e => e.elim)
                    have g0 := HY0.out.c0
                    obtain ⟨av0, cap0, hv0, -⟩ := HY0.out.vls
                    rw [hv0] at g0
                    have HQW : Hid (∀ W : World, (∃ m, W = (wx.alloc (.cells #[.int .i64 3, .int .i64 tc, .int .i64 tn] 85)).drewN m) → Calls Tryd.prog 25 #[.int .i64 tc, .int .i64 0, .int .i64 (s.chs.length : Nat)] W fun e w' => e = .returned (.bool (may s.chs.length tc)) ∧ ∃ n, w' = W.drewN n) :=
                      Lib.hid fun W ⟨m, hW⟩ => (withinP_any W tc 0 s.chs.length).mono fun _ _ ⟨e1, e2⟩ => ⟨e1, 0, e2 ▸ rfl⟩
                    cases hmy : may s.chs.length tc with
                    | false =>
                      have hre : r = ⟨s, 0, 0, [], false, 2⟩ := by
                        have h2 : Pp.other s.chs.length l 0 (-1) = (-1, 2) := by rw [HJ.out.other, HOT.out, if_neg (by decide), if_neg (by decide), if_pos hmy]
                        rw [HREV.out, h2]
                        simp
                      subst hre
                      rw [hmy] at HQW
                      clear hmy
                      generalize s.chs.length = mm at *
                      go_upto_region 21 with fail
                      go_quiet ((go_at_call 25; exact Calls.quiet_of (HQW.out _ ⟨_, rfl⟩)))
                      have HIQ := Lib.hid (RTalkI.of HW1.out (HIY.out.bel.trans ((below_drewN (wx.alloc (.cells #[.int .i64 3, .int .i64 tc, .int .i64 tn] 85)) nq).mono HIY.out.bel.size)))
                      have t0 := HIQ.out.c0
                      have t1 := HIQ.out.c1
                      have f0 := HIQ.out.z0
                      have f1 := HIQ.out.z1
                      generalize (wx.alloc (.cells #[.int .i64 3, .int .i64 tc, .int .i64 tn] 85)).drewN nq = wy at *
                      obtain ⟨e0, e1, hkz⟩ := set2 (W := wy) (r := w.heap.size) t0 t1 (.int .i64 0) (.int .i64 0)
                      have HKZ := Lib.hid hkz
                      clear hkz
                      go_wp2_with fail
                      refine bodyPost_ret (v := .tuple #[.agg #[.int .i64 0, .int .i64 0], .slice none 0 0, .bool false, .int .i64 2]) (by simp [results, Tryd.results8, go_sem, e0, e1] <;> rfl) rfl ?_
                      exact ⟨_, rfl, HNONE.out _ _ HIQ.out HKZ.out _ rfl rfl⟩
                    | true =>
                      rw [hmy] at HQW
                      have HGD : Hid (Tk.good s.chs.length ⟨3, tc, tn⟩) := Lib.hid ⟨by unfold may at hmy; simpa using hmy, by first | exact Or.inl rfl | exact Or.inr rfl⟩
                      have HOT2 : Hid (Pp.other s.chs.length l 0 (-1) = Pp.other s.chs.length (l.drop (k + 1)) (k + 1) o) := Lib.hid (by rw [HJ.out.other, HOT.out, if_neg (by decide), if_neg (by decide), if_neg (by rw [hmy]; decide)])
                      clear hmy
                      obtain ⟨mm, hmm⟩ : ∃ mm, mm = s.chs.length := ⟨_, rfl⟩
                      rw [← hmm] at g0 HQW hm32
                      clear hmm
                      go_upto_region 21 with fail
                      go_quiet ((go_at_call 25; exact Calls.quiet_of (HQW.out _ ⟨_, rfl⟩)))
                      have HIQ := Lib.hid (RTalkI.of HW1.out (HIY.out.bel.trans ((below_drewN (wx.alloc (.cells #[.int .i64 3, .int .i64 tc, .int .i64 tn] 85)) nq).mono HIY.out.bel.size)))
                      have HYQ : Hid (RefsAt ((wx.alloc (.cells #[.int .i64 3, .int .i64 tc, .int .i64 tn] 85)).drewN nq) σ rb vl0 ptr (.slice av i capv) us s ws) := Lib.hid (HH1.out.keeps (Keeps.of_new (S := fun _ => False) HIQ.out.bel) fun _ _ e => e.elim)
                      have HOQ : Hid (OwnI ((wx.alloc (.cells #[.int .i64 3, .int .i64 tc, .int .i64 tn] 85)).drewN nq) w1.heap.size (.slice am ks.length cm) (ks.map fun (j : Nat) => (j : Int))) := Lib.hid HOY.out
                      have b0 : ((wx.alloc (.cells #[.int .i64 3, .int .i64 tc, .int .i64 tn] 85)).drewN nq).cell? ⟨wx.heap.size, 0, none⟩ = some (.int .i64 3) := q0
                      have b1 : ((wx.alloc (.cells #[.int .i64 3, .int .i64 tc, .int .i64 tn] 85)).drewN nq).cell? ⟨wx.heap.size, 1, none⟩ = some (.int .i64 tc) := q1
                      have b2 : ((wx.alloc (.cells #[.int .i64 3, .int .i64 tc, .int .i64 tn] 85)).drewN nq).cell? ⟨wx.heap.size, 2, none⟩ = some (.int .i64 tn) := q2
                      have HFR := Lib.hid (rfree_any HYQ.out (by rw [← HNW.out]; omega) ⟨3, tc, tn⟩ HGD.out)
                      simp only at HFR
                      clear q0 q1 q2 g0 t0 t1 f0 f1
                      generalize (wx.alloc (.cells #[.int .i64 3, .int .i64 tc, .int .i64 tn] 85)).drewN nq = wy at *
                      go_wp2_with fail
                      refine HFR.out.mono ?_
                      rintro e wz ⟨rfl, hbz⟩
                      have HBZ : Hid (Below w1.heap.size w1 wz) := Lib.hid (bel_step HIQ.out.bel hbz)
                      have HOZ : Hid (OwnI wz w1.heap.size (.slice am ks.length cm) (ks.map fun (j : Nat) => (j : Int))) := Lib.hid (HOQ.out.keeps (Keeps.of_new (S := fun _ => False) hbz) fun _ _ => id)
                      clear hbz
                      cases hfr : isFree s.chs ⟨3, tc, tn⟩ with
                      | true =>
                        have HFT2 : Hid (Pp.frees s.chs l 0 = (ks ++ [k]) ++ Pp.frees s.chs (l.drop (k + 1)) (k + 1)) := Lib.hid (by rw [HJ.out.frees, HFT.out, if_pos hfr]; simp)
                        clear hfr
                        have HBS : Hid (w1.heap.size ≤ wz.heap.size) := Lib.hid HBZ.out.size
                        go_wp2_with (at_builtin; go_loud (refine wpList_appendI rfl _ _ rfl wz w1.heap.size _ (ks.map fun (j : Nat) => (j : Int)) (k : Int) HOZ.out rfl rfl (by rw [List.length_map]; omega) HBS.out ?_; intro a6 c6 w6 hO6 hK6 hN6; have HO6 := Lib.hid hO6; have HK6 := Lib.hid hK6; clear hO6 hK6 hN6))
                        have h6 := HO6.out
                        rw [List.length_map] at h6
                        have HJN : Hid (RTalkJ w w1 w6 s l (k + 1) o (ks ++ [k]) (.slice a6 (ks.length + 1) c6)) := Lib.hid ⟨RTalkI.of HW1.out (HBZ.out.trans (HK6.out.below HBZ.out.size fun b _ e => (World.ownsRow.lt HOZ.out b e).1)), by rw [List.map_append]; exact h6, HOT2.out, HFT2.out, by rw [List.length_append, List.length_singleton]; omega, by omega⟩
                        clear h6
                        go_roundw
                        case rel => exact ⟨k + 1, _, _, by omega, by go_num, rfl, by simpa using HJN.out⟩
                        case measure => simp [intOf]; omega
                      | false =>
                        have HFT2 : Hid (Pp.frees s.chs l 0 = ks ++ Pp.frees s.chs (l.drop (k + 1)) (k + 1)) := Lib.hid (by rw [HJ.out.frees, HFT.out, if_neg (by rw [hfr]; decide)])
                        clear hfr
                        have HJN : Hid (RTalkJ w w1 wz s l (k + 1) o ks (.slice am ks.length cm)) := Lib.hid ⟨RTalkI.of HW1.out HBZ.out, HOZ.out, HOT2.out, HFT2.out, by omega, by omega⟩
                        go_wp2_with fail
                        go_roundw
                        case rel => exact ⟨k + 1, _, _, by omega, by go_num, rfl, HJN.out⟩
                        case measure => simp [intOf]; omega
                  · have HY0 : Hid (RefsAt (wx.alloc (.cells #[.int .i64 10, .int .i64 tc, .int .i64 tn] 85)) σ rb vl0 ptr (.slice av i capv) us s ws) := Lib.hid (HH1.out.keeps (Keeps.of_new (S := fun _ => False) HIY.out.bel) fun _ _ e => e.elim)
                    have g0 := HY0.out.c0
                    obtain ⟨av0, cap0, hv0, -⟩ := HY0.out.vls
                    rw [hv0] at g0
                    have HQW : Hid (∀ W : World, (∃ m, W = (wx.alloc (.cells #[.int .i64 10, .int .i64 tc, .int .i64 tn] 85)).drewN m) → Calls Tryd.prog 25 #[.int .i64 tc, .int .i64 0, .int .i64 (s.chs.length : Nat)] W fun e w' => e = .returned (.bool (may s.chs.length tc)) ∧ ∃ n, w' = W.drewN n) :=
                      Lib.hid fun W ⟨m, hW⟩ => (withinP_any W tc 0 s.chs.length).mono fun _ _ ⟨e1, e2⟩ => ⟨e1, 0, e2 ▸ rfl⟩
                    cases hmy : may s.chs.length tc with
                    | false =>
                      have hre : r = ⟨s, 0, 0, [], false, 2⟩ := by
                        have h2 : Pp.other s.chs.length l 0 (-1) = (-1, 2) := by rw [HJ.out.other, HOT.out, if_neg (by decide), if_neg (by decide), if_pos hmy]
                        rw [HREV.out, h2]
                        simp
                      subst hre
                      rw [hmy] at HQW
                      clear hmy
                      generalize s.chs.length = mm at *
                      go_upto_region 21 with fail
                      go_quiet ((go_at_call 25; exact Calls.quiet_of (HQW.out _ ⟨_, rfl⟩)))
                      have HIQ := Lib.hid (RTalkI.of HW1.out (HIY.out.bel.trans ((below_drewN (wx.alloc (.cells #[.int .i64 10, .int .i64 tc, .int .i64 tn] 85)) nq).mono HIY.out.bel.size)))
                      have t0 := HIQ.out.c0
                      have t1 := HIQ.out.c1
                      have f0 := HIQ.out.z0
                      have f1 := HIQ.out.z1
                      generalize (wx.alloc (.cells #[.int .i64 10, .int .i64 tc, .int .i64 tn] 85)).drewN nq = wy at *
                      obtain ⟨e0, e1, hkz⟩ := set2 (W := wy) (r := w.heap.size) t0 t1 (.int .i64 0) (.int .i64 0)
                      have HKZ := Lib.hid hkz
                      clear hkz
                      go_wp2_with fail
                      refine bodyPost_ret (v := .tuple #[.agg #[.int .i64 0, .int .i64 0], .slice none 0 0, .bool false, .int .i64 2]) (by simp [results, Tryd.results8, go_sem, e0, e1] <;> rfl) rfl ?_
                      exact ⟨_, rfl, HNONE.out _ _ HIQ.out HKZ.out _ rfl rfl⟩
                    | true =>
                      rw [hmy] at HQW
                      have HGD : Hid (Tk.good s.chs.length ⟨10, tc, tn⟩) := Lib.hid ⟨by unfold may at hmy; simpa using hmy, by first | exact Or.inl rfl | exact Or.inr rfl⟩
                      have HOT2 : Hid (Pp.other s.chs.length l 0 (-1) = Pp.other s.chs.length (l.drop (k + 1)) (k + 1) o) := Lib.hid (by rw [HJ.out.other, HOT.out, if_neg (by decide), if_neg (by decide), if_neg (by rw [hmy]; decide)])
                      clear hmy
                      obtain ⟨mm, hmm⟩ : ∃ mm, mm = s.chs.length := ⟨_, rfl⟩
                      rw [← hmm] at g0 HQW hm32
                      clear hmm
                      go_upto_region 21 with fail
                      go_quiet ((go_at_call 25; exact Calls.quiet_of (HQW.out _ ⟨_, rfl⟩)))
                      have HIQ := Lib.hid (RTalkI.of HW1.out (HIY.out.bel.trans ((below_drewN (wx.alloc (.cells #[.int .i64 10, .int .i64 tc, .int .i64 tn] 85)) nq).mono HIY.out.bel.size)))
                      have HYQ : Hid (RefsAt ((wx.alloc (.cells #[.int .i64 10, .int .i64 tc, .int .i64 tn] 85)).drewN nq) σ rb vl0 ptr (.slice av i capv) us s ws) := Lib.hid (HH1.out.keeps (Keeps.of_new (S := fun _ => False) HIQ.out.bel) fun _ _ e => e.elim)
                      have HOQ : Hid (OwnI ((wx.alloc (.cells #[.int .i64 10, .int .i64 tc, .int .i64 tn] 85)).drewN nq) w1.heap.size (.slice am ks.length cm) (ks.map fun (j : Nat) => (j : Int))) := Lib.hid HOY.out
                      have b0 : ((wx.alloc (.cells #[.int .i64 10, .int .i64 tc, .int .i64 tn] 85)).drewN nq).cell? ⟨wx.heap.size, 0, none⟩ = some (.int .i64 10) := q0
                      have b1 : ((wx.alloc (.cells #[.int .i64 10, .int .i64 tc, .int .i64 tn] 85)).drewN nq).cell? ⟨wx.heap.size, 1, none⟩ = some (.int .i64 tc) := q1
                      have b2 : ((wx.alloc (.cells #[.int .i64 10, .int .i64 tc, .int .i64 tn] 85)).drewN nq).cell? ⟨wx.heap.size, 2, none⟩ = some (.int .i64 tn) := q2
                      have HFR := Lib.hid (rfree_any HYQ.out (by rw [← HNW.out]; omega) ⟨10, tc, tn⟩ HGD.out)
                      simp only at HFR
                      clear q0 q1 q2 g0 t0 t1 f0 f1
                      generalize (wx.alloc (.cells #[.int .i64 10, .int .i64 tc, .int .i64 tn] 85)).drewN nq = wy at *
                      go_wp2_with fail
                      refine HFR.out.mono ?_
                      rintro e wz ⟨rfl, hbz⟩
                      have HBZ : Hid (Below w1.heap.size w1 wz) := Lib.hid (bel_step HIQ.out.bel hbz)
                      have HOZ : Hid (OwnI wz w1.heap.size (.slice am ks.length cm) (ks.map fun (j : Nat) => (j : Int))) := Lib.hid (HOQ.out.keeps (Keeps.of_new (S := fun _ => False) hbz) fun _ _ => id)
                      clear hbz
                      cases hfr : isFree s.chs ⟨10, tc, tn⟩ with
                      | true =>
                        have HFT2 : Hid (Pp.frees s.chs l 0 = (ks ++ [k]) ++ Pp.frees s.chs (l.drop (k + 1)) (k + 1)) := Lib.hid (by rw [HJ.out.frees, HFT.out, if_pos hfr]; simp)
                        clear hfr
                        have HBS : Hid (w1.heap.size ≤ wz.heap.size) := Lib.hid HBZ.out.size
                        go_wp2_with (at_builtin; go_loud (refine wpList_appendI rfl _ _ rfl wz w1.heap.size _ (ks.map fun (j : Nat) => (j : Int)) (k : Int) HOZ.out rfl rfl (by rw [List.length_map]; omega) HBS.out ?_; intro a6 c6 w6 hO6 hK6 hN6; have HO6 := Lib.hid hO6; have HK6 := Lib.hid hK6; clear hO6 hK6 hN6))
                        have h6 := HO6.out
                        rw [List.length_map] at h6
                        have HJN : Hid (RTalkJ w w1 w6 s l (k + 1) o (ks ++ [k]) (.slice a6 (ks.length + 1) c6)) := Lib.hid ⟨RTalkI.of HW1.out (HBZ.out.trans (HK6.out.below HBZ.out.size fun b _ e => (World.ownsRow.lt HOZ.out b e).1)), by rw [List.map_append]; exact h6, HOT2.out, HFT2.out, by rw [List.length_append, List.length_singleton]; omega, by omega⟩
                        clear h6
                        go_roundw
                        case rel => exact ⟨k + 1, _, _, by omega, by go_num, rfl, by simpa using HJN.out⟩
                        case measure => simp [intOf]; omega
                      | false =>
                        have HFT2 : Hid (Pp.frees s.chs l 0 = ks ++ Pp.frees s.chs (l.drop (k + 1)) (k + 1)) := Lib.hid (by rw [HJ.out.frees, HFT.out, if_neg (by rw [hfr]; decide)])
                        clear hfr
                        have HJN : Hid (RTalkJ w w1 wz s l (k + 1) o ks (.slice am ks.length cm)) := Lib.hid ⟨RTalkI.of HW1.out HBZ.out, HOZ.out, HOT2.out, HFT2.out, by omega, by omega⟩
                        go_wp2_with fail
                        go_roundw
                        case rel => exact ⟨k + 1, _, _, by omega, by go_num, rfl, HJN.out⟩
                        case measure => simp [intOf]; omega
            · obtain rfl : k = ln := by omega
              have hkk : ¬ (k : Int) < (k : Int) := by omega
              have HOTH : Hid (Pp.other s.chs.length l 0 (-1) = (o, 0)) := Lib.hid (by
                have h1 := HJ.out.other
                rw [HLN.out, List.drop_length] at h1
                exact h1)
              have HFRE : Hid (frees s.chs l 0 = ks) := Lib.hid (by
                have h1 := HJ.out.frees
                rw [HLN.out, List.drop_length] at h1
                rw [h1]
                simp [Pp.frees])
              have HRV : Hid (r = if 0 < ks.length then
                  (let k := ks.getD (drawn draw ks.length) 0
                  let g := doT s (l.getD k ⟨0, 0, 0⟩)
                  if g.err ≠ 0 then ⟨g.st, 0, 0, [], false, g.err⟩ else ⟨g.st, (k : Nat), g.n, g.wakes, false, 0⟩)
                else if 0 ≤ o then ⟨s, o, 0, [], false, 0⟩
                else ⟨Pp.wait s task l, 0, 0, [], true, 0⟩) := Lib.hid (by
                have h1 := HREV.out
                rw [HOTH.out, HFRE.out, if_neg (by simp)] at h1
                exact h1)
              have HFINE := Lib.hid (other_fine (m := s.chs.length) (l := l) (k := 0) (o := -1) (by rw [HOTH.out]))
              have HGOOD : Hid (o < 0 → ∀ x ∈ l, x.good s.chs.length) := Lib.hid fun ho => other_good (m := s.chs.length) (l := l) (k := 0) (o := -1) (by rw [HOTH.out]) (by rw [HOTH.out]; exact ho) (by decide)
              have HIX := Lib.hid HJ.out.i
              have HHX := Lib.hid (HH1.out.keeps (Keeps.of_new (S := fun _ => False) HIX.out.bel) fun _ _ e => e.elim)
              have HTX := Lib.hid (HT1.out.keeps (Keeps.of_new (S := fun _ => False) HIX.out.bel) fun _ _ => id)
              have t0 := HIX.out.c0
              have t1 := HIX.out.c1
              have f0 := HIX.out.z0
              have f1 := HIX.out.z1
              have HOWN := Lib.hid HJ.out.own
              obtain ⟨q, hq⟩ : ∃ q, q = ks.length := ⟨_, rfl⟩
              have HQ := Lib.hid hq
              rw [← hq] at hkl HOWN ⊢
              clear hq
              by_cases hq0 : q = 0
              · have hks : ks = [] := List.eq_nil_of_length_eq_zero (by rw [← HQ.out]; exact hq0)
                have HRV2 : Hid (r = if 0 ≤ o then ⟨s, o, 0, [], false, 0⟩ else ⟨Pp.wait s task l, 0, 0, [], true, 0⟩) := Lib.hid (by
                  have h1 := HRV.out
                  rw [hks] at h1
                  exact h1)
                subst hq0
                clear hks
                by_cases ho : 0 ≤ o
                · have hre : r = ⟨s, o, 0, [], false, 0⟩ := by rw [HRV2.out, if_pos ho]
                  subst hre
                  have ho1 : decide (o < 0) = false := decide_eq_false (by omega)
                  have ho2 : ¬ o < 0 := by omega
                  obtain ⟨e0, e1, hkz⟩ := set2 (W := wx) (r := w.heap.size) t0 t1 (.int .i64 o) (.int .i64 0)
                  have HKZ := Lib.hid hkz
                  clear hkz
                  go_wp2_with fail
                  refine bodyPost_ret (v := .tuple #[.agg #[.int .i64 o, .int .i64 0], .slice none 0 0, .bool false, .int .i64 0]) (by simp [results, Tryd.results8, go_sem, e0, e1] <;> rfl) rfl ?_
                  exact ⟨_, rfl, HNONE.out _ _ HIX.out HKZ.out _ rfl rfl⟩
                · have hre : r = ⟨Pp.wait s task l, 0, 0, [], true, 0⟩ := by rw [HRV2.out, if_neg ho]
                  subst hre
                  have ho1 : decide (o < 0) = true := decide_eq_true (by omega)
                  have ho2 : o < 0 := by omega
                  have HGD := Lib.hid (HGOOD.out ho2)
                  have c1x := HHX.out.c1
                  have z1x := HHX.out.z 1
                  have HRBL : Hid (rb < wx.heap.size) := Lib.hid HHX.out.lt
                  have HUL : Hid (us.length = i) := Lib.hid (by rw [HNW.out]; exact HH.out.wts.1)
                  have HTXD : Hid (TalksAt wx.drew (.slice ao k cap) l) := Lib.hid (HTX.out.keeps (Keeps.of_new (S := fun _ => False) (Below.drew (Below.refl _ wx))) fun _ _ => id)
                  have HUS : Hid (∀ W, Below wx.heap.size wx W → W.ownsRow 0 83 2 (.slice av i capv) us.length (cellsU us)) := Lib.hid fun W hW => (Keeps.of_new (S := fun _ => False) hW).row HHX.out.wrow fun _ _ => id
                  have hlen1 : us.length ≤ 100000000 := by have := HUL.out; omega
                  have hlen2 : l.length ≤ 1000000 := by have := HLN.out; omega
                  have hrb1 : ∀ W : World, Keeps (fun b => (Value.slice av i capv).ownBlock = some b) wx W → W.cell? ⟨rb, 1, none⟩ = some (.slice av i capv) ∧ W.frozen? ⟨rb, 1, none⟩ = false := fun W hW => by
                    have hne : ¬ (Value.slice av i capv).ownBlock = some rb := fun e => by
                      have h1 := HHX.out.p2 rb e
                      rw [HHX.out.p0] at h1
                      cases h1
                    exact ⟨hW.cell_of c1x hne, by rw [hW.frozen (p := ⟨rb, 1, none⟩) HRBL.out hne]; exact z1x⟩
                  have HRB1 := Lib.hid hrb1
                  clear hrb1
                  go_upto_region 29 with fail
                  go_region_law (first
                    | (refine step_appendTk rfl (.tmp 109) rfl _ l HTXD.out hlen2 (by simp [Act.eval, Act.put]) ?_; intro a7 k7 w7 ho7 hb7; have HO7 := Lib.hid ho7; have HB7 : Hid (Below wx.heap.size wx w7) := Lib.hid (bel_step' (Below.refl _ _) hb7); obtain ⟨c17, z17⟩ := HRB1.out w7 (Keeps.of_new HB7.out); have c18 := Go.Lib.cell?_alloc_some (.cells #[.int .i64 task, .slice a7 l.length k7] 83) c17; clear ho7 hb7)
                    | (refine step_appendU rfl (.tmp 107) (.tmp 112) rfl 0 _ us task (HUS.out w7 HB7.out) rfl hlen1 (Nat.zero_le _) (by simp [Act.eval]) (by simp [Act.eval]) ?_; intro a9 k9 w9 ho9 hk9 hn9; have HO9 := Lib.hid ho9; have HK9 := Lib.hid hk9; have HN9 := Lib.hid hn9; obtain ⟨c19, z19⟩ := HRB1.out w9 ((Keeps.of_new HB7.out).trans hk9); clear ho9 hk9 hn9))
                  all_goals
                    have hws := HHX.out.waitS HNA.out HGD.out (by rw [← HLN.out]; omega) (B := wx.drew.heap.size) (Nat.le_refl _) HB7.out HO7.out HO9.out HK9.out HN9.out
                    rw [List.length_append, List.length_singleton] at hws
                    obtain ⟨hx9, hkk9⟩ := hws
                    have HX9 := Lib.hid hx9
                    have HKK9 := Lib.hid hkk9
                    have hfree : σ w.heap.size = .free := Classical.byContradiction fun e => by have := HH.out.dom _ e; omega
                    have hlw : w.heap.size < wx.heap.size := by have := HIX.out.bel.size; have := HS1.out; omega
                    have t0' := hkk9.cell_of t0 fun e => e hfree
                    have t1' := hkk9.cell_of t1 fun e => e hfree
                    have f0' : (w9.setCell ⟨rb, 1, none⟩ (.slice a9 (us.length + 1) k9)).frozen? ⟨w.heap.size, 0, none⟩ = false := by rw [hkk9.frozen (p := ⟨w.heap.size, 0, none⟩) hlw fun e => e hfree]; exact f0
                    have f1' : (w9.setCell ⟨rb, 1, none⟩ (.slice a9 (us.length + 1) k9)).frozen? ⟨w.heap.size, 1, none⟩ = false := by rw [hkk9.frozen (p := ⟨w.heap.size, 1, none⟩) hlw fun e => e hfree]; exact f1
                    clear hx9 hkk9 t0 t1 f0 f1 c1x z1x c17 z17 c18 c19 z19
                    generalize w9.setCell ⟨rb, 1, none⟩ (.slice a9 (us.length + 1) k9) = wz at *
                    obtain ⟨e0, e1, hkz⟩ := set2 (W := wz) (r := w.heap.size) t0' t1' (.int .i64 0) (.int .i64 0)
                    have HKZ := Lib.hid hkz
                    clear hkz
                    go_wp2_with fail
                    refine bodyPost_ret (v := .tuple #[.agg #[.int .i64 0, .int .i64 0], .slice none 0 0, .bool true, .int .i64 0]) (by simp [results, Tryd.results8, go_sem, e0, e1] <;> rfl) rfl ?_
                    exact ⟨_, rfl, RTalkP.of HH.out HIX.out HW1.out (ws' := ws ++ [(task, l)]) HX9.out (by simp) HKK9.out HKZ.out (World.ownsRow_nil _ _ _ _)⟩
              · have hq1 : 0 < q := by omega
                have hdq : drawn draw q < q := by
                  unfold drawn
                  have h1 := Int.emod_lt_of_pos draw (show (0 : Int) < (q : Int) by omega)
                  have h2 := Int.emod_nonneg draw (show (q : Int) ≠ 0 by omega)
                  omega
                have HMO := Lib.hid (rmodulo_any wx draw q hq1 HD.out (by omega))
                obtain ⟨dd, hdd⟩ : ∃ dd, dd = drawn draw q := ⟨_, rfl⟩
                rw [← hdd] at hdq HMO
                have hks0 : ks[dd]? = some (ks.getD dd 0) := by
                  rw [List.getD_eq_getElem?_getD, List.getElem?_eq_getElem (by rw [← HQ.out]; exact hdq)]
                  rfl
                obtain ⟨kk, hkk0⟩ : ∃ kk, kk = ks.getD dd 0 := ⟨_, rfl⟩
                rw [← hkk0] at hks0
                obtain ⟨-, x, hx, hfr⟩ := mem_frees (chs := s.chs) (l := l) (i := 0) (k := kk) (by rw [HFRE.out]; exact List.mem_of_getElem? hks0)
                rw [Nat.sub_zero] at hx
                have hgx : x.good s.chs.length := by
                  rcases HFINE.out x (List.mem_of_getElem? hx) with h1 | h1
                  · unfold isFree at hfr
                    rw [h1] at hfr
                    simp at hfr
                  · exact h1
                have HRW2 : Hid (r = (let g := doT s x
                    if g.err ≠ 0 then ⟨g.st, 0, 0, [], false, g.err⟩ else ⟨g.st, (kk : Nat), g.n, g.wakes, false, 0⟩)) := Lib.hid (by
                  have h1 := HRV.out
                  rw [if_pos (by rw [← HQ.out]; exact hq1)] at h1
                  rw [h1]
                  simp only [← HQ.out, ← hdd, ← hkk0]
                  rw [List.getD_eq_getElem?_getD, hx]
                  rfl)
                obtain ⟨c0, ch, hc0, hch, -, -⟩ := isFree_chan hfr hgx.1.1
                obtain ⟨gm, rfl, hmc⟩ : ∃ gm, am = some ⟨gm, 0, none⟩ ∧ wx.cell? ⟨gm, dd, none⟩ = some (.int .i64 (kk : Int)) := by
                  have hc := HOWN.out
                  rcases HOWN.out.2 with ⟨h1, h0⟩ | ⟨g, cap', cur, hv, hb, hg, h3, h4, h5, h6⟩
                  · rw [List.length_map, ← HQ.out] at h0
                    omega
                  · rw [Value.slice.injEq] at hv
                    obtain ⟨rfl, -, rfl⟩ := hv
                    have f := World.ownsRow.cells hc (g := g) rfl dd (.int .i64 (kk : Int)) (by simp [hks0])
                    rw [addr_addP, Nat.zero_add] at f
                    exact ⟨g, rfl, f⟩
                obtain ⟨b, ob, rfl, hbw, -, -, -⟩ := HTA.out.at hx
                obtain ⟨b2, ob2, hbe, hb, d0, d1, d2⟩ := HTX.out.at hx
                obtain ⟨rfl, rfl⟩ : b = b2 ∧ ob = ob2 := by simpa using hbe
                have HBWW := Lib.hid hbw
                obtain ⟨g, cap', cb, v, hvl, hgl, hcap, hcb, j1, hrch⟩ := HHX.out.at hch
                subst hvl
                obtain ⟨av1, cv1, rfl⟩ := hrch.nums.slice
                have j0 := HHX.out.c0
                obtain ⟨xw, xc, xn⟩ := x
                simp only at hc0 d0 d1 d2
                subst hc0
                have hxw : xw = 3 ∨ xw = 10 := hgx.2
                have hkl1 : kk < k := by rw [HLN.out]; exact (List.getElem?_eq_some_iff.1 hx).1
                have hki1 : (0 : Int) ≤ (kk : Int) ∧ (kk : Int) < (k : Int) := by omega
                have hdi : (0 : Int) ≤ (dd : Int) ∧ (dd : Int) < (q : Int) := by omega
                have hcl : c0 < s.chs.length := (List.getElem?_eq_some_iff.1 hch).1
                have hci : (0 : Int) ≤ (c0 : Int) ∧ (c0 : Int) < (s.chs.length : Int) := by omega
                have HOK : Hid (Ok s) := Lib.hid HHX.out.ok
                obtain ⟨hr3, hr10⟩ := HHX.out.rel.rows c0 ch hch
                have HR3E := Lib.hid hr3
                have HR10E := Lib.hid hr10
                have HX0 := Lib.hid hx
                have HCB := Lib.hid hcb
                have HCH := Lib.hid hch
                have HRCH := Lib.hid hrch
                have HFRX : Hid (ch.free xw = true) := Lib.hid (by
                  rw [isFree_at rfl hch (by rcases hxw with h | h <;> simp only at h ⊢ <;> omega)] at hfr
                  exact hfr)
                have q00 : ((q : Int) == 0) = false := by rw [beq_eq_false_iff_ne]; omega
                have q01 : decide ((q : Int) = 0) = false := decide_eq_false (by omega)
                have e1 : wrap64 (c0 : Int) = (c0 : Int) := by unfold wrap64; omega
                have e2 : (c0 : Int) + 1 - 1 = (c0 : Int) := by omega
                have HBO : Hid (σ b = .free) := Lib.hid (HVO.out (by omega) b rfl)
                have hwN : ws.length ≤ 1000 := by rw [← HNW.out]; exact hN
                have HWN := Lib.hid hwN
                have HRD : Hid (∀ V, Below wx.heap.size wx V → V.cell? ⟨b, ob + kk * 3 + 1, none⟩ = some (.int .i64 ((c0 : Int) + 1))) := Lib.hid fun V hV => (hV.cell (p := ⟨b, ob + kk * 3 + 1, none⟩) hb).trans d1
                obtain ⟨n3, hn3⟩ : ∃ n, n = ch.sends.length := ⟨_, rfl⟩
                obtain ⟨n10, hn10⟩ : ∃ n, n = ch.recvs.length := ⟨_, rfl⟩
                have HN3 := Lib.hid hn3
                have HN10 := Lib.hid hn10
                have HC3 : Hid (∀ V, Below wx.heap.size wx V → Calls Tryd.prog 30 #[.pointer (some ⟨rb, 0, none⟩), .int .i64 ((c0 : Int) + 1), .int .i64 3] V fun e V' => ∃ au cu, e = .returned (.slice au n3 cu) ∧ (n3 ≤ cu ∧ ReadW V' (.slice au n3 cu) ch.sends ∧ ∀ g, au = some ⟨g, 0, none⟩ → wx.heap.size ≤ g) ∧ Below V.heap.size V V') := Lib.hid fun V hV =>
                  (rrow_head2 (HHX.out.keeps (Keeps.of_new (S := fun _ => False) hV) fun _ _ e => e.elim) (by omega) ((c0 : Int) + 1) 3 hr3.symm).mono fun e V' ⟨au, cu, h1, h2, h3, h4, h5⟩ => ⟨au, cu, by rw [h1, hn3], ⟨by rw [hn3]; exact h2, by rw [hn3]; exact h3, fun g hg => Nat.le_trans hV.size (h4 g hg)⟩, h5⟩
                have HC10 : Hid (∀ V, Below wx.heap.size wx V → Calls Tryd.prog 30 #[.pointer (some ⟨rb, 0, none⟩), .int .i64 ((c0 : Int) + 1), .int .i64 10] V fun e V' => ∃ au cu, e = .returned (.slice au n10 cu) ∧ (n10 ≤ cu ∧ ReadW V' (.slice au n10 cu) ch.recvs ∧ ∀ g, au = some ⟨g, 0, none⟩ → wx.heap.size ≤ g) ∧ Below V.heap.size V V') := Lib.hid fun V hV =>
                  (rrow_head2 (HHX.out.keeps (Keeps.of_new (S := fun _ => False) hV) fun _ _ e => e.elim) (by omega) ((c0 : Int) + 1) 10 hr10.symm).mono fun e V' ⟨au, cu, h1, h2, h3, h4, h5⟩ => ⟨au, cu, by rw [h1, hn10], ⟨by rw [hn10]; exact h2, by rw [hn10]; exact h3, fun g hg => Nat.le_trans hV.size (h4 g hg)⟩, h5⟩
                clear hgx hfr hks0 hkk0 hbe hbw hx hcb hch hrch hr3 hr10 hn3 hn10 hwN hdd hgl hcap
                generalize s.chs.length = mm at *
                go_wp2_with fail
                refine HMO.out.mono ?_
                rintro e wm ⟨rfl, rfl⟩
                go_upto_region 34 with fail
                go_quiet (fail)
                have hb0 : Below wx.heap.size wx (wx.drewN nq) := below_drewN wx nq
                generalize wx.drewN nq = wq at *
                go_upto_region 35 with fail
                refine wp_region_noPanic ?_
                go_region_held3 (fun V : World => V.cell? ⟨b, ob + kk * 3 + 1, none⟩ = some (.int .i64 ((c0 : Int) + 1))) (first | exact HRD.out _ (by assumption) | exact HRD.out _ (Below.drew (by assumption)))
                  ((first
                    | (have _q := hv3; go_at_call 30; refine (HC10.out _ ?_).mono ?_; (first | assumption | exact Below.drew (by assumption)); rintro e V10 ⟨au10, cu10, rfl, hr10, hV10⟩; have hr3y : ReadW V10 (.slice au3 n3 cu3) ch.sends := readW_below hr3.2.1 (by first | exact bel_step (Below.refl _ V3) hV10 | exact bel_step' (Below.refl _ V3) hV10); have hv10 : Below wx.heap.size wx V10 := (by first | exact bel_step (by assumption) hV10 | exact bel_step' (by assumption) hV10))
                    | (go_at_call 30; refine (HC3.out _ ?_).mono ?_; (first | assumption | exact Below.drew (by assumption)); rintro e V3 ⟨au3, cu3, rfl, hr3, hV3⟩; have hv3 : Below wx.heap.size wx V3 := (by first | exact bel_step (by assumption) hV3 | exact bel_step' (by assumption) hV3))))
                all_goals refine NoPanic.normal ?_
                all_goals go_upto_region 36 with fail
                have hv3 : Below wx.heap.size wx V10 := hv10
                have hfz : σ w.heap.size = .free := Classical.byContradiction fun e => by have := HH.out.dom _ e; omega
                have HFZ := Lib.hid hfz
                have HSZ : Hid (w.heap.size < wx.heap.size) := Lib.hid (by have := HIX.out.bel.size; have := HS1.out; omega)
                have HMY : Hid (MidI V10.drew 0 (.slice av1 ch.nums.length cv1) ch.nums) := Lib.hid (HRCH.out.nums.below (Below.drew hv10))
                have HMZ : Hid (MidI V10 0 (.slice av1 ch.nums.length cv1) ch.nums) := Lib.hid (HRCH.out.nums.below hv10)
                have HIY := Lib.hid (RTalkI.of HW1.out (HIX.out.bel.trans (hv10.mono HIX.out.bel.size)))
                have HHY : Hid (RefsAt V10 σ rb (.slice (some ⟨g, 0, none⟩) mm cap') ptr (.slice av i capv) us s ws) := Lib.hid (HHX.out.keeps (Keeps.of_new (S := fun _ => False) hv10) fun _ _ e => e.elim)
                have HRCY : Hid (RCh V10 σ c0 cb (.slice av1 ch.nums.length cv1) ch) := Lib.hid (HRCH.out.keeps (Keeps.of_new (S := fun _ => False) hv10) fun _ _ _ => id)
                have HBY : Hid (Below wx.heap.size wx V10) := Lib.hid hv10
                have p0 := (hv10.cell (p := ⟨b, ob + kk * 3, none⟩) hb).trans d0
                have p2 := (hv10.cell (p := ⟨b, ob + kk * 3 + 2, none⟩) hb).trans d2
                have y1 := HRCY.out.c1
                have y2 := HRCY.out.c2
                have HR3 := Lib.hid hr3
                have HR3Y := Lib.hid hr3y
                have HR10 := Lib.hid hr10
                have HBL : Hid (b < wx.heap.size) := Lib.hid hb
                clear t0 t1 f0 f1 j0 j1 d0 d1 d2 hmc hv3 hv10 hr3 hr3y hr10 hfz hV10 hb0 hb
                have t0 := HIY.out.c0
                have t1 := HIY.out.c1
                have f0 := HIY.out.z0
                have f1 := HIY.out.z1
                rcases hxw with rfl | rfl
                · have HDO : doT s ⟨3, (c0 : Int) + 1, xn⟩ = Pp.send s c0 ch xn := by
                    unfold doT
                    simp only
                    rw [show ((c0 : Int) + 1 - 1).toNat = c0 by omega, HCH.out]
                    simp
                  rw [HDO] at HRW2
                  clear HDO
                  cases hsh : ch.shut with
                  | true =>
                    have hre : r = ⟨s, 0, 0, [], false, 13⟩ := by
                      rw [HRW2.out, send_shut _ _ _ hsh]
                      simp
                    subst hre
                    rw [hsh] at y2

                    obtain ⟨e0, e1, hkz⟩ := set2 (W := V10) (r := w.heap.size) t0 t1 (.int .i64 0) (.int .i64 0)
                    have HKZ := Lib.hid hkz
                    clear hkz
                    go_wp2_with fail
                    refine bodyPost_ret (v := .tuple #[.agg #[.int .i64 0, .int .i64 0], .slice none 0 0, .bool false, .int .i64 13]) (by simp [results, Tryd.results8, go_sem, e0, e1] <;> rfl) rfl ?_
                    exact ⟨_, rfl, HNONE.out _ _ HIY.out HKZ.out _ rfl rfl⟩
                  | false =>
                    rw [hsh] at y2
                    rcases hrv : ch.recvs with _ | ⟨⟨yt, yk⟩, yr⟩
                    · have hne : ch.nums.length ≠ ch.size := fun e => by
                        have h1 := HFRX.out
                        unfold Ch.free at h1
                        rw [hsh, hrv, e] at h1
                        simp at h1
                      have hre : r = ⟨setNums s c0 (ch.nums ++ [xn]), (kk : Nat), 0, [], false, 0⟩ := by
                        rw [HRW2.out, send_lay _ _ _ hsh hrv hne]
                        simp
                      subst hre
                      have hn10 : n10 = 0 := by rw [HN10.out, hrv]; rfl
                      have z0 : ¬ (0 : Int) < (n10 : Int) := by omega
                      have z1 : decide ((0 : Int) < (n10 : Int)) = false := decide_eq_false z0
                      have hcaps := HOK.out.caps c0 ch HCH.out
                      have HNE : Hid ((ch.nums ++ [xn]).length ≤ ch.size) := Lib.hid (by rw [List.length_append, List.length_singleton]; omega)
                      have hcb1 : ∀ W : World, Keeps (fun a => (Value.slice av1 ch.nums.length cv1).ownBlock = some a) V10 W → W.cell? ⟨cb, 1, none⟩ = some (.slice av1 ch.nums.length cv1) ∧ W.frozen? ⟨cb, 1, none⟩ = false := fun W hW => by
                        have hne : ¬ (Value.slice av1 ch.nums.length cv1).ownBlock = some cb := fun e => by
                          have h1 := HRCY.out.p1 cb e
                          rw [HRCY.out.p0] at h1
                          cases h1
                        exact ⟨hW.cell_of HRCY.out.c1 hne, by rw [hW.frozen (p := ⟨cb, 1, none⟩) HRCY.out.lt hne]; exact HRCY.out.z 1⟩
                      have HCB1 := Lib.hid hcb1
                      have hnl : ch.nums.length ≤ 1000000 := by omega
                      have y1a := Go.Lib.cell?_alloc_some (.cells #[.int .i64 xn] 3) y1
                      have p2a := Go.Lib.cell?_alloc_some (.cells #[.int .i64 xn] 3) p2
                      clear hcb1 hne hsh hrv
                      go_upto_region 41 with fail
                      go_region_law (first
                        | (refine step_appendM rfl (.tmp 188) (.tmp 194) rfl (.slice av1 ch.nums.length cv1) ch.nums xn HMY.out hnl rfl (by simp [Act.eval]) (by simp [Act.eval]) ?_; intro a9 k9 w9 ho9 hk9 hn9; have HO9 := Lib.hid ho9; have HK9 := Lib.hid hk9; have HN9 := Lib.hid hn9; obtain ⟨c19, z19⟩ := HCB1.out w9 ((Keeps.drewK (Keeps.refl _ _)).trans hk9); clear ho9 hk9 hn9))
                      all_goals
                        have hbd : Below wx.heap.size wx V10.drew := Below.drew HBY.out
                        have HIYD := Lib.hid (RTalkI.of HW1.out (HIX.out.bel.trans (hbd.mono HIX.out.bel.size)))
                        have hnn := (HHX.out.keeps (Keeps.of_new (S := fun _ => False) hbd) fun _ _ e => e.elim).numsS HCB.out HCH.out (HRCH.out.keeps (Keeps.of_new (S := fun _ => False) hbd) fun _ _ _ => id) HK9.out HO9.out HN9.out HNE.out
                        obtain ⟨hx9, hkk9⟩ := hnn
                        have HX9 := Lib.hid hx9
                        have HKK9 := Lib.hid hkk9
                        have hlw : w.heap.size < V10.drew.heap.size := Nat.lt_of_lt_of_le HSZ.out hbd.size
                        obtain ⟨t0', t1', f0', f1'⟩ := note_at (wy := V10.drew) HIYD.out.c0 HIYD.out.c1 HIYD.out.z0 HIYD.out.z1 (S := fun b => σ b ≠ .free) (fun e => e HFZ.out) hkk9
                        clear hx9 hkk9 hbd t0 t1 f0 f1 y1 y2 y1a p2a p2 c19 z19
                        generalize w9.setCell ⟨cb, 1, none⟩ (.slice a9 (ch.nums.length + 1) k9) = wz at *
                        obtain ⟨e0, e1, hkz⟩ := set2 (W := wz) (r := w.heap.size) t0' t1' (.int .i64 (kk : Nat)) (.int .i64 0)
                        have HKZ := Lib.hid hkz
                        clear hkz
                        go_wp2_with fail
                        refine bodyPost_ret (v := .tuple #[.agg #[.int .i64 (kk : Nat), .int .i64 0], .slice none 0 0, .bool false, .int .i64 0]) (by simp [results, Tryd.results8, go_sem, e0, e1] <;> rfl) rfl ?_
                        exact ⟨_, rfl, RTalkP.of HH.out HIYD.out HW1.out (ws' := ws) HX9.out (Nat.le_succ _) HKK9.out HKZ.out (World.ownsRow_nil _ _ _ _)⟩
                    · have hre : r = ⟨Pp.wake s yt, (kk : Nat), 0, [⟨yt, yk, xn⟩], false, 0⟩ := by
                        rw [HRW2.out, send_meet _ _ _ hsh hrv]
                        simp
                      subst hre
                      have hn10 : 0 < n10 := by rw [HN10.out, hrv]; simp
                      obtain ⟨g10, rfl, k0, k1⟩ := readW_head HR10.out.2.1 hrv
                      have hg10 := HR10.out.2.2 g10 rfl
                      have hcu10 : n10 ≤ cu10 := HR10.out.1
                      simp only at k0 k1
                      obtain ⟨ly, _, hly, _⟩ := HOK.out.recvs c0 ch HCH.out (yt, yk) (by rw [hrv]; exact List.mem_cons_self)
                      simp only at hly
                      have z0 : (0 : Int) < (n10 : Int) := by omega
                      have z1 : decide ((0 : Int) < (n10 : Int)) = true := decide_eq_true z0
                      have hrbl : rb < wx.heap.size := HHX.out.lt
                      have hrz : rb ≠ w.heap.size := fun e => by
                        have h1 := HHX.out.p0
                        rw [e, HFZ.out] at h1
                        cases h1
                      have hbrb : b ≠ rb := fun e => by
                        have h1 := HHX.out.p0
                        rw [← e, HBO.out] at h1
                        cases h1
                      have hbrz : b ≠ w.heap.size := Nat.ne_of_lt HBWW.out
                      have HG : Hid (∀ W, Keeps (fun a => a = rb ∨ a = w.heap.size) V10 W → W.cell? ⟨g10, 0, none⟩ = some (.int .i64 yt) ∧ W.cell? ⟨g10, 1, none⟩ = some (.int .i64 (yk : Nat)) ∧ W.cell? ⟨b, ob + kk * 3 + 2, none⟩ = some (.int .i64 xn)) := Lib.hid fun W hW => by
                        have hs := HSZ.out
                        exact ⟨hW.cell_of k0 (show ¬ (g10 = rb ∨ g10 = w.heap.size) by omega), hW.cell_of k1 (show ¬ (g10 = rb ∨ g10 = w.heap.size) by omega), hW.cell_of p2 (show ¬ (b = rb ∨ b = w.heap.size) by omega)⟩
                      have HNT : Hid (∀ W, Keeps (fun a => a = rb) V10 W → W.cell? ⟨w.heap.size, 0, none⟩ = some (.int .i64 0) ∧ W.cell? ⟨w.heap.size, 1, none⟩ = some (.int .i64 0) ∧ W.frozen? ⟨w.heap.size, 0, none⟩ = false ∧ W.frozen? ⟨w.heap.size, 1, none⟩ = false) := Lib.hid fun W hW => note_at t0 t1 f0 f1 (S := fun a => a = rb) (fun e => hrz e.symm) hW
                      have HGO : Hid (∀ W, Keeps (fun a => a = w.heap.size) V10 W → Calls Tryd.prog 31 #[.pointer (some ⟨rb, 0, none⟩), .agg #[.int .i64 yt, .int .i64 (yk : Nat)], .int .i64 xn] W fun e W' => e = .returned (.agg #[.int .i64 yt, .int .i64 (yk : Nat), .int .i64 xn]) ∧ RefsX V10 W' σ rb (Pp.wake s yt) (offW yt ws) ∧ Keeps (fun a => a = rb) W W') := Lib.hid fun W hW =>
                        (rgoes_any (HHY.out.keeps hW fun a _ e => by rw [e]; exact HFZ.out) (by have := HWN.out; omega) (yt, yk) xn hly).mono fun e W' ⟨h1, h2, h3⟩ => by
                          obtain ⟨σ', vl', vw', us', h4, h5⟩ := h2.ex
                          exact ⟨h1, ⟨σ', vl', ptr, vw', us', h4, fun a ha => h5 a (Nat.lt_of_lt_of_le ha hW.size)⟩, h3⟩
                      clear k0 k1 t0 t1 f0 f1 y1 p2
                      go_upto_region 40 with fail
                      refine wp_region_noPanic ?_
                      go_region_held3 (fun V : World => V.cell? ⟨g10, 0, none⟩ = some (.int .i64 yt) ∧ V.cell? ⟨g10, 1, none⟩ = some (.int .i64 (yk : Nat)) ∧ V.cell? ⟨b, ob + kk * 3 + 2, none⟩ = some (.int .i64 xn)) ((refine HG.out _ ?_; repeat (first | assumption | exact Keeps.refl _ _ | refine Keeps.drewK ?_ | refine Keeps.alloc ?_ _ | refine Keeps.setCell ?_ (by first | exact Or.inl (Or.inr rfl) | exact Or.inl rfl) _)))
                        ((go_at_call 31; refine (HGO.out _ (by first | exact Keeps.refl _ _ | exact Keeps.drewK (Keeps.refl _ _))).mono ?_; rintro e V5 ⟨rfl, hx5, hk5⟩; have hk6 : Keeps (fun a => a = rb) V10 V5 := (by first | exact hk5 | exact (Keeps.drewK (Keeps.refl _ _)).trans hk5); have hk7 : Keeps (fun a => a = rb ∨ a = w.heap.size) V10 V5 := hk6.mono (fun _ _ e => Or.inl e); obtain ⟨u0, u1, v0, v1⟩ := HNT.out V5 hk6; obtain ⟨u0a, u1a, v0a, v1a⟩ := HNT.out (V5.alloc (.cells #[.int .i64 yt, .int .i64 (yk : Nat), .int .i64 xn] 65)) (hk6.alloc _)))
                      all_goals refine NoPanic.normal ?_
                      all_goals
                        have HX5 := Lib.hid hx5
                        have HK6 := Lib.hid hk6
                        have hl5 : V10.heap.size ≤ V5.heap.size := hk6.size
                        have hl6 : wx.heap.size ≤ V10.heap.size := HBY.out.size
                        have hlz := HSZ.out
                        clear hx5 hk5 hk7
                      all_goals (try clear hk6)
                      · obtain ⟨e0, e1, hkz⟩ := set2 (W := V5.alloc (.cells #[.int .i64 yt, .int .i64 (yk : Nat), .int .i64 xn] 65)) (r := w.heap.size) u0a u1a (.int .i64 (kk : Nat)) (.int .i64 0)
                        have HKZ := Lib.hid hkz
                        clear hkz u0 u1 v0 v1 u0a u1a v0a v1a
                        go_wp2_with fail
                        refine bodyPost_ret (v := .tuple #[.agg #[.int .i64 (kk : Nat), .int .i64 0], .slice (some ⟨V5.heap.size, 0, none⟩) 1 1, .bool false, .int .i64 0]) (by simp [results, Tryd.results8, go_sem, e0, e1] <;> rfl) rfl ?_
                        exact ⟨_, rfl, RTalkP.fin HH.out HIY.out HW1.out (ws' := offW yt ws) HX5.out (Nat.le_succ_of_le (offW_le yt ws)) (HK6.out.mono fun a _ e => by rw [e, HHX.out.p0]; simp) (((Keeps.refl _ V5).alloc _).trans HKZ.out) (HKZ.out.row (wk_one V5 yt yk xn (by omega)) fun a ha e => by
                          cases ha
                          have e' : V5.heap.size = w.heap.size := e
                          omega)⟩
                      · obtain ⟨e0, e1, hkz⟩ := set2 (W := V5) (r := w.heap.size) u0 u1 (.int .i64 (kk : Nat)) (.int .i64 0)
                        have HKZ := Lib.hid hkz
                        clear hkz u0 u1 v0 v1 u0a u1a v0a v1a
                        go_wp2_with fail
                        have e0a := Go.Lib.cell?_alloc_some (.cells #[.int .i64 yt, .int .i64 (yk : Nat), .int .i64 xn] 65) e0
                        have e1a := Go.Lib.cell?_alloc_some (.cells #[.int .i64 yt, .int .i64 (yk : Nat), .int .i64 xn] 65) e1
                        have hwk := wk_one ((V5.setCell ⟨w.heap.size, 0, none⟩ (.int .i64 (kk : Nat))).setCell ⟨w.heap.size, 1, none⟩ (.int .i64 0)) yt yk xn (B := w.heap.size + 1) (by rw [World.size_setCell, World.size_setCell]; omega)
                        rw [World.size_setCell, World.size_setCell] at hwk
                        have HWK := Lib.hid hwk
                        clear hwk
                        refine bodyPost_ret (v := .tuple #[.agg #[.int .i64 (kk : Nat), .int .i64 0], .slice (some ⟨V5.heap.size, 0, none⟩) 1 1, .bool false, .int .i64 0]) (by simp [results, Tryd.results8, go_sem, e0a, e1a] <;> rfl) rfl ?_
                        exact ⟨_, rfl, RTalkP.fin HH.out HIY.out HW1.out (ws' := offW yt ws) HX5.out (Nat.le_succ_of_le (offW_le yt ws)) (HK6.out.mono fun a _ e => by rw [e, HHX.out.p0]; simp) (HKZ.out.alloc _) HWK.out⟩
                · have HDO : doT s ⟨10, (c0 : Int) + 1, xn⟩ = recvR s c0 ch := by
                    unfold doT
                    simp only
                    rw [show ((c0 : Int) + 1 - 1).toNat = c0 by omega, HCH.out]
                    simp only
                    rw [if_pos trivial, recvR_eq HOK.out HCH.out]
                  rw [HDO] at HRW2
                  clear HDO
                  have hcaps := HOK.out.caps c0 ch HCH.out
                  have hnl : ch.nums.length ≤ 1000000 := by omega
                  clear p2
                  go_upto_region 45 with (at_builtin; refine wpList_appendN rfl _ rfl V10 _ ch.nums HMZ.out rfl hnl ?_; intro a6 k6 w6 ho6 hb6; have HO6 := Lib.hid ho6; have HB6 := Lib.hid hb6; clear ho6 hb6)
                  have HBX : Hid (Below wx.heap.size wx w6) := Lib.hid (bel_step HBY.out HB6.out)
                  have HIZ := Lib.hid (RTalkI.of HW1.out (HIX.out.bel.trans (HBX.out.mono HIX.out.bel.size)))
                  have HHZ := Lib.hid (HHX.out.keeps (Keeps.of_new (S := fun _ => False) HBX.out) fun _ _ e => e.elim)
                  clear t0 t1 f0 f1 y1 y2
                  rcases hsd : ch.sends with _ | ⟨⟨yt, yk⟩, yr⟩
                  · have hn3 : n3 = 0 := by rw [HN3.out, hsd]; rfl
                    have z0 : ¬ (0 : Int) < (n3 : Int) := by omega
                    have z1 : decide ((0 : Int) < (n3 : Int)) = false := decide_eq_false z0
                    rcases hnu : ch.nums with _ | ⟨x0, r0⟩
                    · have hre : r = ⟨s, (kk : Nat), 0, [], false, 0⟩ := by
                        rw [HRW2.out, recvR_none _ _ hsd hnu]
                        simp
                      subst hre
                      have hz : ch.nums.length = 0 := by rw [hnu]; rfl
                      have q0 : ((ch.nums.length : Int) == 0) = true := by rw [beq_iff_eq]; omega
                      have q1 : decide ((ch.nums.length : Int) = 0) = true := decide_eq_true (by omega)
                      have t0 := HIZ.out.c0
                      have t1 := HIZ.out.c1
                      have f0 := HIZ.out.z0
                      have f1 := HIZ.out.z1
                      obtain ⟨e0, e1, hkz⟩ := set2 (W := w6) (r := w.heap.size) t0 t1 (.int .i64 (kk : Nat)) (.int .i64 0)
                      have HKZ := Lib.hid hkz
                      clear hkz
                      go_wp2_with fail
                      refine bodyPost_ret (v := .tuple #[.agg #[.int .i64 (kk : Nat), .int .i64 0], .slice none 0 0, .bool false, .int .i64 0]) (by simp [results, Tryd.results8, go_sem, e0, e1] <;> rfl) rfl ?_
                      exact ⟨_, rfl, HNONE.out _ _ HIZ.out HKZ.out _ rfl rfl⟩
                    · have hre : r = ⟨setNums s c0 r0, (kk : Nat), x0, [], false, 0⟩ := by
                        rw [HRW2.out, recvR_nums _ _ hsd hnu]
                        simp
                      subst hre
                      have hO := HO6.out
                      rw [hnu] at hO
                      obtain ⟨ga, rfl, -, hka, hgB, hgl, hcell⟩ := ownI_head hO
                      obtain ⟨m, hm⟩ : ∃ m, ch.nums.length = m + 1 := ⟨r0.length, by rw [hnu]; rfl⟩
                      have hmr : m = r0.length := by rw [hnu] at hm; simpa using hm.symm
                      have HMR := Lib.hid hmr
                      have HRC6 := Lib.hid (HRCH.out.keeps (Keeps.of_new (S := fun _ => False) HBX.out) fun _ _ _ => id)
                      have hgcb : ga ≠ cb := by have := HRCY.out.lt; omega
                      have hgrz : ga ≠ w.heap.size := by have := HSZ.out; have := HBY.out.size; omega
                      have HGA : Hid (ga ≠ cb ∧ ga ≠ w.heap.size ∧ V10.heap.size ≤ ga) := Lib.hid ⟨hgcb, hgrz, hgB⟩
                      have HCELL := Lib.hid hcell
                      have q0 : ((ch.nums.length : Int) == 0) = false := by rw [beq_eq_false_iff_ne]; omega
                      have q1 : decide ((ch.nums.length : Int) = 0) = false := decide_eq_false (by omega)
                      have l1 : (1 : Int) ≤ (ch.nums.length : Int) := by omega
                      have l3 : r0.length + 1 ≤ k6 := by simpa using hka
                      have l2 : (ch.nums.length : Int) ≤ (k6 : Int) := by omega
                      have s1 := HRC6.out.c1
                      have s2 := HRC6.out.z 1
                      have HOO : Hid (MidI w6 V10.heap.size (.slice (some ⟨ga, 0, none⟩) (x0 :: r0).length k6) (x0 :: r0)) := Lib.hid (MidI.of_own hO)
                      have HGF : Hid (V10.heap.size ≤ ga ∧ σ ga = .free) := Lib.hid ⟨hgB, Classical.byContradiction fun e => by have := HHY.out.dom _ e; omega⟩
                      have HZCB : Hid (w.heap.size ≠ cb) := Lib.hid fun e => by
                        have h1 := HRCY.out.p0
                        rw [← e, HFZ.out] at h1
                        cases h1
                      have HTT : Hid (w6.cell? ⟨w.heap.size, 0, none⟩ = some (.int .i64 0) ∧ w6.cell? ⟨w.heap.size, 1, none⟩ = some (.int .i64 0) ∧ w6.frozen? ⟨w.heap.size, 0, none⟩ = false ∧ w6.frozen? ⟨w.heap.size, 1, none⟩ = false) := Lib.hid ⟨HIZ.out.c0, HIZ.out.c1, HIZ.out.z0, HIZ.out.z1⟩
                      have HLE : Hid (r0.length ≤ ch.size) := Lib.hid (by omega)
                      have HK9 : Hid (Keeps (fun b => σ b ≠ .free) V10 w6) := Lib.hid (Keeps.of_new HB6.out)
                      by_cases hc1 : k6 = 1
                      · subst hc1
                        have hr0 : r0 = [] := List.eq_nil_of_length_eq_zero (by omega)
                        subst hr0
                        go_upto_region 51 with fail
                        obtain ⟨hx9, hs9⟩ := RefsAt.numsF (w0 := V10) (σ0 := σ) HHZ.out HCB.out HCH.out HRC6.out (v' := .slice (some ⟨ga, 0, none⟩) 0 0) (nums' := []) (((HOO.out.tail (some ⟨ga, 0, none⟩) 0 rfl (Or.inr ⟨rfl, rfl⟩)).mono (Nat.zero_le _))) (fun b hb => by cases hb; exact HGF.out) (fun _ _ => rfl) HLE.out
                        have HX9 := Lib.hid hx9
                        have HS9 := Lib.hid hs9
                        have hcell9 := hs9.cell_of hcell hgcb
                        obtain ⟨t0', t1', f0', f1'⟩ := note_at HTT.out.1 HTT.out.2.1 HTT.out.2.2.1 HTT.out.2.2.2 (S := fun b => b = cb) (fun e => HZCB.out e) hs9
                        clear hx9 hs9 hcell s1 s2
                        generalize w6.setCell ⟨cb, 1, none⟩ (.slice (some ⟨ga, 0, none⟩) 0 0) = wz at *
                        obtain ⟨e0, e1, hkz⟩ := set2 (W := wz) (r := w.heap.size) t0' t1' (.int .i64 (kk : Nat)) (.int .i64 x0)
                        have HKZ := Lib.hid hkz
                        clear hkz
                        go_wp2_with fail
                        refine bodyPost_ret (v := .tuple #[.agg #[.int .i64 (kk : Nat), .int .i64 x0], .slice none 0 0, .bool false, .int .i64 0]) (by simp [results, Tryd.results8, go_sem, e0, e1] <;> rfl) rfl ?_
                        exact ⟨_, rfl, RTalkP.of HH.out HIY.out HW1.out (ws' := ws) HX9.out (Nat.le_succ _) (HK9.out.trans (HS9.out.mono fun b _ e => by rw [e, HRCY.out.p0]; simp)) HKZ.out (World.ownsRow_nil _ _ _ _)⟩
                      · go_upto_region 51 with fail
                        obtain ⟨hx9, hs9⟩ := RefsAt.numsF (w0 := V10) (σ0 := σ) HHZ.out HCB.out HCH.out HRC6.out (v' := .slice (some ⟨ga, 1, none⟩) r0.length (k6 - 1)) (nums' := r0) (((HOO.out.tail (some ⟨ga, 1, none⟩) (k6 - 1) rfl (Or.inl (by rw [Option.map_some, addr_addP]))).mono (Nat.zero_le _))) (fun b hb => by cases hb; exact HGF.out) (fun _ _ => rfl) HLE.out
                        have HX9 := Lib.hid hx9
                        have HS9 := Lib.hid hs9
                        have hcell9 := hs9.cell_of hcell hgcb
                        obtain ⟨t0', t1', f0', f1'⟩ := note_at HTT.out.1 HTT.out.2.1 HTT.out.2.2.1 HTT.out.2.2.2 (S := fun b => b = cb) (fun e => HZCB.out e) hs9
                        clear hx9 hs9 hcell s1 s2
                        generalize w6.setCell ⟨cb, 1, none⟩ (.slice (some ⟨ga, 1, none⟩) r0.length (k6 - 1)) = wz at *
                        obtain ⟨e0, e1, hkz⟩ := set2 (W := wz) (r := w.heap.size) t0' t1' (.int .i64 (kk : Nat)) (.int .i64 x0)
                        have HKZ := Lib.hid hkz
                        clear hkz
                        go_wp2_with fail
                        refine bodyPost_ret (v := .tuple #[.agg #[.int .i64 (kk : Nat), .int .i64 x0], .slice none 0 0, .bool false, .int .i64 0]) (by simp [results, Tryd.results8, go_sem, e0, e1] <;> rfl) rfl ?_
                        exact ⟨_, rfl, RTalkP.of HH.out HIY.out HW1.out (ws' := ws) HX9.out (Nat.le_succ _) (HK9.out.trans (HS9.out.mono fun b _ e => by rw [e, HRCY.out.p0]; simp)) HKZ.out (World.ownsRow_nil _ _ _ _)⟩
                  · have hn3 : 0 < n3 := by rw [HN3.out, hsd]; simp
                    obtain ⟨g3, rfl, k0, k1⟩ := readW_head HR3Y.out hsd
                    simp only at k0 k1
                    have hcu3 : n3 ≤ cu3 := HR3.out.1
                    have hg3 : g3 < V10.heap.size := block_lt_of_cell k0
                    obtain ⟨ly, z, hly, hz, _⟩ := HOK.out.sends c0 ch HCH.out (yt, yk) (by rw [hsd]; exact List.mem_cons_self)
                    obtain ⟨zw, zc, zn⟩ := z
                    simp only at hly hz
                    have hsn : sent s (yt, yk) = zn := by
                      unfold sent
                      simp only
                      rw [hly]
                      simp [hz]
                    obtain ⟨x0, r0, hall⟩ : ∃ x0 r0, ch.nums ++ [zn] = x0 :: r0 := by
                      cases h : ch.nums ++ [zn] with
                      | nil => simp at h
                      | cons a b => exact ⟨a, b, rfl⟩
                    have hre : r = ⟨setNums (Pp.wake s yt) c0 r0, (kk : Nat), x0, [⟨yt, yk, 0⟩], false, 0⟩ := by
                      rw [HRW2.out, recvR_met _ _ hsd (by rw [hsn]; exact hall)]
                      simp
                    subst hre
                    have HALL := Lib.hid hall
                    have HLY := Lib.hid hly
                    have z0 : (0 : Int) < (n3 : Int) := by omega
                    have z1 : decide ((0 : Int) < (n3 : Int)) = true := decide_eq_true z0
                    have HK0 := Lib.hid k0
                    have HK1 := Lib.hid k1
                    have k06 := (HB6.out.cell (p := ⟨g3, 0, none⟩) hg3).trans k0
                    have k16 := (HB6.out.cell (p := ⟨g3, 1, none⟩) hg3).trans k1
                    have HAS := Lib.hid (rasks_any HHZ.out (by have := HWN.out; omega) (y := (yt, yk)) (l := ly) (t := ⟨zw, zc, zn⟩) hly hz)
                    simp only at HAS
                    have hfd : ∀ W : World, (Instr.field 85 (.agg #[.int .i64 zw, .int .i64 zc, .int .i64 zn]) 2).run Tryd.prog W = .ok (.int .i64 zn) W := fun _ => by kernel_rfl
                    clear hsn hall hly hz k0 k1 hsd
                    go_wp2_with fail
                    refine HAS.out.mono ?_
                    rintro e w7 ⟨rfl, hb7⟩
                    have HB7 : Hid (Below V10.heap.size V10 w7) := Lib.hid (bel_step HB6.out hb7)
                    have HO7 : Hid (OwnI w7 V10.heap.size (.slice a6 ch.nums.length k6) ch.nums) := Lib.hid (HO6.out.keeps (Keeps.of_new (S := fun _ => False) hb7) fun _ _ => id)
                    have HSZ7 : Hid (V10.heap.size ≤ w7.heap.size) := Lib.hid HB7.out.size
                    clear k06 k16 hb7
                    go_upto_region 47 with (at_builtin; go_loud (refine wpList_appendI rfl _ _ rfl w7 V10.heap.size _ ch.nums zn HO7.out rfl rfl hnl HSZ7.out ?_; intro a8 k8 w8 hO8 hK8 hN8; have HO8 := Lib.hid hO8; have HK8 := Lib.hid hK8; clear hO8 hK8 hN8))
                    clear hfd
                    have HB8 : Hid (Below V10.heap.size V10 w8) := Lib.hid (HB7.out.trans (HK8.out.below HSZ7.out fun b _ e => (World.ownsRow.lt HO7.out b e).1))
                    have HBX8 : Hid (Below wx.heap.size wx w8) := Lib.hid (bel_step HBY.out HB8.out)
                    have HI8 := Lib.hid (RTalkI.of HW1.out (HIX.out.bel.trans (HBX8.out.mono HIX.out.bel.size)))
                    have HH8 := Lib.hid (HHX.out.keeps (Keeps.of_new (S := fun _ => False) HBX8.out) fun _ _ e => e.elim)
                    have k08 := (HB8.out.cell (p := ⟨g3, 0, none⟩) hg3).trans HK0.out
                    have k18 := (HB8.out.cell (p := ⟨g3, 1, none⟩) hg3).trans HK1.out
                    have HGO := Lib.hid (rgoes_any HH8.out (by have := HWN.out; omega) (yt, yk) 0 HLY.out)
                    simp only at HGO
                    have hO := HO8.out
                    rw [HALL.out] at hO
                    obtain ⟨ga, rfl, hlen, hka, hgB, hgl, hcell⟩ := ownI_head hO
                    have HO8B := Lib.hid hO
                    clear hO
                    obtain ⟨m, hm⟩ : ∃ m, m = ch.nums.length := ⟨_, rfl⟩
                    have hmr : m = r0.length := by omega
                    have HMR := Lib.hid hmr
                    have HM := Lib.hid hm
                    rw [← hm] at hka HO8B ⊢
                    clear hm hmr hlen
                    go_wp2_with fail
                    refine HGO.out.mono ?_
                    rintro e w9 ⟨rfl, hx9, hk9⟩
                    obtain ⟨σ1, vl1, vw1, us1, hra9, hold9⟩ := hx9.ex
                    have hrl : rb < wx.heap.size := HHX.out.lt
                    have hyl : wx.heap.size ≤ V10.heap.size := HBY.out.size
                    have h8l : V10.heap.size ≤ w8.heap.size := HB8.out.size
                    have h9l : w8.heap.size ≤ w9.heap.size := hk9.size
                    have hrz : rb ≠ w.heap.size := fun e => by
                      have h1 := HHX.out.p0
                      rw [e, HFZ.out] at h1
                      cases h1
                    go_upto_region 48 with fail
                    obtain ⟨nz, hnz⟩ : ∃ nz, nz = w9.heap.size := ⟨_, rfl⟩
                    have hwk := wk_one w9 yt yk 0 (B := w.heap.size + 1) (by have := HSZ.out; omega)
                    have hka9 : Keeps (fun a => a = rb) w8 (w9.alloc (.cells #[.int .i64 yt, .int .i64 (yk : Nat), .int .i64 0] 65)) := hk9.alloc _
                    have hraA := hra9.keeps (alloc_new w9 (.cells #[.int .i64 yt, .int .i64 (yk : Nat), .int .i64 0] 65)) (fun _ _ e => e.elim)
                    rw [← hnz] at hwk ⊢
                    generalize w9.alloc (.cells #[.int .i64 yt, .int .i64 (yk : Nat), .int .i64 0] 65) = wA at *
                    have HWK := Lib.hid hwk
                    have HRA := Lib.hid hraA
                    have HOLD0 : Hid (∀ b, b < V10.heap.size → σ1 b = σ b) := Lib.hid fun b hb => hold9 b (by omega)
                    have HGF : Hid (V10.heap.size ≤ ga ∧ σ1 ga = .free) := Lib.hid ⟨hgB, by rw [hold9 ga hgl]; exact Classical.byContradiction fun e => by have := HHY.out.dom _ e; omega⟩
                    have HZCB : Hid (w.heap.size ≠ cb) := Lib.hid fun e => by
                      have h1 := HRCY.out.p0
                      rw [← e, HFZ.out] at h1
                      cases h1
                    have hcbl : cb < V10.heap.size := HRCY.out.lt
                    have hgcb : ga ≠ cb := by omega
                    have HNZ : Hid (nz ≠ cb) := Lib.hid (by omega)
                    have HTT := Lib.hid (note_at HI8.out.c0 HI8.out.c1 HI8.out.z0 HI8.out.z1 (S := fun a => a = rb) (fun e => hrz e.symm) hka9)
                    have HK9 : Hid (Keeps (fun b => σ b ≠ .free) V10 wA) := Lib.hid ((Keeps.of_new HB8.out).trans (hka9.mono fun b _ e => by rw [e, HHX.out.p0]; simp))
                    have hcellA := hka9.cell_of hcell (show ¬ ga = rb by omega)
                    have HOA : Hid (MidI wA V10.heap.size (.slice (some ⟨ga, 0, none⟩) (m + 1) k8) (x0 :: r0)) := Lib.hid (MidI.of_own (HO8B.out.keeps hka9 fun b hb e => by
                      cases hb
                      have e' : ga = rb := e
                      omega))
                    have hcw : c0 < (Pp.wake s yt).chs.length := by rw [wake_chs]; exact (List.getElem?_eq_some_iff.1 HCH.out).1
                    obtain ⟨ch2, hch2⟩ : ∃ c, (Pp.wake s yt).chs[c0]? = some c := ⟨_, List.getElem?_eq_getElem hcw⟩
                    obtain ⟨chx, hchx, hcs, hcn, hct⟩ := wake_same HOK.out HLY.out c0 ch2 hch2
                    rw [HCH.out] at hchx
                    cases hchx
                    have HC2 := Lib.hid hch2
                    obtain ⟨v2, hrc2⟩ := hraA.chs c0 cb ch2 HCB.out hch2
                    have HRC2 := Lib.hid hrc2
                    have HLE : Hid (r0.length ≤ ch2.size) := Lib.hid (by have := HMR.out; have := HM.out; rw [hcs]; omega)
                    have s1 := hrc2.c1
                    have s2 := hrc2.z 1
                    have q0 : (((m + 1 : Nat) : Int) == 0) = false := by rw [beq_eq_false_iff_ne]; omega
                    have q1 : decide (((m + 1 : Nat) : Int) = 0) = false := decide_eq_false (by omega)
                    clear hcell hx9 hk9 hka9 hraA hra9 hold9 hwk hch2 hcs hcn hct hrc2 hcw k08 k18 hnz
                    have hcell := hcellA
                    clear hcellA
                    by_cases hc1 : k8 = 1
                    · subst hc1
                      have hm0 : m = 0 := by omega
                      have hr0 : r0 = [] := List.eq_nil_of_length_eq_zero (by have := HMR.out; omega)
                      subst hr0
                      subst hm0
                      go_upto_region 51 with fail
                      obtain ⟨hx9, hs9⟩ := RefsAt.numsF (w0 := V10) (σ0 := σ) HRA.out HCB.out HC2.out HRC2.out (v' := .slice (some ⟨ga, 0, none⟩) 0 0) (nums' := []) ((HOA.out.tail (some ⟨ga, 0, none⟩) 0 rfl (Or.inr ⟨rfl, rfl⟩)).mono (Nat.zero_le _)) (fun b hb => by cases hb; exact HGF.out) HOLD0.out HLE.out
                      have HX9 := Lib.hid hx9
                      have HS9 := Lib.hid hs9
                      have hcell9 := hs9.cell_of hcell hgcb
                      obtain ⟨t0', t1', f0', f1'⟩ := note_at HTT.out.1 HTT.out.2.1 HTT.out.2.2.1 HTT.out.2.2.2 (S := fun b => b = cb) (fun e => HZCB.out e) hs9
                      clear hx9 hs9 hcell s1 s2
                      generalize wA.setCell ⟨cb, 1, none⟩ (.slice (some ⟨ga, 0, none⟩) 0 0) = wz at *
                      obtain ⟨e0, e1, hkz⟩ := set2 (W := wz) (r := w.heap.size) t0' t1' (.int .i64 (kk : Nat)) (.int .i64 x0)
                      have HKZ := Lib.hid hkz
                      clear hkz
                      go_wp2_with fail
                      refine bodyPost_ret (v := .tuple #[.agg #[.int .i64 (kk : Nat), .int .i64 x0], .slice (some ⟨nz, 0, none⟩) 1 1, .bool false, .int .i64 0]) (by simp [results, Tryd.results8, go_sem, e0, e1] <;> rfl) rfl ?_
                      exact ⟨_, rfl, RTalkP.of HH.out HIY.out HW1.out (ws' := offW yt ws) HX9.out (Nat.le_succ_of_le (offW_le yt ws)) (HK9.out.trans (HS9.out.mono fun b _ e => by rw [e, HRCY.out.p0]; simp)) HKZ.out (HS9.out.row HWK.out fun a ha e => HNZ.out (by cases ha; exact e))⟩
                    · go_upto_region 51 with fail
                      obtain ⟨hx9, hs9⟩ := RefsAt.numsF (w0 := V10) (σ0 := σ) HRA.out HCB.out HC2.out HRC2.out (v' := .slice (some ⟨ga, 1, none⟩) m (k8 - 1)) (nums' := r0) (by have h1 := HOA.out.tail (some ⟨ga, 1, none⟩) (k8 - 1) rfl (Or.inl (by rw [Option.map_some, addr_addP])); rw [← HMR.out] at h1; exact h1.mono (Nat.zero_le _)) (fun b hb => by cases hb; exact HGF.out) HOLD0.out HLE.out
                      have HX9 := Lib.hid hx9
                      have HS9 := Lib.hid hs9
                      have hcell9 := hs9.cell_of hcell hgcb
                      obtain ⟨t0', t1', f0', f1'⟩ := note_at HTT.out.1 HTT.out.2.1 HTT.out.2.2.1 HTT.out.2.2.2 (S := fun b => b = cb) (fun e => HZCB.out e) hs9
                      clear hx9 hs9 hcell s1 s2
                      generalize wA.setCell ⟨cb, 1, none⟩ (.slice (some ⟨ga, 1, none⟩) m (k8 - 1)) = wz at *
                      obtain ⟨e0, e1, hkz⟩ := set2 (W := wz) (r := w.heap.size) t0' t1' (.int .i64 (kk : Nat)) (.int .i64 x0)
                      have HKZ := Lib.hid hkz
                      clear hkz
                      go_wp2_with fail
                      refine bodyPost_ret (v := .tuple #[.agg #[.int .i64 (kk : Nat), .int .i64 x0], .slice (some ⟨nz, 0, none⟩) 1 1, .bool false, .int .i64 0]) (by simp [results, Tryd.results8, go_sem, e0, e1] <;> rfl) rfl ?_
                      exact ⟨_, rfl, RTalkP.of HH.out HIY.out HW1.out (ws' := offW yt ws) HX9.out (Nat.le_succ_of_le (offW_le yt ws)) (HK9.out.trans (HS9.out.mono fun b _ e => by rw [e, HRCY.out.p0]; simp)) HKZ.out (HS9.out.row HWK.out fun a ha e => HNZ.out (by cases ha; exact e))⟩
end
end Go.Proofs.YtppbmhpbbiigaaaDoor

namespace Go.Proofs.YtppbmhpbbiigaaaDoor
open Go.RowKit Go.ChangeShapes Go.WideShapes Go.ChangeAt Pp

structure PO where
  what : Int
  n : Int
  task : Int
  draw : Int
  talks : List Tk
/-- Operations, to be read. -/
def OpsAt (w : World) (v : Value) (l : List PO) : Prop :=
  ∃ ao n cap, v = .slice ao n cap ∧ n = l.length ∧ n ≤ cap ∧ cap ≤ maxLen ∧ (0 < n → ∃ b o, ao = some ⟨b, o, none⟩ ∧ b < w.heap.size ∧
    ∀ i d, l[i]? = some d → ∃ vt, w.cell? ⟨b, o + i * 5, none⟩ = some (.int .i64 d.what) ∧ w.cell? ⟨b, o + i * 5 + 1, none⟩ = some (.int .i64 d.n) ∧ w.cell? ⟨b, o + i * 5 + 2, none⟩ = some (.int .i64 d.task) ∧ w.cell? ⟨b, o + i * 5 + 3, none⟩ = some (.int .i64 d.draw) ∧ w.cell? ⟨b, o + i * 5 + 4, none⟩ = some vt ∧ TalksAt w vt d.talks ∧
      (-9223372036854775808 ≤ d.n ∧ d.n ≤ 9223372036854775807) ∧ (-9223372036854775808 ≤ d.task ∧ d.task ≤ 9223372036854775807) ∧ (-9223372036854775808 ≤ d.draw ∧ d.draw ≤ 9223372036854775807))
instance : Inhabited Tk := ⟨⟨0, 0, 0⟩⟩
instance : Inhabited PO := ⟨⟨0, 0, 0, 0, []⟩⟩
set_option maxRecDepth 100000 in
theorem talksC_open {H : Type} {enc : TypeId × Value → H} {W : World} {base : Nat} {spare : Nat → Bool} {held : Bool} {fuel : Nat} {cs : List Value} {x : DataW H × List MemPlace}
    (hf : DataW.trod enc Tryd.prog W base spare held fuel 32 cs = some x) : ∃ v tk, cs = [v] ∧ TalksAt W v tk := by
  have ce : Tryd.prog.cellsOf 85 = 3 := by kernel_rfl
  have ci : Tryd.prog.cellsOf 3 = 1 := by kernel_rfl
  rcases Go.Deep.open_slice Tryd.underlying32 hf with ⟨hcs, _⟩ | ⟨a, len, cap, m, n, D, Pl, hcs, _, hl, hm, hmm, _, hx⟩
  · exact ⟨_, [], hcs, none, 0, 0, rfl, rfl, Nat.le_refl _, Nat.zero_le _, fun h => absurd h (Nat.lt_irrefl _)⟩
  · have hlm : len ≤ m := by rw [hmm]; split <;> omega
    have key : ∀ i, i < len → ∃ q : Tk, W.cell? (a.add (i * 3)) = some (.int .i64 q.what) ∧ W.cell? (a.add (i * 3 + 1)) = some (.int .i64 q.chan) ∧ W.cell? (a.add (i * 3 + 2)) = some (.int .i64 q.n) := by
      intro i hi
      obtain ⟨cs', h1, h2⟩ := hx i (by omega)
      rw [ce] at h1
      obtain ⟨_, hlen, hcell⟩ := World.cells?_some h1
      obtain ⟨xs, k, hk, hxy, _, hxl, hfs⟩ := DataW.trod_struct Tryd.underlying85 h2
      match xs, hxl, cs', hlen with
      | [y0, y1, y2], _, [v0, v1, v2], _ =>
        have g0 := hfs 0 _ rfl
        have g1 := hfs 1 _ rfl
        have g2 := hfs 2 _ rfl
        simp [ci] at g0 g1 g2
        have e0 := hcell 0 (by omega)
        have e1 := hcell 1 (by omega)
        have e2 := hcell 2 (by omega)
        rw [Go.Deep.add_add] at e0 e1 e2
        obtain ⟨n0, f0, _, w0⟩ := DataW.trod_int Tryd.underlying3 g0
        obtain ⟨n1, f1, _, w1⟩ := DataW.trod_int Tryd.underlying3 g1
        obtain ⟨n2, f2, _, w2⟩ := DataW.trod_int Tryd.underlying3 g2
        have f0' : v0 = .int .i64 n0 := by simpa using f0
        have f1' : v1 = .int .i64 n1 := by simpa using f1
        have f2' : v2 = .int .i64 n2 := by simpa using f2
        subst f0' f1' f2'
        exact ⟨⟨n0, n1, n2⟩, by simpa using e0, by simpa using e1, by simpa using e2⟩
    obtain ⟨q, hq⟩ := Go.Deep.choose_lt key
    refine ⟨_, (List.range len).map q, hcs, some a, len, cap, rfl, by simp, hl, hm, fun h0 => ?_⟩
    obtain ⟨b, o, sp⟩ := a
    have h1 := (hq 0 (by omega)).1
    have hspot : sp = none := by simpa [Addr.add] using World.cell?_spot h1
    subst hspot
    refine ⟨b, o, rfl, World.block_lt_of_cell? _ _ h1, fun i x hi => ?_⟩
    rw [List.getElem?_map] at hi
    obtain ⟨j, hj, rfl⟩ := Option.map_eq_some_iff.1 hi
    have hil := (List.getElem?_eq_some_iff.1 hj).1
    rw [List.length_range] at hil
    rw [List.getElem?_range hil] at hj
    cases hj
    obtain ⟨g0, g1, g2⟩ := hq i hil
    rw [add_plain] at g0 g1 g2
    exact ⟨g0, by rw [Nat.add_assoc]; exact g1, by rw [Nat.add_assoc]; exact g2⟩
set_option maxRecDepth 100000 in
theorem opsAt_open {H : Type} {enc : TypeId × Value → H} {W : World} {base : Nat} {spare : Nat → Bool} {held : Bool} {ao : Option Addr} {len cap : Nat} {d : DataW H} {p : List MemPlace}
    (h : DataW.Trod enc Tryd.prog W base spare held 22 (.slice ao len cap) d p) : ∃ l, OpsAt W (.slice ao len cap) l := by
  obtain ⟨fuel, hf⟩ := h
  have ce : Tryd.prog.cellsOf 34 = 5 := by kernel_rfl
  have ci : Tryd.prog.cellsOf 3 = 1 := by kernel_rfl
  have ct : Tryd.prog.cellsOf 32 = 1 := by kernel_rfl
  rcases Go.Deep.open_slice Tryd.underlying22 hf with ⟨hcs, _⟩ | ⟨a, l, c, m, n, D, Pl, hcs, _, hl, hm, hmm, _, hx⟩
  · simp [Value.cells] at hcs
    obtain ⟨rfl, rfl, rfl⟩ := hcs
    exact ⟨[], none, 0, 0, rfl, rfl, Nat.le_refl _, Nat.zero_le _, fun h => absurd h (Nat.lt_irrefl _)⟩
  · simp [Value.cells] at hcs
    obtain ⟨rfl, rfl, rfl⟩ := hcs
    have hlm : len ≤ m := by rw [hmm]; split <;> omega
    have key : ∀ i, i < len → ∃ q : PO, ∃ vt, W.cell? (a.add (i * 5)) = some (.int .i64 q.what) ∧ W.cell? (a.add (i * 5 + 1)) = some (.int .i64 q.n) ∧ W.cell? (a.add (i * 5 + 2)) = some (.int .i64 q.task) ∧ W.cell? (a.add (i * 5 + 3)) = some (.int .i64 q.draw) ∧ W.cell? (a.add (i * 5 + 4)) = some vt ∧ TalksAt W vt q.talks ∧
        (Lit.int .i64 q.n).wf = true ∧ (Lit.int .i64 q.task).wf = true ∧ (Lit.int .i64 q.draw).wf = true := by
      intro i hi
      obtain ⟨cs', h1, h2⟩ := hx i (by omega)
      rw [ce] at h1
      obtain ⟨_, hlen, hcell⟩ := World.cells?_some h1
      obtain ⟨xs, k, hk, hxy, _, hxl, hfs⟩ := DataW.trod_struct Tryd.underlying34 h2
      match xs, hxl, cs', hlen with
      | [y0, y1, y2, y3, y4], _, [v0, v1, v2, v3, v4], _ =>
        have g0 := hfs 0 _ rfl
        have g1 := hfs 1 _ rfl
        have g2 := hfs 2 _ rfl
        have g3 := hfs 3 _ rfl
        have g4 := hfs 4 _ rfl
        simp [ci, ct] at g0 g1 g2 g3 g4
        have e0 := hcell 0 (by omega)
        have e1 := hcell 1 (by omega)
        have e2 := hcell 2 (by omega)
        have e3 := hcell 3 (by omega)
        have e4 := hcell 4 (by omega)
        rw [Go.Deep.add_add] at e0 e1 e2 e3 e4
        obtain ⟨n0, f0, _, w0⟩ := DataW.trod_int Tryd.underlying3 g0
        obtain ⟨n1, f1, _, w1⟩ := DataW.trod_int Tryd.underlying3 g1
        obtain ⟨n2, f2, _, w2⟩ := DataW.trod_int Tryd.underlying3 g2
        obtain ⟨n3, f3, _, w3⟩ := DataW.trod_int Tryd.underlying3 g3
        obtain ⟨v, tk, f4, ht⟩ := talksC_open g4
        have f0' : v0 = .int .i64 n0 := by simpa using f0
        have f1' : v1 = .int .i64 n1 := by simpa using f1
        have f2' : v2 = .int .i64 n2 := by simpa using f2
        have f3' : v3 = .int .i64 n3 := by simpa using f3
        have f4' : v4 = v := by simpa using f4
        subst f0' f1' f2' f3' f4'
        exact ⟨⟨n0, n1, n2, n3, tk⟩, v4, by simpa using e0, by simpa using e1, by simpa using e2, by simpa using e3, by simpa using e4, ht, w1, w2, w3⟩
    obtain ⟨q, hq⟩ := Go.Deep.choose_lt key
    refine ⟨(List.range len).map q, some a, len, cap, rfl, by simp, hl, hm, fun h0 => ?_⟩
    obtain ⟨b, o, sp⟩ := a
    obtain ⟨_, h1, _⟩ := hq 0 (by omega)
    have hspot : sp = none := by simpa [Addr.add] using World.cell?_spot h1
    subst hspot
    refine ⟨b, o, rfl, World.block_lt_of_cell? _ _ h1, fun i x hi => ?_⟩
    rw [List.getElem?_map] at hi
    obtain ⟨j, hj, rfl⟩ := Option.map_eq_some_iff.1 hi
    have hil := (List.getElem?_eq_some_iff.1 hj).1
    rw [List.length_range] at hil
    rw [List.getElem?_range hil] at hj
    cases hj
    obtain ⟨vt, g0, g1, g2, g3, g4, g5, b1, b2, b3⟩ := hq i hil
    rw [add_plain] at g0 g1 g2 g3 g4
    exact ⟨vt, g0, by rw [Nat.add_assoc]; exact g1, by rw [Nat.add_assoc]; exact g2, by rw [Nat.add_assoc]; exact g3, by rw [Nat.add_assoc]; exact g4, g5, bounds_i64 b1, bounds_i64 b2, bounds_i64 b3⟩
theorem OpsAt.below {w w' : World} {v : Value} {l : List PO} (h : OpsAt w v l) (hb : Below w.heap.size w w') : OpsAt w' v l := by
  obtain ⟨ao, n, cap, h1, h2, h3, h4, h5⟩ := h
  refine ⟨ao, n, cap, h1, h2, h3, h4, fun h0 => ?_⟩
  obtain ⟨b, o, e, hbl, hx⟩ := h5 h0
  refine ⟨b, o, e, Nat.lt_of_lt_of_le hbl hb.size, fun i d hd => ?_⟩
  obtain ⟨vt, g0, g1, g2, g3, g4, g5, g6⟩ := hx i d hd
  exact ⟨vt, (hb.cell (p := ⟨b, o + i * 5, none⟩) hbl).trans g0, (hb.cell (p := ⟨b, o + i * 5 + 1, none⟩) hbl).trans g1, (hb.cell (p := ⟨b, o + i * 5 + 2, none⟩) hbl).trans g2, (hb.cell (p := ⟨b, o + i * 5 + 3, none⟩) hbl).trans g3, (hb.cell (p := ⟨b, o + i * 5 + 4, none⟩) hbl).trans g4, g5.keeps (Keeps.of_new (S := fun _ => False) hb) fun _ _ => id, g6⟩
end Go.Proofs.YtppbmhpbbiigaaaDoor

namespace Go.Proofs.YtppbmhpbbiigaaaDoor
open Go.RowKit Go.Maps Pp

/-- What comes of a close. -/
structure CloseP (w w' : World) (ρ : Nat → Role) (pb N : Nat) (g : Got) (vw : Value) : Prop where
  pipes : ∃ ρ', Pipes w' ρ' pb N g.st ∧ (∀ b, ρ' b ≠ .free → ρ b ≠ .free) ∧ ∀ b, vw.ownBlock = some b → ρ' b = .free
  wk : w'.ownsRow w.heap.size 65 3 vw g.wakes.length (cellsK g.wakes)
  keep : Keeps (fun b => ρ b ≠ .free) w w'
/-- So many of a row were gone through. -/
structure CloseJ (w3 wr : World) (ρ1 : Nat → Role) (pb : Nat) (vch : Value) (ptr : List Nat) (mb : Option Nat) (N M : Nat) (s1 : St) (row : List (Int × Nat)) (i : Nat) (av : Value) : Prop where
  at_ : ∃ D', PipesAt wr ρ1 pb vch ptr mb D' N M (wakeAll s1 (row.take i)).1
  wk : wr.ownsRow w3.heap.size 65 3 av (wakeAll s1 (row.take i)).2.length (cellsK (wakeAll s1 (row.take i)).2)
  keep : Keeps (fun b => ρ1 b ≠ .free) w3 wr
theorem wakeAll_len : ∀ (r : List (Int × Nat)) (s : St), (wakeAll s r).2.length ≤ r.length := by
  intro r
  induction r with
  | nil => intro s; exact Nat.le_refl _
  | cons w r ih =>
    intro s
    rw [wakeAll]
    split
    · have := ih (wake s w.1)
      simp only [List.length_cons]
      omega
    · have := ih s
      simp only [List.length_cons]
      omega
theorem wakeAll_take {s : St} {row : List (Int × Nat)} {i : Nat} {x : Int × Nat} (hx : row[i]? = some x) : wakeAll s (row.take (i + 1)) = if ((wakeAll s (row.take i)).1.asks x.1).isSome then (wake (wakeAll s (row.take i)).1 x.1, (wakeAll s (row.take i)).2 ++ [⟨x.1, x.2, 0⟩]) else wakeAll s (row.take i) := by
  have hi := (List.getElem?_eq_some_iff.1 hx).1
  rw [List.take_succ_eq_append_getElem hi, (List.getElem?_eq_some_iff.1 hx).2, wakeAll_snoc]
theorem CloseJ.same {w3 wr w' : World} {ρ1 : Nat → Role} {pb : Nat} {vch : Value} {ptr : List Nat} {mb : Option Nat} {N M : Nat} {s1 : St} {row : List (Int × Nat)} {i : Nat} {av : Value} {x : Int × Nat} (h : CloseJ w3 wr ρ1 pb vch ptr mb N M s1 row i av) (hx : row[i]? = some x)
    (ha : ((wakeAll s1 (row.take i)).1.asks x.1).isSome = false) (hk : Keeps (fun _ => False) wr w') : CloseJ w3 w' ρ1 pb vch ptr mb N M s1 row (i + 1) av := by
  have he : wakeAll s1 (row.take (i + 1)) = wakeAll s1 (row.take i) := by rw [wakeAll_take hx, if_neg (by rw [ha]; decide)]
  obtain ⟨D', h1⟩ := h.at_
  exact ⟨⟨D', by rw [he]; exact h1.keeps hk fun _ _ e => e.elim⟩, by rw [he]; exact hk.row h.wk fun _ _ => id, h.keep.trans (hk.mono fun _ _ e => e.elim)⟩
theorem CloseJ.more {w3 w6 : World} {ρ1 : Nat → Role} {pb : Nat} {vch : Value} {ptr : List Nat} {mb : Option Nat} {N M : Nat} {s1 : St} {row : List (Int × Nat)} {i : Nat} {av' : Value} {x : Int × Nat} {D' : DataW Value} (hx : row[i]? = some x)
    (ha : ((wakeAll s1 (row.take i)).1.asks x.1).isSome = true) (hp : PipesAt w6 ρ1 pb vch ptr mb D' N M (wake (wakeAll s1 (row.take i)).1 x.1))
    (hr : w6.ownsRow w3.heap.size 65 3 av' ((wakeAll s1 (row.take i)).2 ++ [Wk.mk x.1 x.2 0]).length (cellsK ((wakeAll s1 (row.take i)).2 ++ [Wk.mk x.1 x.2 0]))) (hk : Keeps (fun b => ρ1 b ≠ .free) w3 w6) : CloseJ w3 w6 ρ1 pb vch ptr mb N M s1 row (i + 1) av' := by
  have he : wakeAll s1 (row.take (i + 1)) = (wake (wakeAll s1 (row.take i)).1 x.1, (wakeAll s1 (row.take i)).2 ++ [⟨x.1, x.2, 0⟩]) := by rw [wakeAll_take hx, if_pos ha]
  exact ⟨⟨D', by rw [he]; exact hp⟩, by rw [he]; exact hr, hk⟩
theorem CloseP.same {w : World} {ρ : Nat → Role} {pb N : Nat} {s : St} (h : Pipes w ρ pb N s) (er : Int) : CloseP w w ρ pb N ⟨s, 0, [], er⟩ (.slice none 0 0) :=
  ⟨⟨ρ, h, fun _ e => e, fun b hb => by cases hb⟩, World.ownsRow_nil _ _ _ _, Keeps.refl _ _⟩

set_option maxRecDepth 100000 in
set_option maxHeartbeats 6400000 in
theorem close_any {w : World} {ρ : Nat → Role} {pb N : Nat} {s : St} (h : Pipes w ρ pb N s) (hN : N ≤ 100000) (c : Int) :
    Calls Tryd.prog 12 #[.pointer (some ⟨pb, 0, none⟩), .int .i64 c] w fun e w' => ∃ vw, e = .returned (.tuple #[vw, errV (Pp.close s c).err]) ∧ CloseP w w' ρ pb N (Pp.close s c) vw := by
  have hrok : Ok (Pp.close s c).st := h.1.close c
  obtain ⟨r, hr⟩ : ∃ r, Pp.close s c = r := ⟨_, rfl⟩
  rw [hr] at hrok ⊢
  have HH := Lib.hid h
  obtain ⟨hok, vch, ptr, mb, D, hp⟩ := h
  have HP := Lib.hid hp
  have HROK := Lib.hid hrok
  have HOK := Lib.hid hok
  have HR := Lib.hid hr
  clear hok hp hrok hr
  cases hm : may s.chs.length c with
  | false =>
    have hre : r = ⟨s, 0, [], 2⟩ := by rw [← HR.out]; unfold Pp.close; rw [if_pos hm]
    have HC := Lib.hid (CloseP.same HH.out 2)
    subst hre
    go_enter Tryd.func12, Tryd.ntmps12
    go_wp2_with fail
    refine (may_any HP.out c).mono ?_
    rintro e w' ⟨rfl, rfl⟩
    rw [hm]
    go_wp2_with fail
    go_ret2
    exact ⟨_, rfl, HC.out⟩
  | true =>
    have HM := Lib.hid hm
    rcases HP.out.chan hm with ⟨h0, hn0, hc0⟩ | ⟨k, cb, rb, sb, v1, v2, x, hck, hx, hcb, hcp, hcx, hch⟩
    · have hre : r = ⟨s, 0, [], 1⟩ := by rw [← HR.out]; unfold Pp.close; rw [if_neg (by rw [hm]; decide), hc0]
      have HC := Lib.hid (CloseP.same HH.out 1)
      have HN0 := Lib.hid hn0
      subst hre
      clear hm h0 hn0 hc0
      go_enter Tryd.func12, Tryd.ntmps12
      go_wp2_with fail
      refine (may_any HP.out c).mono ?_
      rintro e w' ⟨rfl, rfl⟩
      rw [HM.out]
      go_wp2_with fail
      refine (channel_any HP.out c HM.out).mono ?_
      rintro e w' ⟨rfl, rfl⟩
      rw [HN0.out]
      go_wp2_with fail
      go_ret2
      exact ⟨_, rfl, HC.out⟩
    · have hre1 : x.shut = true → r = ⟨s, 0, [], 1⟩ := fun e => by rw [← HR.out]; unfold Pp.close; rw [if_neg (by rw [hm]; decide), hcx]; simp only; rw [if_pos e]
      have hre2 : x.shut = false → 0 < x.sends.length → r = ⟨s, 0, [], 13⟩ := fun e e2 => by rw [← HR.out]; unfold Pp.close; rw [if_neg (by rw [hm]; decide), hcx]; simp only; rw [if_neg (by rw [e]; decide), if_pos e2]
      have hre3 : x.shut = false → ¬ 0 < x.sends.length → r = ⟨(wakeAll ⟨s.chs.modify k fun c => { c with shut := true, recvs := [] }, s.asks⟩ x.recvs).1, 0, (wakeAll ⟨s.chs.modify k fun c => { c with shut := true, recvs := [] }, s.asks⟩ x.recvs).2, 0⟩ := fun e e2 => by
        rw [← HR.out]; unfold Pp.close; rw [if_neg (by rw [hm]; decide), hcx]; simp only; rw [if_neg (by rw [e]; decide), if_neg e2, show (c - 1).toNat = k by omega]
      have HCP := Lib.hid hcp
      obtain ⟨a1, k1, hv1, _, _⟩ := hch.r1.slice
      obtain ⟨a2, k2, hv2, _, _⟩ := hch.r2.slice
      subst hv1
      subst hv2
      have c1 := hch.c1
      have c2 := hch.c2
      have c3 := hch.c3
      have z1 := hch.z 1
      have z3 := hch.z 3
      have HCH := Lib.hid hch
      have HX := Lib.hid hx
      have HCB := Lib.hid hcb
      have HROWS := Lib.hid (HP.out.rows k x hx)
      clear hm hch hx hcb hcp hcx hck
      cases hs : x.shut with
      | true =>
        have hre := hre1 hs
        have HC := Lib.hid (CloseP.same HH.out 1)
        subst hre
        rw [hs] at c1
        clear hre1 hre2 hre3 hs z1 z3
        go_enter Tryd.func12, Tryd.ntmps12
        go_wp2_with fail
        refine (may_any HP.out c).mono ?_
        rintro e w' ⟨rfl, rfl⟩
        rw [HM.out]
        go_wp2_with fail
        refine (channel_any HP.out c HM.out).mono ?_
        rintro e w' ⟨rfl, rfl⟩
        rw [HCP.out]
        go_wp2_with fail
        go_ret2
        exact ⟨_, rfl, HC.out⟩
      | false =>
        rw [hs] at c1
        rcases Nat.eq_zero_or_pos x.sends.length with h0 | h0
        · have hre := hre3 hs (by omega)
          have hsh := HP.out.shuts HCB.out HX.out HCH.out
          have HSH := Lib.hid hsh
          have HRE := Lib.hid hre
          rw [h0] at c2
          have z0 : ¬ (0 : Int) < ((0 : Nat) : Int) := by decide
          have c3' : (w.setCell ⟨cb, 1, none⟩ (.bool true)).cell? ⟨cb, 3, none⟩ = some (.slice a2 x.recvs.length k2) := by rw [cell_set_other (off_ne (by decide) cb)]; exact c3
          have z3' : (w.setCell ⟨cb, 1, none⟩ (.bool true)).frozen? ⟨cb, 3, none⟩ = false := by rw [World.frozen?_setCell]; exact z3
          have hszw : (shutW w cb).heap.size = w.heap.size := by unfold shutW; simp
          have HSZW := Lib.hid hszw
          obtain ⟨row, hrow⟩ : ∃ row, row = x.recvs := ⟨_, rfl⟩
          have HROW := Lib.hid hrow
          obtain ⟨n, hn⟩ : ∃ n, n = row.length := ⟨_, rfl⟩
          have HNR := Lib.hid hn
          rw [← hrow, ← hn] at c3 c3'
          have hnl : n ≤ 600000 := by rw [hn, hrow]; have := HROWS.out.2; omega
          obtain ⟨s1, hs1⟩ : ∃ s1 : St, s1 = ⟨s.chs.modify k fun c => { c with shut := true, recvs := [] }, s.asks⟩ := ⟨_, rfl⟩
          have HS1 := Lib.hid hs1
          have HOK1 : Hid (Ok s1) := Lib.hid (by
            rw [hs1]
            exact HOK.out.modify k (fun c => { c with shut := true, recvs := [] }) (fun _ _ e => e) (fun _ _ e => absurd e List.not_mem_nil) fun c' hc' => ⟨rfl, (HOK.out.caps _ c' hc').2⟩)
          have HP1 : Hid (PipesAt (shutW w cb) (freeOf ρ (.slice a2 x.recvs.length k2)) pb vch ptr mb D N (6 * N) s1) := Lib.hid (by rw [hs1]; exact hsh.1)
          have HRW1 : Hid (RowW (shutW w cb) (.slice a2 n k2) row) := Lib.hid (by
            rw [hn, hrow]
            exact HCH.out.r2.keeps hsh.2 fun b hb e => by
              have h1 := HCH.out.p4 b hb
              rw [e, HCH.out.p0] at h1
              cases h1)
          have HFR : Hid (∀ b, (Value.slice a2 n k2).ownBlock = some b → freeOf ρ (.slice a2 x.recvs.length k2) b = .free) := Lib.hid fun b hb => freeOf_own (by rw [← hrow, ← hn]; exact hb)
          have HSUBR : Hid (∀ b, freeOf ρ (.slice a2 x.recvs.length k2) b ≠ .free → ρ b ≠ .free) := Lib.hid fun b hb => freeOf_sub hb
          have HRE2 : Hid (r = ⟨(wakeAll s1 row).1, 0, (wakeAll s1 row).2, 0⟩) := Lib.hid (by rw [hre, hs1, hrow])
          have HSUB : Hid (∀ b, freeOf ρ (.slice a2 x.recvs.length k2) b ≠ .free → b < w.heap.size) := Lib.hid fun b hb => HP.out.dom b (freeOf_sub hb)
          clear hre hre1 hre2 hre3 hs hsh h0 hrow hn hs1 hszw
          go_enter Tryd.func12, Tryd.ntmps12
          go_wp2_with fail
          refine (may_any HP.out c).mono ?_
          rintro e w' ⟨rfl, rfl⟩
          rw [HM.out]
          go_wp2_with fail
          refine (channel_any HP.out c HM.out).mono ?_
          rintro e w' ⟨rfl, rfl⟩
          rw [HCP.out]
          go_wp2_with fail
          change Code.wp _ _ _ _ (shutW w cb)
          generalize freeOf ρ (.slice a2 x.recvs.length k2) = ρ1 at *
          obtain ⟨w3, hw3⟩ : ∃ w3, w3 = shutW w cb := ⟨_, rfl⟩
          rw [← hw3] at HSH HP1 HRW1 HSZW ⊢
          clear hw3 c1 c2 c3 c3' z1 z3 z3' z0
          have HJ0 : Hid (CloseJ w3 w3 ρ1 pb vch ptr mb N (6 * N) s1 row 0 (.slice none 0 0)) := Lib.hid ⟨⟨D, HP1.out⟩, World.ownsRow_nil _ _ _ _, Keeps.refl _ _⟩
          go_loopw [8, 49] (fun av iv wr => ∃ i : Nat, i ≤ n ∧ iv = .int .i64 i ∧ CloseJ w3 wr ρ1 pb vch ptr mb N (6 * N) s1 row i av) (fun _ iv _ => n - (intOf iv).toNat)
          case atStart => exact ⟨0, Nat.zero_le _, rfl, HJ0.out⟩
          case round =>
            obtain ⟨i, hi, rfl, hJ⟩ := hrel
            rename World => wr
            obtain ⟨aw, kw, hav⟩ := own_sliceK hJ.wk
            subst hav
            have HJ := Lib.hid hJ
            have hwl := wakeAll_len (row.take i) s1
            rw [List.length_take] at hwl
            have hwl2 : (wakeAll s1 (row.take i)).2.length ≤ 600000 := by omega
            clear hJ HJ0 hwl
            by_cases hin : i < n
            · obtain ⟨⟨xt, xk⟩, hxi⟩ : ∃ y, row[i]? = some y := ⟨_, List.getElem?_eq_getElem (by rw [← HNR.out]; exact hin)⟩
              have hrw : RowW wr (.slice a2 n k2) row := HRW1.out.keeps HJ.out.keep fun b hb e => e (HFR.out b hb)
              obtain ⟨g, rfl, -, -, -, hgl, -⟩ := hrw.addr (by rw [← HNR.out]; omega)
              obtain ⟨y1, y2⟩ := hrw.cell hxi
              simp only at y1 y2
              obtain ⟨D', hpa⟩ := HJ.out.at_
              have hka := alloc_new wr (.cells #[.int .i64 xt, .int .i64 (xk : Nat)] 90)
              have hpa2 := hpa.keeps hka fun _ _ e => e.elim
              have hwf : (Lit.int .i64 xt).wf = true := by
                by_cases e : x.recvs = row
                · obtain ⟨l, y, h1, _⟩ := HOK.out.recvs k x HX.out (xt, xk) (by rw [e]; exact List.mem_of_getElem? hxi)
                  exact (HP.out.talk xt l h1).1
                · exact absurd HROW.out.symm e
              obtain ⟨u, hlk⟩ := hpa2.waitsN hwf
              have p1 := hpa2.c1
              have q0 : (wr.alloc (.cells #[.int .i64 xt, .int .i64 (xk : Nat)] 90)).cell? ⟨wr.heap.size, 0, none⟩ = some (.int .i64 xt) := by rw [World.cell?_alloc_at _ _ _ _ rfl]; rfl
              have q1 : (wr.alloc (.cells #[.int .i64 xt, .int .i64 (xk : Nat)] 90)).cell? ⟨wr.heap.size, 1, none⟩ = some (.int .i64 (xk : Nat)) := by rw [World.cell?_alloc_at _ _ _ _ rfl]; rfl
              have HPA := Lib.hid hpa2
              have HKA := Lib.hid hka
              have HXI := Lib.hid hxi
              have hii : (0 : Int) ≤ (i : Int) ∧ (i : Int) < (n : Int) := by omega
              have HBW : Hid (w3.heap.size ≤ wr.heap.size) := Lib.hid HJ.out.keep.size
              have HOKI : Hid (Ok (wakeAll s1 (row.take i)).1) := Lib.hid (HOK1.out.wakeAll _)
              have HTK := Lib.hid (wakeAll_take (s := s1) hxi)
              clear hpa hpa2 hka hwf hxi hrw
              cases hask : ((wakeAll s1 (row.take i)).1.asks xt).isSome with
              | true =>
                rw [hask] at hlk
                have HASK := Lib.hid hask
                clear hask
                go_wp2_with fail
                go_quiet (fail)
                clear hlk
                go_upto_region 17 with fail
                have HPQ : Hid (PipesAt ((wr.alloc (.cells #[.int .i64 xt, .int .i64 (xk : Nat)] 90)).drewN nq) ρ1 pb vch ptr mb D' N (6 * N) (wakeAll s1 (row.take i)).1) := Lib.hid (HPA.out.keeps (keeps_drewN (Keeps.refl (fun _ => False) _) nq) fun _ _ e => e.elim)
                have HKQ : Hid (Keeps (fun _ => False) wr ((wr.alloc (.cells #[.int .i64 xt, .int .i64 (xk : Nat)] 90)).drewN nq)) := Lib.hid (keeps_drewN HKA.out nq)
                have r0 : ((wr.alloc (.cells #[.int .i64 xt, .int .i64 (xk : Nat)] 90)).drewN nq).cell? ⟨wr.heap.size, 0, none⟩ = some (.int .i64 xt) := q0
                have r1 : ((wr.alloc (.cells #[.int .i64 xt, .int .i64 (xk : Nat)] 90)).drewN nq).cell? ⟨wr.heap.size, 1, none⟩ = some (.int .i64 (xk : Nat)) := q1
                clear q0 q1 p1 HPA HKA
                generalize (wr.alloc (.cells #[.int .i64 xt, .int .i64 (xk : Nat)] 90)).drewN nq = wq at *
                obtain ⟨l, hl⟩ := Option.isSome_iff_exists.1 HASK.out
                have HWK := Lib.hid (wake_any HPQ.out (by omega) xt xk 0 hl (fun x hx => (HOKI.out.talks _ _ hl).2 x hx) (HOKI.out.talks _ _ hl).1)
                clear hl
                go_wp2_with fail
                refine HWK.out.mono ?_
                rintro e w5 ⟨rfl, ⟨D5, h5⟩, hk5⟩
                have HP5 := Lib.hid h5
                have HOWN : Hid (∀ b, (Value.slice aw (wakeAll s1 (row.take i)).2.length kw).ownBlock = some b → ρ1 b = .free) := Lib.hid fun b hb => Classical.byContradiction fun e => by
                  have h7 := HSUB.out b e
                  have h8 := (World.ownsRow.lt HJ.out.wk b hb).1
                  have h9 := HSZW.out
                  omega
                have HK5 : Hid (Keeps (fun b => ρ1 b ≠ .free) wr w5) := Lib.hid ((HKQ.out.mono fun _ _ e => e.elim).trans hk5)
                have HW5 := Lib.hid (HK5.out.row HJ.out.wk fun b hb e => e (HOWN.out b hb))
                have HB5 : Hid (w3.heap.size ≤ w5.heap.size) := Lib.hid (Nat.le_trans HBW.out HK5.out.size)
                clear h5 hk5 r0 r1
                go_wp2_with (at_builtin; refine wpList_appendK rfl _ _ rfl w5 w3.heap.size _ (wakeAll s1 (row.take i)).2 ⟨xt, xk, 0⟩ HW5.out rfl rfl rfl (by omega) HB5.out ?_; intro a6 c6 w6 hO6 hK6; have HO6 := Lib.hid hO6; have HK6 := Lib.hid hK6; clear hO6 hK6)
                have HJ6 : Hid (CloseJ w3 w6 ρ1 pb vch ptr mb N (6 * N) s1 row (i + 1) (.slice a6 ((wakeAll s1 (row.take i)).2 ++ [Wk.mk xt xk 0]).length c6)) := Lib.hid (CloseJ.more HXI.out HASK.out (HP5.out.keeps HK6.out fun b _ e => HOWN.out b e) HO6.out ((HJ.out.keep.trans HK5.out).trans' HK6.out fun b hb e => by
                  have h8 := (World.ownsRow.lt HJ.out.wk b e).1
                  omega))
                go_roundw
                case rel =>
                  have := HJ6.out
                  rw [List.length_append] at this
                  exact ⟨i + 1, by omega, by go_num, this⟩
                case measure => simp [intOf]; omega
              | false =>
                rw [hask] at hlk
                have HASK := Lib.hid hask
                clear hask
                go_wp2_with fail
                go_quiet (fail)
                clear hlk
                have HJ6 := Lib.hid (HJ.out.same HXI.out HASK.out (keeps_drewN HKA.out nq))
                go_wp2_with fail
                go_roundw
                case rel => exact ⟨i + 1, by omega, by go_num, HJ6.out⟩
                case measure => simp [intOf]; omega
            · obtain rfl : i = n := by omega
              have hii : ¬ (i : Int) < (i : Int) := by omega
              go_wp2_with fail
              go_ret2
              have ht : row.take i = row := by rw [HNR.out]; exact List.take_length
              obtain ⟨⟨D', hp9⟩, hw9, hk9⟩ := HJ.out
              rw [ht] at hp9 hw9 ⊢
              have hro := HROK.out
              have hre := HRE2.out
              subst hre
              refine ⟨_, rfl, ⟨ρ1, ⟨hro, vch, ptr, mb, D', hp9⟩, HSUBR.out, fun b hb => Classical.byContradiction fun e => ?_⟩, ?_, ?_⟩
              · have h7 := HSUB.out b e
                have h8 := (World.ownsRow.lt hw9 b hb).1
                have h9 := HSZW.out
                omega
              · rw [← HSZW.out]; exact hw9
              · exact (HSH.out.2.mono fun b _ e => by rw [e, HCH.out.p0]; simp).trans (hk9.mono fun b _ e => HSUBR.out b e)
        · have hre := hre2 hs h0
          have HC := Lib.hid (CloseP.same HH.out 13)
          subst hre
          have h0i : (0 : Int) < (x.sends.length : Int) := by omega
          clear hre1 hre2 hre3 hs z1 z3
          go_enter Tryd.func12, Tryd.ntmps12
          go_wp2_with fail
          refine (may_any HP.out c).mono ?_
          rintro e w' ⟨rfl, rfl⟩
          rw [HM.out]
          go_wp2_with fail
          refine (channel_any HP.out c HM.out).mono ?_
          rintro e w' ⟨rfl, rfl⟩
          rw [HCP.out]
          go_wp2_with fail
          go_ret2
          exact ⟨_, rfl, HC.out⟩
end Go.Proofs.YtppbmhpbbiigaaaDoor

namespace Go.Proofs.YtppbmhpbbiigaaaDoor
open Go.RowKit Go.Extern.Stop Go.Stop Go.Extern
namespace As

theorem valueOfP (t : Addr) (w : World) : (ReflectliteValue.unpack (.iface 107 (.pointer (some t)))).run Tryd.prog w
    = .ok (.agg #[.pointer (some ⟨1, 107, none⟩), .pointer (some ⟨w.heap.size, 0, none⟩), .int .u64 150]) (w.alloc (.cells #[.pointer (some t)] 107)) := by kernel_rfl
theorem typeP (a : Addr) (w : World) : (ReflectliteValue.methodAny (ReflectliteValue.valueError "reflectlite.Value.Type" 0) (fun t _ _ _ => ReflectliteType.toType t) #[.agg #[.pointer (some ⟨1, 107, none⟩), .pointer (some a), .int .u64 150]]).run Tryd.prog w
    = .ok (.iface 146 (.agg #[.pointer (some ⟨1, 107, none⟩)])) w := by kernel_rfl
theorem methodKind (h : Value) (w : World) : (Go.method 287 146 (.agg #[h]) "Kind").run Tryd.prog w = .ok (83, h) w := by kernel_rfl
theorem kindP (w : World) : ((ReflectliteType.abiMethod fun t => (fun a : Nat => Value.int IntKind.u8 (a : Int)) <$> Rtype.kind t) #[.pointer (some ⟨1, 107, none⟩)]).run Tryd.prog w = .ok (.int .u8 22) w := by kernel_rfl
theorem kindE (w : World) : ((ReflectliteType.abiMethod fun t => (fun a : Nat => Value.int IntKind.u8 (a : Int)) <$> Rtype.kind t) #[.pointer (some ⟨1, 35, none⟩)]).run Tryd.prog w = .ok (.int .u8 2) w := by kernel_rfl
theorem partsP (a : Addr) (w : World) : (ReflectliteValue.parts (.agg #[.pointer (some ⟨1, 107, none⟩), .pointer (some a), .int .u64 150])).run Tryd.prog w = .ok (some (107, a, 150)) w := by kernel_rfl
theorem isNilP (a p : Addr) (W : World) (ha : W.cell? a = some (.pointer (some p))) :
    (ReflectliteValue.method (ReflectliteValue.valueError "reflectlite.Value.IsNil" 0) ReflectliteValue.isNil #[.agg #[.pointer (some ⟨1, 107, none⟩), .pointer (some a), .int .u64 150]]).run Tryd.prog W = .ok (.bool false) W := by
  refine Eq.trans (b := (ReflectliteValue.isNil 107 a 150 22).run Tryd.prog W) (by kernel_rfl) ?_
  simp [ReflectliteValue.isNil, loadVar, isAgg, underlying, Tryd.underlying107, ha, Result.andThen]
theorem methodElem (h : Value) (w : World) : (Go.method 287 146 (.agg #[h]) "Elem").run Tryd.prog w = .ok (95, .agg #[h]) w := by kernel_rfl
theorem methodAssignableTo (h : Value) (w : World) : (Go.method 287 146 (.agg #[h]) "AssignableTo").run Tryd.prog w = .ok (93, .agg #[h]) w := by kernel_rfl
theorem methodImplements (h : Value) (w : World) : (Go.method 287 146 (.agg #[h]) "Implements").run Tryd.prog w = .ok (96, .agg #[h]) w := by kernel_rfl
theorem elemT (w : World) : (ReflectliteType.method ReflectliteType.elem #[.agg #[.pointer (some ⟨1, 107, none⟩)]]).run Tryd.prog w = .ok (.iface 146 (.agg #[.pointer (some ⟨1, 35, none⟩)])) w := by kernel_rfl
theorem implementsE (w : World) : (ReflectliteType.relation "Implements" ReflectliteType.implements_ #[.agg #[.pointer (some ⟨1, 35, none⟩)], .iface 146 (.agg #[.pointer (some ⟨1, 39, none⟩)])]).run Tryd.prog w = .ok (.bool true) w := by kernel_rfl
theorem typeOfE (v : Value) (w : World) : (ReflectliteType.typeOf #[.iface 35 v]).run Tryd.prog w = .ok (.iface 146 (.agg #[.pointer (some ⟨1, 35, none⟩)])) w := by kernel_rfl
theorem assignableE (w : World) : (ReflectliteType.relation "AssignableTo" ReflectliteType.assignableTo #[.agg #[.pointer (some ⟨1, 35, none⟩)], .iface 146 (.agg #[.pointer (some ⟨1, 35, none⟩)])]).run Tryd.prog w = .ok (.bool true) w := by kernel_rfl
theorem valueOfE (k : Int) (w : World) : (ReflectliteValue.unpack (.iface 35 (.int .i64 k))).run Tryd.prog w
    = .ok (.agg #[.pointer (some ⟨1, 35, none⟩), .pointer (some ⟨w.heap.size, 0, none⟩), .int .u64 130]) (w.alloc (.cells #[.int .i64 k] 35)) := by kernel_rfl
theorem elemOfP (w : World) : (Rtype.elem? 107).run Tryd.prog w = .ok (some 35) w := by kernel_rfl
theorem mkE (p : Addr) (w : World) : (ReflectliteValue.mk 35 p ReflectliteValue.flagAddr).run Tryd.prog w = .ok (.agg #[.pointer (some ⟨1, 35, none⟩), .pointer (some p), .int .u64 386]) w := by kernel_rfl
theorem elemV (a p : Addr) (W : World) (ha : W.cell? a = some (.pointer (some p))) :
    (ReflectliteValue.method (ReflectliteValue.valueError "reflectlite.Value.Elem" 0) ReflectliteValue.elem #[.agg #[.pointer (some ⟨1, 107, none⟩), .pointer (some a), .int .u64 150]]).run Tryd.prog W
      = .ok (.agg #[.pointer (some ⟨1, 35, none⟩), .pointer (some p), .int .u64 386]) W := by
  refine Eq.trans (b := (ReflectliteValue.elem 107 a 150 22).run Tryd.prog W) (by kernel_rfl) ?_
  simp [ReflectliteValue.elem, loadVar, isAgg, underlying, Tryd.underlying107, ha, Result.andThen, elemOfP, mkE]
theorem partsEa (a : Addr) (w : World) : (ReflectliteValue.parts (.agg #[.pointer (some ⟨1, 35, none⟩), .pointer (some a), .int .u64 386])).run Tryd.prog w = .ok (some (35, a, 386)) w := by kernel_rfl
theorem partsE (a : Addr) (w : World) : (ReflectliteValue.parts (.agg #[.pointer (some ⟨1, 35, none⟩), .pointer (some a), .int .u64 130])).run Tryd.prog w = .ok (some (35, a, 130)) w := by kernel_rfl
theorem directE (w : World) : (Rtype.directlyAssignable 35 35).run Tryd.prog w = .ok true w := by kernel_rfl
theorem setE (ta b : Addr) (k : Int) (old : Value) (W : World) (hb : W.cell? b = some (.int .i64 k)) (ht : W.cell? ta = some old) (hf : W.frozen? ta = false) :
    (ReflectliteValue.set #[.agg #[.pointer (some ⟨1, 35, none⟩), .pointer (some ta), .int .u64 386], .agg #[.pointer (some ⟨1, 35, none⟩), .pointer (some b), .int .u64 130]]).run Tryd.prog W
      = .ok (.tuple #[]) (W.setCell ta (.int .i64 k)) := by
  have hset := fun v x : Value => id (α := ReflectliteValue.set #[v, x] = (ReflectliteValue.parts v >>= fun p => ReflectliteValue.parts x >>= _)) rfl
  rw [hset]
  simp only [Sem.run_bind, partsEa, partsE, Result.andThen]
  simp [ReflectliteValue.flagAddr, loadVar, isAgg, underlying, Tryd.underlying35, hb, Result.andThen, directE, storeVar, Value.cells, storeCells, Addr.add]
  rw [run_store Tryd.prog W ta _ _ (by rfl)]
  simp [ht, hf]
end As
end Go.Proofs.YtppbmhpbbiigaaaDoor

namespace Go.Proofs.YtppbmhpbbiigaaaDoor
open Go.RowKit Go.Extern.Stop Go.Stop Go.Extern

/-- The variable errors.errorType, as it is laid. -/
def ErrT (w : World) : Prop := w.cell? ⟨0, 0, none⟩ = some (.iface 146 (.agg #[.pointer (some ⟨1, 39, none⟩)]))

set_option maxRecDepth 100000 in
set_option maxHeartbeats 4000000 in
theorem asErrno_any (k : Int) (t : Addr) (old : Value) (w : World) (hg : ErrT w) (ht0 : w.cell? t = some old) (hf0 : w.frozen? t = false) :
    Calls Tryd.prog 45 #[.iface 35 (.int .i64 k), .iface 107 (.pointer (some t))] w fun ev w' => ev = .returned (.bool true) ∧ w'.cell? t = some (.int .i64 k) ∧ Below t.block w w' := by
  unfold ErrT at hg
  have h6 := @run_callFunc_extern Tryd.prog 56 _ (fun args => ReflectliteValue.unpack (args.getD 0 (.tuple #[]))) Tryd.func56 (by kernel_rfl) (by kernel_rfl) (by kernel_rfl) (by kernel_rfl)
  have h7 := @run_callFunc_extern Tryd.prog 57 _ (ReflectliteValue.methodAny (ReflectliteValue.valueError "reflectlite.Value.Type" 0) (fun t _ _ _ => ReflectliteType.toType t)) Tryd.func57 (by kernel_rfl) (by kernel_rfl) (by kernel_rfl) (by kernel_rfl)
  have h8 := @run_callFunc_extern Tryd.prog 58 _ (ReflectliteValue.method (ReflectliteValue.valueError "reflectlite.Value.IsNil" 0) ReflectliteValue.isNil) Tryd.func58 (by kernel_rfl) (by kernel_rfl) (by kernel_rfl) (by kernel_rfl)
  have h27 := @run_callFunc_extern Tryd.prog 83 _ (ReflectliteType.abiMethod fun t => do pure (.int .u8 (← Rtype.kind t))) Tryd.func83 (by kernel_rfl) (by kernel_rfl) (by kernel_rfl) (by kernel_rfl)
  have h37 := @run_callFunc_extern Tryd.prog 95 _ (ReflectliteType.method ReflectliteType.elem) Tryd.func95 (by kernel_rfl) (by kernel_rfl) (by kernel_rfl) (by kernel_rfl)
  have h38 := @run_callFunc_extern Tryd.prog 96 _ (ReflectliteType.relation "Implements" ReflectliteType.implements_) Tryd.func96 (by kernel_rfl) (by kernel_rfl) (by kernel_rfl) (by kernel_rfl)
  have h10 := @run_callFunc_extern Tryd.prog 65 _ ReflectliteType.typeOf Tryd.func65 (by kernel_rfl) (by kernel_rfl) (by kernel_rfl) (by kernel_rfl)
  have h35 := @run_callFunc_extern Tryd.prog 93 _ (ReflectliteType.relation "AssignableTo" ReflectliteType.assignableTo) Tryd.func93 (by kernel_rfl) (by kernel_rfl) (by kernel_rfl) (by kernel_rfl)
  have h11 := @run_callFunc_extern Tryd.prog 66 _ (ReflectliteValue.method (ReflectliteValue.valueError "reflectlite.Value.Elem" 0) ReflectliteValue.elem) Tryd.func66 (by kernel_rfl) (by kernel_rfl) (by kernel_rfl) (by kernel_rfl)
  have h12 := @run_callFunc_extern Tryd.prog 67 _ ReflectliteValue.set Tryd.func67 (by kernel_rfl) (by kernel_rfl) (by kernel_rfl) (by kernel_rfl)
  have tO := As.typeOfE
  have mA := As.methodAssignableTo
  have aE := As.assignableE
  have vE := As.valueOfE
  have f6 := As.valueOfP
  have f7 := As.typeP
  have mK := As.methodKind
  have mE := As.methodElem
  have mI := As.methodImplements
  have kP := As.kindP
  have kE := As.kindE
  have eT := As.elemT
  have iE := As.implementsE
  have n8 := As.isNilP ⟨w.heap.size, 0, none⟩ t ((w.alloc (.cells #[.pointer (some t)] 107)).alloc (.cells #[.pointer (some ⟨1, 107, none⟩), .pointer (some ⟨w.heap.size, 0, none⟩), .int .u64 150] 131)) (by simp)
  have hlt : 0 < w.heap.size := block_lt_of_cell hg
  have hg2 : ((w.alloc (.cells #[.pointer (some t)] 107)).alloc (.cells #[.pointer (some ⟨1, 107, none⟩), .pointer (some ⟨w.heap.size, 0, none⟩), .int .u64 150] 131)).cell? ⟨0, 0, none⟩ = some (.iface 146 (.agg #[.pointer (some ⟨1, 39, none⟩)])) := by
    rw [World.cell?_alloc_lt _ _ ⟨0, 0, none⟩ (by first | (simp; done) | (simp; omega)), World.cell?_alloc_lt _ _ ⟨0, 0, none⟩ hlt]; exact hg
  have htl : t.block < w.heap.size := block_lt_of_cell ht0
  have el := As.elemV ⟨w.heap.size, 0, none⟩ t (((w.alloc (.cells #[.pointer (some t)] 107)).alloc (.cells #[.pointer (some ⟨1, 107, none⟩), .pointer (some ⟨w.heap.size, 0, none⟩), .int .u64 150] 131)).alloc (.cells #[.pointer (some ⟨1, 107, none⟩), .pointer (some ⟨w.heap.size, 0, none⟩), .int .u64 150] 131)) (by rw [World.cell?_alloc_lt _ _ ⟨w.heap.size, 0, none⟩ (by simp; omega)]; simp)
  have hct : ((((w.alloc (.cells #[.pointer (some t)] 107)).alloc (.cells #[.pointer (some ⟨1, 107, none⟩), .pointer (some ⟨w.heap.size, 0, none⟩), .int .u64 150] 131)).alloc (.cells #[.pointer (some ⟨1, 107, none⟩), .pointer (some ⟨w.heap.size, 0, none⟩), .int .u64 150] 131)).alloc (.cells #[.int .i64 k] 35)).cell? t = some old := by
    rw [World.cell?_alloc_lt _ _ t (by simp; omega), World.cell?_alloc_lt _ _ t (by simp; omega), World.cell?_alloc_lt _ _ t (by simp; omega), World.cell?_alloc_lt _ _ t htl]; exact ht0
  have st := As.setE t ⟨w.heap.size + 1 + 1 + 1, 0, none⟩ k old ((((w.alloc (.cells #[.pointer (some t)] 107)).alloc (.cells #[.pointer (some ⟨1, 107, none⟩), .pointer (some ⟨w.heap.size, 0, none⟩), .int .u64 150] 131)).alloc (.cells #[.pointer (some ⟨1, 107, none⟩), .pointer (some ⟨w.heap.size, 0, none⟩), .int .u64 150] 131)).alloc (.cells #[.int .i64 k] 35))
    (by rw [World.cell?_alloc_at _ _ _ _ (by simp)]; rfl) hct
    (by rw [World.frozen?_alloc_old _ _ t (by simp; omega), World.frozen?_alloc_old _ _ t (by simp; omega), World.frozen?_alloc_old _ _ t (by simp; omega), World.frozen?_alloc_old _ _ t (Nat.ne_of_lt htl)]; exact hf0)
  have HCT := Lib.hid hct
  clear hct
  go_enter Tryd.func45, Tryd.ntmps45
  go_wp2
  refine wp_loop_rounds 1 ?_
  rw [rounds_succ]
  go_wp2
  go_ret
  refine ⟨rfl, ?_, ?_⟩
  · exact World.cell?_setCell_same _ _ _ HCT.out
  · exact (((((Below.refl _ _).alloc (by omega) _).alloc (by simp; omega) _).alloc (by simp; omega) _).alloc (by simp; omega) _).setCell (Nat.le_refl _) _
end Go.Proofs.YtppbmhpbbiigaaaDoor

namespace Go.Proofs.YtppbmhpbbiigaaaDoor
open Go.RowKit

set_option maxRecDepth 100000 in
set_option maxHeartbeats 800000 in
theorem tell_nil (w : World) : Calls Tryd.prog 24 #[.nilIface] w fun e w' => e = .returned (.int .i64 0) ∧ w = w' := by
  go_enter Tryd.func24, Tryd.ntmps24
  go_wp2
  go_ret
  exact ⟨rfl, rfl⟩

theorem ErrT.alloc {w : World} (h : ErrT w) (o : Obj) : ErrT (w.alloc o) := by
  have hlt : 0 < w.heap.size := block_lt_of_cell h
  unfold ErrT
  rw [World.cell?_alloc_lt _ _ ⟨0, 0, none⟩ hlt]; exact h
theorem ErrT.below {w w' : World} {B : Nat} (h : ErrT w) (hb : Below B w w') (hB : 0 < B) : ErrT w' := by
  unfold ErrT
  rw [hb.cell (p := ⟨0, 0, none⟩) hB]; exact h

set_option maxRecDepth 100000 in
set_option maxHeartbeats 800000 in
theorem tell_errno (k : Int) (w : World) (hE : ErrT w) : Calls Tryd.prog 24 #[.iface 35 (.int .i64 k)] w fun e w' => e = .returned (.int .i64 k) ∧ Below w.heap.size w w' := by
  have HE := Lib.hid (hE.alloc (.cells #[.int .i64 0] 35))
  have hlt : 0 < w.heap.size := block_lt_of_cell hE
  clear hE
  go_enter Tryd.func24, Tryd.ntmps24
  go_wp2_with fail
  refine (asErrno_any k ⟨w.heap.size, 0, none⟩ (.int .i64 0) _ HE.out (by simp) (by simp)).mono ?_
  rintro e w1 ⟨rfl, hc, hb⟩
  go_wp2_with fail
  go_ret
  exact ⟨rfl, ((Below.refl _ _).alloc (Nat.le_refl _) _).trans hb⟩

set_option maxRecDepth 100000 in
set_option maxHeartbeats 800000 in
theorem place_nil (w : World) : Calls Tryd.prog 27 #[.nilIface] w fun e w' => e = .returned (.tuple #[.int .i64 0, .int .i64 (-1)]) ∧ w = w' := by
  go_enter Tryd.func27, Tryd.ntmps27
  go_wp2_with (go_at_call 24; refine (tell_nil _).mono ?_; rintro e w' ⟨rfl, rfl⟩)
  refine wp_loop_rounds 1 ?_
  rw [rounds_succ]
  go_wp2_with fail
  go_ret2
  exact ⟨rfl, rfl⟩

theorem errno_isAt (k : Int) (w : World) : (Instr.typeAssert (.iface 35 (.int .i64 k)) 39 110 true).run Tryd.prog w = .ok (.tuple #[.pointer none, .bool false]) w := by kernel_rfl
theorem errno_isUnwrap (v : Value) (xT : TypeId) (w : World) : (Instr.typeAssert (.iface 35 v) xT 114 true).run Tryd.prog w = .ok (.tuple #[.nilIface, .bool false]) w :=
  Go.run_typeAssert_lacksB Tryd.underlying114 (by kernel_rfl) (by kernel_rfl) v xT w

set_option maxRecDepth 100000 in
set_option maxHeartbeats 800000 in
theorem place_errno (k : Int) (w : World) (hE : ErrT w) : Calls Tryd.prog 27 #[.iface 35 (.int .i64 k)] w fun e w' => e = .returned (.tuple #[.int .i64 k, .int .i64 (-1)]) ∧ Below w.heap.size w w' := by
  have HE := Lib.hid hE
  clear hE
  have t1 := errno_isAt k
  have t2 := errno_isUnwrap (.int .i64 k) 39
  go_enter Tryd.func27, Tryd.ntmps27
  go_wp2_with (go_at_call 24; refine (tell_errno k _ HE.out).mono ?_; rintro e w1 ⟨rfl, hb⟩)
  refine wp_loop_rounds 1 ?_
  rw [rounds_succ]
  go_wp2_with fail
  go_ret2
  exact ⟨rfl, hb⟩

end Go.Proofs.YtppbmhpbbiigaaaDoor
