/-
  Texts of one proof, in build order: The laws' player lets a task go on. | A script and picks that came in: what a walk is told of them. | What a turn may meet, out of what holds behind each turn; turns from the beginning. | The laws' player as what does what is inside of tasks. | The walk of slices.Equal at numbers that are the same. | The walks of the laws' comparisons of what is to be seen of rooms; where both are the same.
-/
import Derived.Test.YtnjdmijcoadidaaGreatDoorR5
import Derived.WalkKit
import Derived.OpenShut
import Derived.ProofKit
import Derived.Deep.SlicePairs
import Derived.WalkSpells
import Derived.WalkLawsBesides
import Derived.Deep.QuietTactic
import Derived.BigQuiet
import Derived.Deep.Cut
import Derived.StillTailTactics
namespace Go.Proofs.YtnjdmijcoadidaaGreatDoor
open Go.RowKit Go.Maps Pp

theorem PyAt.stay {Sc : List (List Rm.Ask)} {pb : Nat} {sv : Value} {w : World} {F : Nat → Prop} {d : Py} (h : PyAt Sc pb sv w F d) (t x : Nat) (hx : d.ats.getD t 0 = x) (ht : t < d.ats.length) : PyAt Sc pb sv w F ⟨d.fns, d.ats.set t x, d.paused, d.cnt + 1⟩ := by
  have e : d.ats.set t x = d.ats := by
    apply List.ext_getElem?
    intro i
    rw [List.getElem?_set]
    by_cases e : t = i
    · subst e
      rw [if_pos rfl, if_pos ht, ← hx, List.getD_eq_getElem?_getD, List.getElem?_eq_getElem ht]; rfl
    · rw [if_neg e]
  rw [e]
  exact ⟨h.c0, h.ex, h.z, h.fp, h.fl, h.la, h.lp, h.fn, fun a ha => Nat.le_succ_of_le (h.le a ha)⟩
/-- What stands in memory, ahead of the regions that draw. -/
structure NextJ (Sc : List (List Rm.Ask)) (pb : Nat) (sv : Value) (w W : World) (F : Nat → Prop) (d : Py) (t k f : Nat) (pt : Bool) (gf ga gp cf ca cp sb so : Nat) (lv : Value) : Prop where
  py : PyAt Sc pb sv W F ⟨d.fns, d.ats.set t k, d.paused, d.cnt + 1⟩
  y0 : W.cell? ⟨pb, 0, none⟩ = some sv
  y1 : W.cell? ⟨pb, 1, none⟩ = some (.slice (some ⟨gf, 0, none⟩) d.fns.length cf)
  y2 : W.cell? ⟨pb, 2, none⟩ = some (.slice (some ⟨ga, 0, none⟩) d.ats.length ca)
  y3 : W.cell? ⟨pb, 3, none⟩ = some (.slice (some ⟨gp, 0, none⟩) d.paused.length cp)
  yf : W.cell? ⟨gf, t, none⟩ = some (.int .i64 (f : Int))
  ya : W.cell? ⟨ga, t, none⟩ = some (.int .i64 (k : Int))
  yp : W.cell? ⟨gp, t, none⟩ = some (.bool pt)
  ys : W.cell? ⟨sb, so + f, none⟩ = some lv
  zp : W.frozen? ⟨gp, t, none⟩ = false
  kp : Keeps F w W
theorem NextJ.new {Sc : List (List Rm.Ask)} {pb : Nat} {sv : Value} {w W W' : World} {F : Nat → Prop} {d : Py} {t k f : Nat} {pt : Bool} {gf ga gp cf ca cp sb so : Nat} {lv : Value} (h : NextJ Sc pb sv w W F d t k f pt gf ga gp cf ca cp sb so lv) (hk : Keeps (fun _ => False) W W') : NextJ Sc pb sv w W' F d t k f pt gf ga gp cf ca cp sb so lv :=
  ⟨h.py.keeps hk fun _ _ => id, hk.cell_of h.y0 id, hk.cell_of h.y1 id, hk.cell_of h.y2 id, hk.cell_of h.y3 id, hk.cell_of h.yf id, hk.cell_of h.ya id, hk.cell_of h.yp id, hk.cell_of h.ys id, by rw [hk.frozen (p := ⟨gp, t, none⟩) (block_lt_of_cell h.yp) id]; exact h.zp, h.kp.trans (hk.mono fun _ _ e => e.elim)⟩
theorem get4 {V : World} {r : Nat} (h : ∀ i, i < 4 → ∃ x, V.cell? ⟨r, i, none⟩ = some x) (a0 a1 a2 a3 : Value) :
    ((((V.setCell ⟨r, 0, none⟩ a0).setCell ⟨r, 1, none⟩ a1).setCell ⟨r, 2, none⟩ a2).setCell ⟨r, 3, none⟩ a3).cell? ⟨r, 0, none⟩ = some a0 ∧ ((((V.setCell ⟨r, 0, none⟩ a0).setCell ⟨r, 1, none⟩ a1).setCell ⟨r, 2, none⟩ a2).setCell ⟨r, 3, none⟩ a3).cell? ⟨r, 1, none⟩ = some a1 ∧
    ((((V.setCell ⟨r, 0, none⟩ a0).setCell ⟨r, 1, none⟩ a1).setCell ⟨r, 2, none⟩ a2).setCell ⟨r, 3, none⟩ a3).cell? ⟨r, 2, none⟩ = some a2 ∧ ((((V.setCell ⟨r, 0, none⟩ a0).setCell ⟨r, 1, none⟩ a1).setCell ⟨r, 2, none⟩ a2).setCell ⟨r, 3, none⟩ a3).cell? ⟨r, 3, none⟩ = some a3 := by
  have o : ∀ {W : World} {i j : Nat} {v : Value}, j ≠ i → (W.setCell ⟨r, j, none⟩ v).cell? ⟨r, i, none⟩ = W.cell? ⟨r, i, none⟩ := fun h => cell_set_other (off_ne h r)
  obtain ⟨x0, h0⟩ := h 0 (by decide)
  obtain ⟨x1, h1⟩ := h 1 (by decide)
  obtain ⟨x2, h2⟩ := h 2 (by decide)
  obtain ⟨x3, h3⟩ := h 3 (by decide)
  refine ⟨?_, ?_, ?_, ?_⟩
  · rw [o (by decide), o (by decide), o (by decide)]; exact cell_set_same h0
  · rw [o (by decide), o (by decide)]; exact cell_set_same ((o (by decide)).trans h1)
  · rw [o (by decide)]; exact cell_set_same ((o (by decide)).trans ((o (by decide)).trans h2))
  · exact cell_set_same ((o (by decide)).trans ((o (by decide)).trans ((o (by decide)).trans h3)))
set_option maxRecDepth 100000 in
set_option maxHeartbeats 25600000 in
theorem pyNext_any {Sc : List (List Rm.Ask)} {pb : Nat} {sv : Value} {w0 w : World} {F : Nat → Prop} {d : Py} (h : PyAt Sc pb sv w F d) (hsc : ScAt w0 sv Sc) (hb : Below w0.heap.size w0 w) (hF : ∀ b, F b → w0.heap.size ≤ b) (t : Nat) (ht : t < d.fns.length) (hl : d.fns.length ≤ 200000) (hbig : d.cnt ≤ 1000000000) :
    Calls Tryz.prog 216 #[.pointer (some ⟨pb, 0, none⟩), .int .i64 t] w fun e w' => ∃ va vc, e = .returned (.agg #[.int .i64 (pyNext Sc d t).2.what, .int .i64 (pyNext Sc d t).2.n, va, vc]) ∧ AskSays w' va vc (pyNext Sc d t).2 ∧ (∃ F', PyAt Sc pb sv w' F' (pyNext Sc d t).1 ∧ (∀ b, F' b → F b ∨ w.heap.size ≤ b) ∧
      ∀ b, Held (pyNext Sc d t).2 va vc b → ¬ F' b ∧ (b < w0.heap.size ∨ w.heap.size ≤ b)) ∧ Keeps F w w' := by
  obtain ⟨w1, hw1⟩ : ∃ w1, w1 = w.alloc (.cells #[.int .i64 0, .int .i64 0, .slice none 0 0, .slice none 0 0] 88) := ⟨_, rfl⟩
  have hk1 : Keeps (fun _ => False) w w1 := by rw [hw1]; exact (Keeps.refl (fun _ => False) w).alloc _
  have hs1 : w1.heap.size = w.heap.size + 1 := by rw [hw1]; simp
  have hcells : ∀ j, j < 4 → ∃ x, w1.cell? ⟨w.heap.size, j, none⟩ = some x ∧ w1.frozen? ⟨w.heap.size, j, none⟩ = false := fun j hj => by
    rw [hw1, World.cell?_alloc_at _ _ _ _ rfl, World.frozen?_alloc_at _ _ _ _ rfl]
    match j, hj with
    | 0, _ => exact ⟨_, rfl, rfl⟩
    | 1, _ => exact ⟨_, rfl, rfl⟩
    | 2, _ => exact ⟨_, rfl, rfl⟩
    | 3, _ => exact ⟨_, rfl, rfl⟩
  have h1 := h.keeps hk1 fun _ _ => id
  have hfl := h.fl
  have hw0 : w0.heap.size ≤ w.heap.size := hb.size
  obtain ⟨vf, va, vp, c1, c2, c3, o1, o2, o3, f1, f2, f3, hd⟩ := id h1.ex
  have c0 := h1.c0
  have hat : t < d.ats.length := by rw [h.la]; exact ht
  have hpt : t < d.paused.length := by rw [h.lp]; exact ht
  obtain ⟨gf, cf, hvf, e1, e2, e3, -, hcf⟩ := row_open o1 (show 0 < d.fns.length by omega)
  obtain ⟨ga, ca, hva, e4, e5, e6, hza, hca⟩ := row_open o2 (show 0 < d.ats.length by omega)
  obtain ⟨gp, cp, hvp, e7, e8, e9, hzp, hcp⟩ := row_open o3 (show 0 < d.paused.length by omega)
  have qf := hcf t _ (cellsN_at ht)
  have qa := hca t _ (cellsN_at hat)
  have qp := hcp t _ (show (d.paused.map Value.bool)[t]? = some (.bool (d.paused.getD t false)) by rw [List.getElem?_map, List.getD_eq_getElem?_getD, List.getElem?_eq_getElem hpt]; rfl)
  have hfF := f1 gf (by rw [hvf]; rfl)
  have haF := f2 ga (by rw [hva]; rfl)
  have hpF := f3 gp (by rw [hvp]; rfl)
  have hfa : gf ≠ ga := fun e => hd gf (by rw [hvf]; rfl) (by rw [hva, e]; rfl)
  have hpa : gp ≠ ga := fun e => own_apart o3 o2 (by decide) gp (by rw [hvp]; rfl) (by rw [hva, e]; rfl)
  have hpf : gp ≠ gf := fun e => own_apart o3 o1 (by decide) gp (by rw [hvp]; rfl) (by rw [hvf, e]; rfl)
  -- the script's list
  have hfn : d.fns.getD t 0 < Sc.length := h.fn _ (by rw [List.getD_eq_getElem?_getD, List.getElem?_eq_getElem ht]; exact List.getElem_mem ht)
  obtain ⟨sao, scap, hsv, g1, g2, g3⟩ := hsc
  obtain ⟨sb, so, hsao, g4, g5⟩ := g3 (by omega)
  subst hsao
  have hlist : Sc[d.fns.getD t 0]? = some (pyList Sc d t) := by
    unfold pyList
    generalize d.fns.getD t 0 = f0 at *
    rw [List.getD_eq_getElem?_getD, List.getElem?_eq_getElem hfn]; rfl
  obtain ⟨lv, g6, lao, lcap, hlv, g7, g8, g9⟩ := g5 _ _ hlist
  have qs : w1.cell? ⟨sb, so + d.fns.getD t 0, none⟩ = some lv := hk1.cell_of ((hb.cell (p := ⟨sb, _, none⟩) g4).trans g6) id
  have hsF : ¬ F sb := fun e => by have := hF sb e; omega
  generalize hl9 : pyList Sc d t = l at *
  have hle := h.le (d.ats.getD t 0) (by rw [List.getD_eq_getElem?_getD, List.getElem?_eq_getElem hat]; exact List.getElem_mem hat)
  generalize hf9 : d.fns.getD t 0 = f at *
  generalize hx9 : d.ats.getD t 0 = x at *
  generalize hp9 : d.paused.getD t false = pt at *
  have hJ : ∀ W k, (pt = false ∧ k = x ∧ W = w1) ∨ (pt = true ∧ k = x + 1 ∧ W = w1.setCell ⟨ga, t, none⟩ (.int .i64 ((x + 1 : Nat) : Int))) → NextJ Sc pb sv w W F d t k f pt gf ga gp cf ca cp sb so lv ∧ Keeps (fun b => b = ga) w1 W := fun W k hW => by
    rcases hW with ⟨e10, e11, e12⟩ | ⟨e10, e11, e12⟩
    · subst e11 e12
      exact ⟨⟨h1.stay t k hx9 hat, c0, by rw [← hvf]; exact c1, by rw [← hva]; exact c2, by rw [← hvp]; exact c3, qf, qa, qp, qs, hzp t, hk1.mono fun _ _ e => e.elim⟩, Keeps.refl _ _⟩
    · subst e11
      obtain ⟨p1, p2⟩ := h1.setAt c1 c2 c3 hva t (x + 1) (d.cnt + 1) (by omega) (by omega)
      rw [← e12] at p1 p2
      have hk : Keeps (fun b => b = ga) w1 W := by rw [e12]; exact (Keeps.refl (fun b => b = ga) w1).setCell (p := ⟨ga, t, none⟩) (Or.inl rfl) _
      have hpg : ¬ pb = ga := fun e => haF.2 e.symm
      have hsg : ¬ sb = ga := fun e => hsF (by rw [e]; exact haF.1)
      exact ⟨⟨p1, hk.cell_of c0 hpg, by rw [← hvf]; exact hk.cell_of c1 hpg, by rw [← hva]; exact hk.cell_of c2 hpg, by rw [← hvp]; exact hk.cell_of c3 hpg, hk.cell_of qf hfa, by rw [e12]; exact cell_set_same qa, hk.cell_of qp hpa, hk.cell_of qs hsg, by rw [hk.frozen (p := ⟨gp, t, none⟩) e9 hpa]; exact hzp t, (hk1.mono fun _ _ e => e.elim).trans p2⟩, hk⟩
  have HJ := Lib.hid hJ
  have HC4 := Lib.hid hcells
  have HS1 := Lib.hid hs1
  have HFL := Lib.hid hfl
  have HW0 := Lib.hid hw0
  have HFF := Lib.hid hF
  have HPF := Lib.hid hpF.1
  have HNP : Hid (¬ pb = gp) := Lib.hid fun e => hpF.2 e.symm
  have HPA := Lib.hid hpa
  have HGL : Hid (ga < w1.heap.size ∧ gp < w1.heap.size ∧ F ga) := Lib.hid ⟨e6, e9, haF.1⟩
  have HK1 := Lib.hid hk1
  have HLE := Lib.hid hle
  have hlaa : d.ats.length ≤ 200000 := by rw [h.la]; exact hl
  have hlpp : d.paused.length ≤ 200000 := by rw [h.lp]; exact hl
  have HG9 := Lib.hid g9
  have HBW := Lib.hid hb
  have HX9 := Lib.hid hx9
  have HL9 := Lib.hid hl9
  have HP9 := Lib.hid hp9
  rw [hvf] at c1
  rw [hva] at c2
  rw [hvp] at c3
  subst hsv
  subst hlv
  have zga := hza t
  have htl1 : (0 : Int) ≤ (t : Int) ∧ (t : Int) < (d.fns.length : Int) := by omega
  have htl2 : (0 : Int) ≤ (t : Int) ∧ (t : Int) < (d.ats.length : Int) := by omega
  have htl3 : (0 : Int) ≤ (t : Int) ∧ (t : Int) < (d.paused.length : Int) := by omega
  have hff : (0 : Int) ≤ (f : Int) ∧ (f : Int) < (Sc.length : Int) := by omega
  have hxb : x ≤ 1000000000 := by omega
  have hwr : IntKind.i64.wrap ((x : Int) + 1) = ((x + 1 : Nat) : Int) := by rw [IntWalk.i64_in _ (by omega)]; omega
  unfold maxLen at e2 e5 e8 g2 g8
  clear hJ hcells hs1 hfl hw0 hF hfF haF hpF hfa hpa hpf hk1 h1 hle hcf hca hcp hza hzp hd f1 f2 f3 o1 o2 o3 hvf hva hvp hsF g3 g5 g6 g9 hlist hb h hat hpt e3 e6 e9 g4 qs hl9 hx9 hp9 hbig hl
  cases pt
  · obtain ⟨k, hk⟩ : ∃ k, k = x := ⟨_, rfl⟩
    by_cases hkl : k < l.length
    · obtain ⟨⟨aw, an, args, cases⟩, hla⟩ : ∃ a, l[k]? = some a := ⟨_, List.getElem?_eq_getElem hkl⟩
      obtain ⟨lb, lo, hlao, hlb, hasks⟩ := HG9.out (by omega)
      subst hlao
      obtain ⟨va, vc, r0, r1, r2, r3, hsay, hown⟩ := hasks k _ hla
      simp only at r0 r1 r2 r3
      obtain ⟨aa, na, caa, rfl, -⟩ := id hsay.args
      obtain ⟨ac, nc, cac, rfl, -⟩ := id hsay.cases
      have HSAY := Lib.hid hsay
      have HOWN := Lib.hid hown
      have HLB := Lib.hid hlb
      clear hasks hsay hown hlb
      by_cases haw : aw = 2
      · have hnx : pyNext Sc d t = (⟨d.fns, d.ats.set t k, d.paused.set t true, d.cnt + 1⟩, ⟨aw, an, args, cases⟩) := by
          have h9 : pyAt d t = k := by unfold pyAt; rw [HX9.out, HP9.out, hk]; rfl
          unfold pyNext
          rw [h9, HL9.out, hla]
          simp only [Option.getD_some]
          rw [haw]; rfl
        rw [hnx]
        simp only
        clear hnx
        clear hla
        go_enter Tryz.func216, Tryz.ntmps216
        go_upto_region 1 with fail
        rw [← hw1]
        clear hw1
        generalize hab : w.heap.size = ab at *
        have HAB := Lib.hid hab
        clear hab
        go_upto_region 5 with fail
        obtain ⟨W, hq⟩ : ∃ W, W = w1 := ⟨_, rfl⟩
        rw [← hq]
        obtain ⟨J, hkW⟩ := HJ.out W k (Or.inl ⟨rfl, hk, hq⟩)
        have J5 := J.new (keeps_drew0 W)
        have K5 : Keeps (fun b => b = ga ∨ b = gp) w1 W.drew := (hkW.mono fun _ _ e => Or.inl e).drew
        have y0 := J.y0
        have y1 := J.y1
        have yf := J.yf
        have ys := J.ys
        have HKP := Lib.hid J.kp
        have HKX := Lib.hid hk
        clear c0 c1 c2 c3 qf qa qp hq zga hkW J hk
        refine wp_region_held_drew (S := (fun V : World => V.cell? ⟨pb, 0, none⟩ = some (.slice (some ⟨sb, so, none⟩) Sc.length scap) ∧ V.cell? ⟨pb, 1, none⟩ = some (.slice (some ⟨gf, 0, none⟩) d.fns.length cf) ∧ V.cell? ⟨gf, t, none⟩ = some (.int .i64 (f : Int)) ∧ V.cell? ⟨sb, so + f, none⟩ = some (.slice (some ⟨lb, lo, none⟩) l.length lcap))) (by kernel_rfl) ⟨by simp only [World.cell?_drew]; assumption, by simp only [World.cell?_drew]; assumption, by simp only [World.cell?_drew]; assumption, by simp only [World.cell?_drew]; assumption⟩ (fun hHeld => ?_)
        refine wpAnyH_take (i := 0) (oi := { dst := some 34, op := _, type := _, pos := _, after := _, guard := _ }) (v := .pointer (some ⟨pb, 0, none⟩)) rfl (by kernel_rfl) (by kernel_rfl) (by kernel_rfl) (fun _ _ _ h => h) (Or.inl ⟨by rfl, ?_⟩) hHeld ?_
        · intro W9 hSW
          (try dsimp only at hSW)
          go_simp
        try simp only [Act.put, List.setIfInBounds_toArray, List.set_cons_zero, List.set_cons_succ]
        refine wpAnyH_take (i := 1) (oi := { dst := some 35, op := _, type := _, pos := _, after := _, guard := _ }) (v := .pointer (some ⟨pb, 0, none⟩)) rfl (by kernel_rfl) (by kernel_rfl) (by kernel_rfl) (fun _ _ _ h => h) (Or.inl ⟨by rfl, ?_⟩) hHeld ?_
        · intro W9 hSW
          (try dsimp only at hSW)
          go_simp
        try simp only [Act.put, List.setIfInBounds_toArray, List.set_cons_zero, List.set_cons_succ]
        refine wpAnyH_take (i := 2) (oi := { dst := some 36, op := _, type := _, pos := _, after := _, guard := _ }) (v := .pointer (some ⟨pb, 0, none⟩)) rfl (by kernel_rfl) (by kernel_rfl) (by kernel_rfl) (fun _ _ _ h => h) (Or.inl ⟨by rfl, ?_⟩) hHeld ?_
        · intro W9 hSW
          (try dsimp only at hSW)
          go_simp
        try simp only [Act.put, List.setIfInBounds_toArray, List.set_cons_zero, List.set_cons_succ]
        refine wpAnyH_take (i := 3) (oi := { dst := some 37, op := _, type := _, pos := _, after := _, guard := _ }) (v := .slice (some ⟨sb, so, none⟩) Sc.length scap) rfl (by kernel_rfl) (by kernel_rfl) (by kernel_rfl) (fun _ _ _ h => h) (Or.inl ⟨by rfl, ?_⟩) hHeld ?_
        · intro W9 hSW
          (try dsimp only at hSW)
          go_simp
        try simp only [Act.put, List.setIfInBounds_toArray, List.set_cons_zero, List.set_cons_succ]
        refine wpAnyH_take (i := 4) (oi := { dst := some 38, op := _, type := _, pos := _, after := _, guard := _ }) (v := .pointer (some ⟨pb, 0, none⟩)) rfl (by kernel_rfl) (by kernel_rfl) (by kernel_rfl) (fun _ _ _ h => h) (Or.inl ⟨by rfl, ?_⟩) hHeld ?_
        · intro W9 hSW
          (try dsimp only at hSW)
          go_simp
        try simp only [Act.put, List.setIfInBounds_toArray, List.set_cons_zero, List.set_cons_succ]
        refine wpAnyH_take (i := 5) (oi := { dst := some 39, op := _, type := _, pos := _, after := _, guard := _ }) (v := .pointer (some ⟨pb, 0, none⟩)) rfl (by kernel_rfl) (by kernel_rfl) (by kernel_rfl) (fun _ _ _ h => h) (Or.inl ⟨by rfl, ?_⟩) hHeld ?_
        · intro W9 hSW
          (try dsimp only at hSW)
          go_simp
        try simp only [Act.put, List.setIfInBounds_toArray, List.set_cons_zero, List.set_cons_succ]
        refine wpAnyH_take (i := 6) (oi := { dst := some 40, op := _, type := _, pos := _, after := _, guard := _ }) (v := .pointer (some ⟨pb, 1, none⟩)) rfl (by kernel_rfl) (by kernel_rfl) (by kernel_rfl) (fun _ _ _ h => h) (Or.inl ⟨by rfl, ?_⟩) hHeld ?_
        · intro W9 hSW
          (try dsimp only at hSW)
          go_simp
        try simp only [Act.put, List.setIfInBounds_toArray, List.set_cons_zero, List.set_cons_succ]
        refine wpAnyH_take (i := 7) (oi := { dst := some 41, op := _, type := _, pos := _, after := _, guard := _ }) (v := .slice (some ⟨gf, 0, none⟩) d.fns.length cf) rfl (by kernel_rfl) (by kernel_rfl) (by kernel_rfl) (fun _ _ _ h => h) (Or.inl ⟨by rfl, ?_⟩) hHeld ?_
        · intro W9 hSW
          (try dsimp only at hSW)
          go_simp
        try simp only [Act.put, List.setIfInBounds_toArray, List.set_cons_zero, List.set_cons_succ]
        refine wpAnyH_take (i := 8) (oi := { dst := some 42, op := _, type := _, pos := _, after := _, guard := _ }) (v := .int .i64 t) rfl (by kernel_rfl) (by kernel_rfl) (by kernel_rfl) (fun _ _ _ h => h) (Or.inl ⟨by rfl, ?_⟩) hHeld ?_
        · intro W9 hSW
          (try dsimp only at hSW)
          go_simp
        try simp only [Act.put, List.setIfInBounds_toArray, List.set_cons_zero, List.set_cons_succ]
        refine wpAnyH_take (i := 9) (oi := { dst := some 43, op := _, type := _, pos := _, after := _, guard := _ }) (v := .pointer (some ⟨gf, t, none⟩)) rfl (by kernel_rfl) (by kernel_rfl) (by kernel_rfl) (fun _ _ _ h => h) (Or.inl ⟨by rfl, ?_⟩) hHeld ?_
        · intro W9 hSW
          (try dsimp only at hSW)
          go_simp
        try simp only [Act.put, List.setIfInBounds_toArray, List.set_cons_zero, List.set_cons_succ]
        refine wpAnyH_take (i := 10) (oi := { dst := some 44, op := _, type := _, pos := _, after := _, guard := _ }) (v := .int .i64 f) rfl (by kernel_rfl) (by kernel_rfl) (by kernel_rfl) (fun _ _ _ h => h) (Or.inl ⟨by rfl, ?_⟩) hHeld ?_
        · intro W9 hSW
          (try dsimp only at hSW)
          go_simp
        try simp only [Act.put, List.setIfInBounds_toArray, List.set_cons_zero, List.set_cons_succ]
        refine wpAnyH_take (i := 11) (oi := { dst := some 45, op := _, type := _, pos := _, after := _, guard := _ }) (v := .pointer (some ⟨sb, so + f, none⟩)) rfl (by kernel_rfl) (by kernel_rfl) (by kernel_rfl) (fun _ _ _ h => h) (Or.inl ⟨by rfl, ?_⟩) hHeld ?_
        · intro W9 hSW
          (try dsimp only at hSW)
          go_simp
        try simp only [Act.put, List.setIfInBounds_toArray, List.set_cons_zero, List.set_cons_succ]
        refine wpAnyH_take (i := 12) (oi := { dst := some 46, op := _, type := _, pos := _, after := _, guard := _ }) (v := .slice (some ⟨lb, lo, none⟩) l.length lcap) rfl (by kernel_rfl) (by kernel_rfl) (by kernel_rfl) (fun _ _ _ h => h) (Or.inl ⟨by rfl, ?_⟩) hHeld ?_
        · intro W9 hSW
          (try dsimp only at hSW)
          go_simp
        try simp only [Act.put, List.setIfInBounds_toArray, List.set_cons_zero, List.set_cons_succ]
        refine wpAnyH_take (i := 13) (oi := { dst := some 5, op := _, type := _, pos := _, after := _, guard := _ }) (v := .slice (some ⟨lb, lo, none⟩) l.length lcap) rfl (by kernel_rfl) (by kernel_rfl) (by kernel_rfl) (fun _ _ _ h => h) (Or.inl ⟨by rfl, ?_⟩) hHeld ?_
        · intro W9 hSW
          (try dsimp only at hSW)
          go_simp
        try simp only [Act.put, List.setIfInBounds_toArray, List.set_cons_zero, List.set_cons_succ]
        refine wpAnyH_done (by kernel_rfl) ?_ _
        generalize hW5 : W.drew = W5 at *
        clear hW5 y0 y1 yf ys hHeld
        go_upto_region 6 with fail
        have y2 := J5.y2
        have y3 := J5.y3
        have ya := J5.ya
        have yp := J5.yp
        have zp := J5.zp
        have hlba : ∀ V, Keeps (fun b => b = ga ∨ b = gp) w1 V → V.cell? ⟨lb, lo + k * 4, none⟩ = some (.int .i64 aw) ∧ V.cell? ⟨lb, lo + k * 4 + 1, none⟩ = some (.int .i64 an) ∧ V.cell? ⟨lb, lo + k * 4 + 2, none⟩ = some (.slice aa na caa) ∧ V.cell? ⟨lb, lo + k * 4 + 3, none⟩ = some (.slice ac nc cac) := fun V hV => by
          have hx : ¬ (lb = ga ∨ lb = gp) := fun e => by have h1 := HLB.out; have h2 := HFF.out _ HGL.out.2.2; have h3 := HFF.out _ HPF.out; omega
          have hc : ∀ {j : Nat} {u : Value}, w0.cell? ⟨lb, j, none⟩ = some u → V.cell? ⟨lb, j, none⟩ = some u := fun hj => hV.cell_of (HK1.out.cell_of ((HBW.out.cell (p := ⟨lb, _, none⟩) HLB.out).trans hj) id) hx
          exact ⟨hc r0, hc r1, hc r2, hc r3⟩
        have HLBA := Lib.hid hlba
        clear hlba r0 r1 r2 r3
        have x0 := (HLBA.out _ K5).1
        subst haw
        have hkl1 : (k : Int) < (l.length : Int) := by omega
        have hkl2 : (0 : Int) ≤ (k : Int) ∧ (k : Int) < (l.length : Int) := by omega
        refine wp_region_held_drew (S := (fun V : World => V.cell? ⟨pb, 2, none⟩ = some (.slice (some ⟨ga, 0, none⟩) d.ats.length ca) ∧ V.cell? ⟨pb, 3, none⟩ = some (.slice (some ⟨gp, 0, none⟩) d.paused.length cp) ∧ V.cell? ⟨ga, t, none⟩ = some (.int .i64 (k : Int)) ∧ V.cell? ⟨lb, lo + k * 4, none⟩ = some (.int .i64 2))) (by kernel_rfl) ⟨by simp only [World.cell?_drew]; assumption, by simp only [World.cell?_drew]; assumption, by simp only [World.cell?_drew]; assumption, by simp only [World.cell?_drew]; assumption⟩ (fun hHeld => ?_)
        refine wpAnyH_take (i := 0) (oi := { dst := some 47, op := _, type := _, pos := _, after := _, guard := _ }) (v := .pointer (some ⟨pb, 0, none⟩)) rfl (by kernel_rfl) (by kernel_rfl) (by kernel_rfl) (fun _ _ _ h => h) (Or.inl ⟨by rfl, ?_⟩) hHeld ?_
        · intro W9 hSW
          (try dsimp only at hSW)
          go_simp
        try simp only [Act.put, List.setIfInBounds_toArray, List.set_cons_zero, List.set_cons_succ]
        refine wpAnyH_take (i := 1) (oi := { dst := some 48, op := _, type := _, pos := _, after := _, guard := _ }) (v := .pointer (some ⟨pb, 0, none⟩)) rfl (by kernel_rfl) (by kernel_rfl) (by kernel_rfl) (fun _ _ _ h => h) (Or.inl ⟨by rfl, ?_⟩) hHeld ?_
        · intro W9 hSW
          (try dsimp only at hSW)
          go_simp
        try simp only [Act.put, List.setIfInBounds_toArray, List.set_cons_zero, List.set_cons_succ]
        refine wpAnyH_take (i := 2) (oi := { dst := some 49, op := _, type := _, pos := _, after := _, guard := _ }) (v := .pointer (some ⟨pb, 3, none⟩)) rfl (by kernel_rfl) (by kernel_rfl) (by kernel_rfl) (fun _ _ _ h => h) (Or.inl ⟨by rfl, ?_⟩) hHeld ?_
        · intro W9 hSW
          (try dsimp only at hSW)
          go_simp
        try simp only [Act.put, List.setIfInBounds_toArray, List.set_cons_zero, List.set_cons_succ]
        refine wpAnyH_take (i := 3) (oi := { dst := some 50, op := _, type := _, pos := _, after := _, guard := _ }) (v := .slice (some ⟨gp, 0, none⟩) d.paused.length cp) rfl (by kernel_rfl) (by kernel_rfl) (by kernel_rfl) (fun _ _ _ h => h) (Or.inl ⟨by rfl, ?_⟩) hHeld ?_
        · intro W9 hSW
          (try dsimp only at hSW)
          go_simp
        try simp only [Act.put, List.setIfInBounds_toArray, List.set_cons_zero, List.set_cons_succ]
        refine wpAnyH_take (i := 4) (oi := { dst := some 51, op := _, type := _, pos := _, after := _, guard := _ }) (v := .int .i64 t) rfl (by kernel_rfl) (by kernel_rfl) (by kernel_rfl) (fun _ _ _ h => h) (Or.inl ⟨by rfl, ?_⟩) hHeld ?_
        · intro W9 hSW
          (try dsimp only at hSW)
          go_simp
        try simp only [Act.put, List.setIfInBounds_toArray, List.set_cons_zero, List.set_cons_succ]
        refine wpAnyH_take (i := 5) (oi := { dst := some 52, op := _, type := _, pos := _, after := _, guard := _ }) (v := .pointer (some ⟨pb, 0, none⟩)) rfl (by kernel_rfl) (by kernel_rfl) (by kernel_rfl) (fun _ _ _ h => h) (Or.inl ⟨by rfl, ?_⟩) hHeld ?_
        · intro W9 hSW
          (try dsimp only at hSW)
          go_simp
        try simp only [Act.put, List.setIfInBounds_toArray, List.set_cons_zero, List.set_cons_succ]
        refine wpAnyH_take (i := 6) (oi := { dst := some 53, op := _, type := _, pos := _, after := _, guard := _ }) (v := .pointer (some ⟨pb, 0, none⟩)) rfl (by kernel_rfl) (by kernel_rfl) (by kernel_rfl) (fun _ _ _ h => h) (Or.inl ⟨by rfl, ?_⟩) hHeld ?_
        · intro W9 hSW
          (try dsimp only at hSW)
          go_simp
        try simp only [Act.put, List.setIfInBounds_toArray, List.set_cons_zero, List.set_cons_succ]
        refine wpAnyH_take (i := 7) (oi := { dst := some 54, op := _, type := _, pos := _, after := _, guard := _ }) (v := .pointer (some ⟨pb, 2, none⟩)) rfl (by kernel_rfl) (by kernel_rfl) (by kernel_rfl) (fun _ _ _ h => h) (Or.inl ⟨by rfl, ?_⟩) hHeld ?_
        · intro W9 hSW
          (try dsimp only at hSW)
          go_simp
        try simp only [Act.put, List.setIfInBounds_toArray, List.set_cons_zero, List.set_cons_succ]
        refine wpAnyH_take (i := 8) (oi := { dst := some 55, op := _, type := _, pos := _, after := _, guard := _ }) (v := .slice (some ⟨ga, 0, none⟩) d.ats.length ca) rfl (by kernel_rfl) (by kernel_rfl) (by kernel_rfl) (fun _ _ _ h => h) (Or.inl ⟨by rfl, ?_⟩) hHeld ?_
        · intro W9 hSW
          (try dsimp only at hSW)
          go_simp
        try simp only [Act.put, List.setIfInBounds_toArray, List.set_cons_zero, List.set_cons_succ]
        refine wpAnyH_take (i := 9) (oi := { dst := some 56, op := _, type := _, pos := _, after := _, guard := _ }) (v := .int .i64 t) rfl (by kernel_rfl) (by kernel_rfl) (by kernel_rfl) (fun _ _ _ h => h) (Or.inl ⟨by rfl, ?_⟩) hHeld ?_
        · intro W9 hSW
          (try dsimp only at hSW)
          go_simp
        try simp only [Act.put, List.setIfInBounds_toArray, List.set_cons_zero, List.set_cons_succ]
        refine wpAnyH_take (i := 10) (oi := { dst := some 57, op := _, type := _, pos := _, after := _, guard := _ }) (v := .pointer (some ⟨ga, t, none⟩)) rfl (by kernel_rfl) (by kernel_rfl) (by kernel_rfl) (fun _ _ _ h => h) (Or.inl ⟨by rfl, ?_⟩) hHeld ?_
        · intro W9 hSW
          (try dsimp only at hSW)
          go_simp
        try simp only [Act.put, List.setIfInBounds_toArray, List.set_cons_zero, List.set_cons_succ]
        refine wpAnyH_take (i := 11) (oi := { dst := some 58, op := _, type := _, pos := _, after := _, guard := _ }) (v := .int .i64 k) rfl (by kernel_rfl) (by kernel_rfl) (by kernel_rfl) (fun _ _ _ h => h) (Or.inl ⟨by rfl, ?_⟩) hHeld ?_
        · intro W9 hSW
          (try dsimp only at hSW)
          go_simp
        try simp only [Act.put, List.setIfInBounds_toArray, List.set_cons_zero, List.set_cons_succ]
        refine wpAnyH_take (i := 12) (oi := { dst := some 59, op := _, type := _, pos := _, after := _, guard := _ }) (v := .slice (some ⟨lb, lo, none⟩) l.length lcap) rfl (by kernel_rfl) (by kernel_rfl) (by kernel_rfl) (fun _ _ _ h => h) (Or.inl ⟨by rfl, ?_⟩) hHeld ?_
        · intro W9 hSW
          (try dsimp only at hSW)
          go_simp
        try simp only [Act.put, List.setIfInBounds_toArray, List.set_cons_zero, List.set_cons_succ]
        refine wpAnyH_take (i := 13) (oi := { dst := some 60, op := _, type := _, pos := _, after := _, guard := _ }) (v := .int .i64 l.length) rfl (by kernel_rfl) (by kernel_rfl) (by kernel_rfl) (fun _ _ _ h => h) (Or.inl ⟨by rfl, ?_⟩) hHeld ?_
        · intro W9 hSW
          (try dsimp only at hSW)
          go_simp
        try simp only [Act.put, List.setIfInBounds_toArray, List.set_cons_zero, List.set_cons_succ]
        refine wpAnyH_take (i := 14) (oi := { dst := some 61, op := _, type := _, pos := _, after := _, guard := _ }) (v := .bool true) rfl (by kernel_rfl) (by kernel_rfl) (by kernel_rfl) (fun _ _ _ h => h) (Or.inl ⟨by rfl, ?_⟩) hHeld ?_
        · intro W9 hSW
          (try dsimp only at hSW)
          go_simp
        try simp only [Act.put, List.setIfInBounds_toArray, List.set_cons_zero, List.set_cons_succ]
        refine wpAnyH_take (i := 15) (oi := { dst := some 62, op := _, type := _, pos := _, after := _, guard := _ }) (v := .bool true) rfl (by kernel_rfl) (by kernel_rfl) (by kernel_rfl) (fun _ _ _ h => h) (Or.inl ⟨by rfl, ?_⟩) hHeld ?_
        · intro W9 hSW
          (try dsimp only at hSW)
          go_simp
        try simp only [Act.put, List.setIfInBounds_toArray, List.set_cons_zero, List.set_cons_succ]
        refine wpAnyH_take (i := 16) (oi := { dst := some 63, op := _, type := _, pos := _, after := _, guard := _ }) (v := .slice (some ⟨lb, lo, none⟩) l.length lcap) rfl (by kernel_rfl) (by kernel_rfl) (by kernel_rfl) (fun _ _ _ h => h) (Or.inl ⟨by rfl, ?_⟩) hHeld ?_
        · intro W9 hSW
          (try dsimp only at hSW)
          go_simp
        try simp only [Act.put, List.setIfInBounds_toArray, List.set_cons_zero, List.set_cons_succ]
        refine wpAnyH_take (i := 17) (oi := { dst := some 64, op := _, type := _, pos := _, after := _, guard := _ }) (v := .pointer (some ⟨pb, 0, none⟩)) rfl (by kernel_rfl) (by kernel_rfl) (by kernel_rfl) (fun _ _ _ h => h) (Or.inl ⟨by rfl, ?_⟩) hHeld ?_
        · intro W9 hSW
          (try dsimp only at hSW)
          go_simp
        try simp only [Act.put, List.setIfInBounds_toArray, List.set_cons_zero, List.set_cons_succ]
        refine wpAnyH_take (i := 18) (oi := { dst := some 65, op := _, type := _, pos := _, after := _, guard := _ }) (v := .pointer (some ⟨pb, 0, none⟩)) rfl (by kernel_rfl) (by kernel_rfl) (by kernel_rfl) (fun _ _ _ h => h) (Or.inl ⟨by rfl, ?_⟩) hHeld ?_
        · intro W9 hSW
          (try dsimp only at hSW)
          go_simp
        try simp only [Act.put, List.setIfInBounds_toArray, List.set_cons_zero, List.set_cons_succ]
        refine wpAnyH_take (i := 19) (oi := { dst := some 66, op := _, type := _, pos := _, after := _, guard := _ }) (v := .pointer (some ⟨pb, 2, none⟩)) rfl (by kernel_rfl) (by kernel_rfl) (by kernel_rfl) (fun _ _ _ h => h) (Or.inl ⟨by rfl, ?_⟩) hHeld ?_
        · intro W9 hSW
          (try dsimp only at hSW)
          go_simp
        try simp only [Act.put, List.setIfInBounds_toArray, List.set_cons_zero, List.set_cons_succ]
        refine wpAnyH_take (i := 20) (oi := { dst := some 67, op := _, type := _, pos := _, after := _, guard := _ }) (v := .slice (some ⟨ga, 0, none⟩) d.ats.length ca) rfl (by kernel_rfl) (by kernel_rfl) (by kernel_rfl) (fun _ _ _ h => h) (Or.inl ⟨by rfl, ?_⟩) hHeld ?_
        · intro W9 hSW
          (try dsimp only at hSW)
          go_simp
        try simp only [Act.put, List.setIfInBounds_toArray, List.set_cons_zero, List.set_cons_succ]
        refine wpAnyH_take (i := 21) (oi := { dst := some 68, op := _, type := _, pos := _, after := _, guard := _ }) (v := .int .i64 t) rfl (by kernel_rfl) (by kernel_rfl) (by kernel_rfl) (fun _ _ _ h => h) (Or.inl ⟨by rfl, ?_⟩) hHeld ?_
        · intro W9 hSW
          (try dsimp only at hSW)
          go_simp
        try simp only [Act.put, List.setIfInBounds_toArray, List.set_cons_zero, List.set_cons_succ]
        refine wpAnyH_take (i := 22) (oi := { dst := some 69, op := _, type := _, pos := _, after := _, guard := _ }) (v := .pointer (some ⟨ga, t, none⟩)) rfl (by kernel_rfl) (by kernel_rfl) (by kernel_rfl) (fun _ _ _ h => h) (Or.inl ⟨by rfl, ?_⟩) hHeld ?_
        · intro W9 hSW
          (try dsimp only at hSW)
          go_simp
        try simp only [Act.put, List.setIfInBounds_toArray, List.set_cons_zero, List.set_cons_succ]
        refine wpAnyH_take (i := 23) (oi := { dst := some 70, op := _, type := _, pos := _, after := _, guard := _ }) (v := .int .i64 k) rfl (by kernel_rfl) (by kernel_rfl) (by kernel_rfl) (fun _ _ _ h => h) (Or.inl ⟨by rfl, ?_⟩) hHeld ?_
        · intro W9 hSW
          (try dsimp only at hSW)
          go_simp
        try simp only [Act.put, List.setIfInBounds_toArray, List.set_cons_zero, List.set_cons_succ]
        refine wpAnyH_take (i := 24) (oi := { dst := some 71, op := _, type := _, pos := _, after := _, guard := _ }) (v := .pointer (some ⟨lb, lo + k * 4, none⟩)) rfl (by kernel_rfl) (by kernel_rfl) (by kernel_rfl) (fun _ _ _ h => h) (Or.inl ⟨by rfl, ?_⟩) hHeld ?_
        · intro W9 hSW
          (try dsimp only at hSW)
          go_simp
        try simp only [Act.put, List.setIfInBounds_toArray, List.set_cons_zero, List.set_cons_succ]
        refine wpAnyH_take (i := 25) (oi := { dst := some 72, op := _, type := _, pos := _, after := _, guard := _ }) (v := .pointer (some ⟨lb, lo + k * 4, none⟩)) rfl (by kernel_rfl) (by kernel_rfl) (by kernel_rfl) (fun _ _ _ h => h) (Or.inl ⟨by rfl, ?_⟩) hHeld ?_
        · intro W9 hSW
          (try dsimp only at hSW)
          go_simp
        try simp only [Act.put, List.setIfInBounds_toArray, List.set_cons_zero, List.set_cons_succ]
        refine wpAnyH_take (i := 26) (oi := { dst := some 73, op := _, type := _, pos := _, after := _, guard := _ }) (v := .int .i64 2) rfl (by kernel_rfl) (by kernel_rfl) (by kernel_rfl) (fun _ _ _ h => h) (Or.inl ⟨by rfl, ?_⟩) hHeld ?_
        · intro W9 hSW
          (try dsimp only at hSW)
          go_simp
        try simp only [Act.put, List.setIfInBounds_toArray, List.set_cons_zero, List.set_cons_succ]
        refine wpAnyH_take (i := 27) (oi := { dst := some 74, op := _, type := _, pos := _, after := _, guard := _ }) (v := .bool true) rfl (by kernel_rfl) (by kernel_rfl) (by kernel_rfl) (fun _ _ _ h => h) (Or.inl ⟨by rfl, ?_⟩) hHeld ?_
        · intro W9 hSW
          (try dsimp only at hSW)
          go_simp
        try simp only [Act.put, List.setIfInBounds_toArray, List.set_cons_zero, List.set_cons_succ]
        refine wpAnyH_take (i := 28) (oi := { dst := some 75, op := _, type := _, pos := _, after := _, guard := _ }) (v := .bool true) rfl (by kernel_rfl) (by kernel_rfl) (by kernel_rfl) (fun _ _ _ h => h) (Or.inl ⟨by rfl, ?_⟩) hHeld ?_
        · intro W9 hSW
          (try dsimp only at hSW)
          go_simp
        try simp only [Act.put, List.setIfInBounds_toArray, List.set_cons_zero, List.set_cons_succ]
        refine wpAnyH_take (i := 29) (oi := { dst := some 76, op := _, type := _, pos := _, after := _, guard := _ }) (v := .pointer (some ⟨gp, t, none⟩)) rfl (by kernel_rfl) (by kernel_rfl) (by kernel_rfl) (fun _ _ _ h => h) (Or.inl ⟨by rfl, ?_⟩) hHeld ?_
        · intro W9 hSW
          (try dsimp only at hSW)
          go_simp
        try simp only [Act.put, List.setIfInBounds_toArray, List.set_cons_zero, List.set_cons_succ]
        refine wpAnyH_ready (rs := [30]) (by kernel_rfl) (by simp) ?_
        refine AllReadyH.cons (o := { dst := none, op := _, type := _, pos := _, after := _, guard := _ }) rfl (fun K hK => ?_) AllReadyH.nil
        go_simp
        have kg : Keeps (fun b => b = gp) W5.drew (W5.drew.setCell ⟨gp, t, none⟩ (.bool true)) := (Keeps.refl (fun b => b = gp) W5.drew).setCell (p := ⟨gp, t, none⟩) (Or.inl rfl) _
        have hne1 : ¬ ga = gp := fun e => HPA.out e.symm
        have hne2 : ¬ lb = gp := fun e => by have h1 := HLB.out; have h3 := HFF.out _ HPF.out; omega
        have hS7 : (fun V : World => V.cell? ⟨pb, 2, none⟩ = some (.slice (some ⟨ga, 0, none⟩) d.ats.length ca) ∧ V.cell? ⟨pb, 3, none⟩ = some (.slice (some ⟨gp, 0, none⟩) d.paused.length cp) ∧ V.cell? ⟨ga, t, none⟩ = some (.int .i64 (k : Int)) ∧ V.cell? ⟨lb, lo + k * 4, none⟩ = some (.int .i64 2)) (W5.drew.setCell ⟨gp, t, none⟩ (.bool true)) := ⟨kg.cell_of (w := W5.drew) y2 HNP.out, kg.cell_of (w := W5.drew) y3 HNP.out, kg.cell_of (w := W5.drew) ya hne1, kg.cell_of (w := W5.drew) x0 hne2⟩
        obtain ⟨p7, kp7⟩ := (J5.new (keeps_drew0 W5)).py.setPaused (cap := cp) (g := gp) (J5.new (keeps_drew0 W5)).y3 rfl t true (d.cnt + 1) (Nat.le_refl _)
        have K7 : Keeps (fun b => b = ga ∨ b = gp) w1 (W5.drew.setCell ⟨gp, t, none⟩ (.bool true)) := K5.drew.setCell (p := ⟨gp, t, none⟩) (Or.inl (Or.inr rfl)) _
        have HY7 := Lib.hid (And.intro (kg.cell_of (w := W5.drew) y2 HNP.out) (kg.cell_of (w := W5.drew) ya hne1))
        have KF7 := Lib.hid ((J5.new (keeps_drew0 W5)).kp.trans kp7)
        have P7 := Lib.hid p7
        have HK7 := Lib.hid K7
        dsimp only at hS7
        refine hK.out _ _ hS7 (fun hHeld => ?_)
        clear hK K kg hS7 p7 kp7 hHeld K5 J5 K7 y2 y3 ya yp zp x0
        refine wpAnyH_done (by kernel_rfl) ?_ _
        go_upto_region 7 with fail
        rw [World.setCell_drew] at KF7 P7 HK7 HY7
        generalize (W5.setCell ⟨gp, t, none⟩ (.bool true)).drew = W7 at *
        obtain ⟨y2, ya⟩ := HY7.out
        have hga9 : ¬ (ab = ga ∨ ab = gp) := fun e => by have h1 := HFL.out ga HGL.out.2.2; have h2 := HFL.out gp HPF.out; omega
        have hal : ab < w1.heap.size := by have := HS1.out; omega
        have hr9 : ∀ j, j < 4 → ∃ x, W7.cell? ⟨ab, j, none⟩ = some x ∧ W7.frozen? ⟨ab, j, none⟩ = false := fun j hj => by
          obtain ⟨x9, h5, h6⟩ := HC4.out j hj
          exact ⟨x9, HK7.out.cell_of h5 hga9, (HK7.out.frozen (p := ⟨ab, j, none⟩) hal hga9).trans h6⟩
        have HR9 := Lib.hid hr9
        obtain ⟨_, d0, z0⟩ := hr9 0 (by decide)
        obtain ⟨_, d1, z1⟩ := hr9 1 (by decide)
        obtain ⟨_, d2, z2⟩ := hr9 2 (by decide)
        obtain ⟨_, d3, z3⟩ := hr9 3 (by decide)
        obtain ⟨q0, q1, q2, q3⟩ := HLBA.out _ HK7.out
        clear hr9 hga9 hal
        go_wp2_with fail
        obtain ⟨u0, u1, u2, u3⟩ := get4 (V := W7) (r := ab) (fun i hi => by obtain ⟨x9, h5, _⟩ := HR9.out i hi; exact ⟨x9, h5⟩) (.int .i64 2) (.int .i64 an) (.slice aa na caa) (.slice ac nc cac)
        have hk8 := set4_keeps W7 ab (.int .i64 2) (.int .i64 an) (.slice aa na caa) (.slice ac nc cac)
        generalize (((W7.setCell ⟨ab, 0, none⟩ (.int .i64 2)).setCell ⟨ab, 1, none⟩ (.int .i64 an)).setCell ⟨ab, 2, none⟩ (.slice aa na caa)).setCell ⟨ab, 3, none⟩ (.slice ac nc cac) = W8 at *
        have hnF : ∀ b, F b → ¬ b = ab := fun b hb e => by have := HFL.out b hb; omega
        refine bodyPost_ret (v := .agg #[.int .i64 2, .int .i64 an, .slice aa na caa, .slice ac nc cac]) (by simp [results, Tryz.results216, go_sem, u0, u1, u2, u3]) rfl ?_
        have hkF : Keeps F w W8 := KF7.out.trans' hk8 fun b hb e => by have := HAB.out; have : b = ab := e; omega
        have hown9 : ∀ b, Held ⟨2, an, args, cases⟩ (Value.slice aa na caa) (Value.slice ac nc cac) b → b < w0.heap.size := HOWN.out
        have hs9 : AskSays w (.slice aa na caa) (.slice ac nc cac) ⟨2, an, args, cases⟩ := askSays_below HSAY.out HBW.out (Nat.le_refl _)
        exact ⟨_, _, rfl, hs9.keeps hkF fun b hb e => by have h5 := hown9 b hb; have h6 := HFF.out b e; omega, ⟨F, P7.out.keeps hk8 hnF, fun b hb => Or.inl hb, fun b hb => ⟨fun e => by have h5 := hown9 b hb; have h6 := HFF.out b e; omega, Or.inl (hown9 b hb)⟩⟩, hkF⟩
      · have hnx : pyNext Sc d t = (⟨d.fns, d.ats.set t k, d.paused.set t false, d.cnt + 1⟩, ⟨aw, an, args, cases⟩) := by
          have h9 : pyAt d t = k := by unfold pyAt; rw [HX9.out, HP9.out, hk]; rfl
          unfold pyNext
          rw [h9, HL9.out, hla]
          simp only [Option.getD_some]
          rw [decide_eq_false haw]
        rw [hnx]
        simp only
        clear hnx
        clear hla
        go_enter Tryz.func216, Tryz.ntmps216
        go_upto_region 1 with fail
        rw [← hw1]
        clear hw1
        generalize hab : w.heap.size = ab at *
        have HAB := Lib.hid hab
        clear hab
        go_upto_region 5 with fail
        obtain ⟨W, hq⟩ : ∃ W, W = w1 := ⟨_, rfl⟩
        rw [← hq]
        obtain ⟨J, hkW⟩ := HJ.out W k (Or.inl ⟨rfl, hk, hq⟩)
        have J5 := J.new (keeps_drew0 W)
        have K5 : Keeps (fun b => b = ga ∨ b = gp) w1 W.drew := (hkW.mono fun _ _ e => Or.inl e).drew
        have y0 := J.y0
        have y1 := J.y1
        have yf := J.yf
        have ys := J.ys
        have HKP := Lib.hid J.kp
        have HKX := Lib.hid hk
        clear c0 c1 c2 c3 qf qa qp hq zga hkW J hk
        refine wp_region_held_drew (S := (fun V : World => V.cell? ⟨pb, 0, none⟩ = some (.slice (some ⟨sb, so, none⟩) Sc.length scap) ∧ V.cell? ⟨pb, 1, none⟩ = some (.slice (some ⟨gf, 0, none⟩) d.fns.length cf) ∧ V.cell? ⟨gf, t, none⟩ = some (.int .i64 (f : Int)) ∧ V.cell? ⟨sb, so + f, none⟩ = some (.slice (some ⟨lb, lo, none⟩) l.length lcap))) (by kernel_rfl) ⟨by simp only [World.cell?_drew]; assumption, by simp only [World.cell?_drew]; assumption, by simp only [World.cell?_drew]; assumption, by simp only [World.cell?_drew]; assumption⟩ (fun hHeld => ?_)
        refine wpAnyH_take (i := 0) (oi := { dst := some 34, op := _, type := _, pos := _, after := _, guard := _ }) (v := .pointer (some ⟨pb, 0, none⟩)) rfl (by kernel_rfl) (by kernel_rfl) (by kernel_rfl) (fun _ _ _ h => h) (Or.inl ⟨by rfl, ?_⟩) hHeld ?_
        · intro W9 hSW
          (try dsimp only at hSW)
          go_simp
        try simp only [Act.put, List.setIfInBounds_toArray, List.set_cons_zero, List.set_cons_succ]
        refine wpAnyH_take (i := 1) (oi := { dst := some 35, op := _, type := _, pos := _, after := _, guard := _ }) (v := .pointer (some ⟨pb, 0, none⟩)) rfl (by kernel_rfl) (by kernel_rfl) (by kernel_rfl) (fun _ _ _ h => h) (Or.inl ⟨by rfl, ?_⟩) hHeld ?_
        · intro W9 hSW
          (try dsimp only at hSW)
          go_simp
        try simp only [Act.put, List.setIfInBounds_toArray, List.set_cons_zero, List.set_cons_succ]
        refine wpAnyH_take (i := 2) (oi := { dst := some 36, op := _, type := _, pos := _, after := _, guard := _ }) (v := .pointer (some ⟨pb, 0, none⟩)) rfl (by kernel_rfl) (by kernel_rfl) (by kernel_rfl) (fun _ _ _ h => h) (Or.inl ⟨by rfl, ?_⟩) hHeld ?_
        · intro W9 hSW
          (try dsimp only at hSW)
          go_simp
        try simp only [Act.put, List.setIfInBounds_toArray, List.set_cons_zero, List.set_cons_succ]
        refine wpAnyH_take (i := 3) (oi := { dst := some 37, op := _, type := _, pos := _, after := _, guard := _ }) (v := .slice (some ⟨sb, so, none⟩) Sc.length scap) rfl (by kernel_rfl) (by kernel_rfl) (by kernel_rfl) (fun _ _ _ h => h) (Or.inl ⟨by rfl, ?_⟩) hHeld ?_
        · intro W9 hSW
          (try dsimp only at hSW)
          go_simp
        try simp only [Act.put, List.setIfInBounds_toArray, List.set_cons_zero, List.set_cons_succ]
        refine wpAnyH_take (i := 4) (oi := { dst := some 38, op := _, type := _, pos := _, after := _, guard := _ }) (v := .pointer (some ⟨pb, 0, none⟩)) rfl (by kernel_rfl) (by kernel_rfl) (by kernel_rfl) (fun _ _ _ h => h) (Or.inl ⟨by rfl, ?_⟩) hHeld ?_
        · intro W9 hSW
          (try dsimp only at hSW)
          go_simp
        try simp only [Act.put, List.setIfInBounds_toArray, List.set_cons_zero, List.set_cons_succ]
        refine wpAnyH_take (i := 5) (oi := { dst := some 39, op := _, type := _, pos := _, after := _, guard := _ }) (v := .pointer (some ⟨pb, 0, none⟩)) rfl (by kernel_rfl) (by kernel_rfl) (by kernel_rfl) (fun _ _ _ h => h) (Or.inl ⟨by rfl, ?_⟩) hHeld ?_
        · intro W9 hSW
          (try dsimp only at hSW)
          go_simp
        try simp only [Act.put, List.setIfInBounds_toArray, List.set_cons_zero, List.set_cons_succ]
        refine wpAnyH_take (i := 6) (oi := { dst := some 40, op := _, type := _, pos := _, after := _, guard := _ }) (v := .pointer (some ⟨pb, 1, none⟩)) rfl (by kernel_rfl) (by kernel_rfl) (by kernel_rfl) (fun _ _ _ h => h) (Or.inl ⟨by rfl, ?_⟩) hHeld ?_
        · intro W9 hSW
          (try dsimp only at hSW)
          go_simp
        try simp only [Act.put, List.setIfInBounds_toArray, List.set_cons_zero, List.set_cons_succ]
        refine wpAnyH_take (i := 7) (oi := { dst := some 41, op := _, type := _, pos := _, after := _, guard := _ }) (v := .slice (some ⟨gf, 0, none⟩) d.fns.length cf) rfl (by kernel_rfl) (by kernel_rfl) (by kernel_rfl) (fun _ _ _ h => h) (Or.inl ⟨by rfl, ?_⟩) hHeld ?_
        · intro W9 hSW
          (try dsimp only at hSW)
          go_simp
        try simp only [Act.put, List.setIfInBounds_toArray, List.set_cons_zero, List.set_cons_succ]
        refine wpAnyH_take (i := 8) (oi := { dst := some 42, op := _, type := _, pos := _, after := _, guard := _ }) (v := .int .i64 t) rfl (by kernel_rfl) (by kernel_rfl) (by kernel_rfl) (fun _ _ _ h => h) (Or.inl ⟨by rfl, ?_⟩) hHeld ?_
        · intro W9 hSW
          (try dsimp only at hSW)
          go_simp
        try simp only [Act.put, List.setIfInBounds_toArray, List.set_cons_zero, List.set_cons_succ]
        refine wpAnyH_take (i := 9) (oi := { dst := some 43, op := _, type := _, pos := _, after := _, guard := _ }) (v := .pointer (some ⟨gf, t, none⟩)) rfl (by kernel_rfl) (by kernel_rfl) (by kernel_rfl) (fun _ _ _ h => h) (Or.inl ⟨by rfl, ?_⟩) hHeld ?_
        · intro W9 hSW
          (try dsimp only at hSW)
          go_simp
        try simp only [Act.put, List.setIfInBounds_toArray, List.set_cons_zero, List.set_cons_succ]
        refine wpAnyH_take (i := 10) (oi := { dst := some 44, op := _, type := _, pos := _, after := _, guard := _ }) (v := .int .i64 f) rfl (by kernel_rfl) (by kernel_rfl) (by kernel_rfl) (fun _ _ _ h => h) (Or.inl ⟨by rfl, ?_⟩) hHeld ?_
        · intro W9 hSW
          (try dsimp only at hSW)
          go_simp
        try simp only [Act.put, List.setIfInBounds_toArray, List.set_cons_zero, List.set_cons_succ]
        refine wpAnyH_take (i := 11) (oi := { dst := some 45, op := _, type := _, pos := _, after := _, guard := _ }) (v := .pointer (some ⟨sb, so + f, none⟩)) rfl (by kernel_rfl) (by kernel_rfl) (by kernel_rfl) (fun _ _ _ h => h) (Or.inl ⟨by rfl, ?_⟩) hHeld ?_
        · intro W9 hSW
          (try dsimp only at hSW)
          go_simp
        try simp only [Act.put, List.setIfInBounds_toArray, List.set_cons_zero, List.set_cons_succ]
        refine wpAnyH_take (i := 12) (oi := { dst := some 46, op := _, type := _, pos := _, after := _, guard := _ }) (v := .slice (some ⟨lb, lo, none⟩) l.length lcap) rfl (by kernel_rfl) (by kernel_rfl) (by kernel_rfl) (fun _ _ _ h => h) (Or.inl ⟨by rfl, ?_⟩) hHeld ?_
        · intro W9 hSW
          (try dsimp only at hSW)
          go_simp
        try simp only [Act.put, List.setIfInBounds_toArray, List.set_cons_zero, List.set_cons_succ]
        refine wpAnyH_take (i := 13) (oi := { dst := some 5, op := _, type := _, pos := _, after := _, guard := _ }) (v := .slice (some ⟨lb, lo, none⟩) l.length lcap) rfl (by kernel_rfl) (by kernel_rfl) (by kernel_rfl) (fun _ _ _ h => h) (Or.inl ⟨by rfl, ?_⟩) hHeld ?_
        · intro W9 hSW
          (try dsimp only at hSW)
          go_simp
        try simp only [Act.put, List.setIfInBounds_toArray, List.set_cons_zero, List.set_cons_succ]
        refine wpAnyH_done (by kernel_rfl) ?_ _
        generalize hW5 : W.drew = W5 at *
        clear hW5 y0 y1 yf ys hHeld
        go_upto_region 6 with fail
        have y2 := J5.y2
        have y3 := J5.y3
        have ya := J5.ya
        have yp := J5.yp
        have zp := J5.zp
        have hlba : ∀ V, Keeps (fun b => b = ga ∨ b = gp) w1 V → V.cell? ⟨lb, lo + k * 4, none⟩ = some (.int .i64 aw) ∧ V.cell? ⟨lb, lo + k * 4 + 1, none⟩ = some (.int .i64 an) ∧ V.cell? ⟨lb, lo + k * 4 + 2, none⟩ = some (.slice aa na caa) ∧ V.cell? ⟨lb, lo + k * 4 + 3, none⟩ = some (.slice ac nc cac) := fun V hV => by
          have hx : ¬ (lb = ga ∨ lb = gp) := fun e => by have h1 := HLB.out; have h2 := HFF.out _ HGL.out.2.2; have h3 := HFF.out _ HPF.out; omega
          have hc : ∀ {j : Nat} {u : Value}, w0.cell? ⟨lb, j, none⟩ = some u → V.cell? ⟨lb, j, none⟩ = some u := fun hj => hV.cell_of (HK1.out.cell_of ((HBW.out.cell (p := ⟨lb, _, none⟩) HLB.out).trans hj) id) hx
          exact ⟨hc r0, hc r1, hc r2, hc r3⟩
        have HLBA := Lib.hid hlba
        clear hlba r0 r1 r2 r3
        have x0 := (HLBA.out _ K5).1
        have zaw : (aw == 2) = false := beq_eq_false_iff_ne.2 haw
        have hkl1 : (k : Int) < (l.length : Int) := by omega
        have hkl2 : (0 : Int) ≤ (k : Int) ∧ (k : Int) < (l.length : Int) := by omega
        refine wp_region_held_drew (S := (fun V : World => V.cell? ⟨pb, 2, none⟩ = some (.slice (some ⟨ga, 0, none⟩) d.ats.length ca) ∧ V.cell? ⟨pb, 3, none⟩ = some (.slice (some ⟨gp, 0, none⟩) d.paused.length cp) ∧ V.cell? ⟨ga, t, none⟩ = some (.int .i64 (k : Int)) ∧ V.cell? ⟨lb, lo + k * 4, none⟩ = some (.int .i64 aw))) (by kernel_rfl) ⟨by simp only [World.cell?_drew]; assumption, by simp only [World.cell?_drew]; assumption, by simp only [World.cell?_drew]; assumption, by simp only [World.cell?_drew]; assumption⟩ (fun hHeld => ?_)
        refine wpAnyH_take (i := 0) (oi := { dst := some 47, op := _, type := _, pos := _, after := _, guard := _ }) (v := .pointer (some ⟨pb, 0, none⟩)) rfl (by kernel_rfl) (by kernel_rfl) (by kernel_rfl) (fun _ _ _ h => h) (Or.inl ⟨by rfl, ?_⟩) hHeld ?_
        · intro W9 hSW
          (try dsimp only at hSW)
          go_simp
        try simp only [Act.put, List.setIfInBounds_toArray, List.set_cons_zero, List.set_cons_succ]
        refine wpAnyH_take (i := 1) (oi := { dst := some 48, op := _, type := _, pos := _, after := _, guard := _ }) (v := .pointer (some ⟨pb, 0, none⟩)) rfl (by kernel_rfl) (by kernel_rfl) (by kernel_rfl) (fun _ _ _ h => h) (Or.inl ⟨by rfl, ?_⟩) hHeld ?_
        · intro W9 hSW
          (try dsimp only at hSW)
          go_simp
        try simp only [Act.put, List.setIfInBounds_toArray, List.set_cons_zero, List.set_cons_succ]
        refine wpAnyH_take (i := 2) (oi := { dst := some 49, op := _, type := _, pos := _, after := _, guard := _ }) (v := .pointer (some ⟨pb, 3, none⟩)) rfl (by kernel_rfl) (by kernel_rfl) (by kernel_rfl) (fun _ _ _ h => h) (Or.inl ⟨by rfl, ?_⟩) hHeld ?_
        · intro W9 hSW
          (try dsimp only at hSW)
          go_simp
        try simp only [Act.put, List.setIfInBounds_toArray, List.set_cons_zero, List.set_cons_succ]
        refine wpAnyH_take (i := 3) (oi := { dst := some 50, op := _, type := _, pos := _, after := _, guard := _ }) (v := .slice (some ⟨gp, 0, none⟩) d.paused.length cp) rfl (by kernel_rfl) (by kernel_rfl) (by kernel_rfl) (fun _ _ _ h => h) (Or.inl ⟨by rfl, ?_⟩) hHeld ?_
        · intro W9 hSW
          (try dsimp only at hSW)
          go_simp
        try simp only [Act.put, List.setIfInBounds_toArray, List.set_cons_zero, List.set_cons_succ]
        refine wpAnyH_take (i := 4) (oi := { dst := some 51, op := _, type := _, pos := _, after := _, guard := _ }) (v := .int .i64 t) rfl (by kernel_rfl) (by kernel_rfl) (by kernel_rfl) (fun _ _ _ h => h) (Or.inl ⟨by rfl, ?_⟩) hHeld ?_
        · intro W9 hSW
          (try dsimp only at hSW)
          go_simp
        try simp only [Act.put, List.setIfInBounds_toArray, List.set_cons_zero, List.set_cons_succ]
        refine wpAnyH_take (i := 5) (oi := { dst := some 52, op := _, type := _, pos := _, after := _, guard := _ }) (v := .pointer (some ⟨pb, 0, none⟩)) rfl (by kernel_rfl) (by kernel_rfl) (by kernel_rfl) (fun _ _ _ h => h) (Or.inl ⟨by rfl, ?_⟩) hHeld ?_
        · intro W9 hSW
          (try dsimp only at hSW)
          go_simp
        try simp only [Act.put, List.setIfInBounds_toArray, List.set_cons_zero, List.set_cons_succ]
        refine wpAnyH_take (i := 6) (oi := { dst := some 53, op := _, type := _, pos := _, after := _, guard := _ }) (v := .pointer (some ⟨pb, 0, none⟩)) rfl (by kernel_rfl) (by kernel_rfl) (by kernel_rfl) (fun _ _ _ h => h) (Or.inl ⟨by rfl, ?_⟩) hHeld ?_
        · intro W9 hSW
          (try dsimp only at hSW)
          go_simp
        try simp only [Act.put, List.setIfInBounds_toArray, List.set_cons_zero, List.set_cons_succ]
        refine wpAnyH_take (i := 7) (oi := { dst := some 54, op := _, type := _, pos := _, after := _, guard := _ }) (v := .pointer (some ⟨pb, 2, none⟩)) rfl (by kernel_rfl) (by kernel_rfl) (by kernel_rfl) (fun _ _ _ h => h) (Or.inl ⟨by rfl, ?_⟩) hHeld ?_
        · intro W9 hSW
          (try dsimp only at hSW)
          go_simp
        try simp only [Act.put, List.setIfInBounds_toArray, List.set_cons_zero, List.set_cons_succ]
        refine wpAnyH_take (i := 8) (oi := { dst := some 55, op := _, type := _, pos := _, after := _, guard := _ }) (v := .slice (some ⟨ga, 0, none⟩) d.ats.length ca) rfl (by kernel_rfl) (by kernel_rfl) (by kernel_rfl) (fun _ _ _ h => h) (Or.inl ⟨by rfl, ?_⟩) hHeld ?_
        · intro W9 hSW
          (try dsimp only at hSW)
          go_simp
        try simp only [Act.put, List.setIfInBounds_toArray, List.set_cons_zero, List.set_cons_succ]
        refine wpAnyH_take (i := 9) (oi := { dst := some 56, op := _, type := _, pos := _, after := _, guard := _ }) (v := .int .i64 t) rfl (by kernel_rfl) (by kernel_rfl) (by kernel_rfl) (fun _ _ _ h => h) (Or.inl ⟨by rfl, ?_⟩) hHeld ?_
        · intro W9 hSW
          (try dsimp only at hSW)
          go_simp
        try simp only [Act.put, List.setIfInBounds_toArray, List.set_cons_zero, List.set_cons_succ]
        refine wpAnyH_take (i := 10) (oi := { dst := some 57, op := _, type := _, pos := _, after := _, guard := _ }) (v := .pointer (some ⟨ga, t, none⟩)) rfl (by kernel_rfl) (by kernel_rfl) (by kernel_rfl) (fun _ _ _ h => h) (Or.inl ⟨by rfl, ?_⟩) hHeld ?_
        · intro W9 hSW
          (try dsimp only at hSW)
          go_simp
        try simp only [Act.put, List.setIfInBounds_toArray, List.set_cons_zero, List.set_cons_succ]
        refine wpAnyH_take (i := 11) (oi := { dst := some 58, op := _, type := _, pos := _, after := _, guard := _ }) (v := .int .i64 k) rfl (by kernel_rfl) (by kernel_rfl) (by kernel_rfl) (fun _ _ _ h => h) (Or.inl ⟨by rfl, ?_⟩) hHeld ?_
        · intro W9 hSW
          (try dsimp only at hSW)
          go_simp
        try simp only [Act.put, List.setIfInBounds_toArray, List.set_cons_zero, List.set_cons_succ]
        refine wpAnyH_take (i := 12) (oi := { dst := some 59, op := _, type := _, pos := _, after := _, guard := _ }) (v := .slice (some ⟨lb, lo, none⟩) l.length lcap) rfl (by kernel_rfl) (by kernel_rfl) (by kernel_rfl) (fun _ _ _ h => h) (Or.inl ⟨by rfl, ?_⟩) hHeld ?_
        · intro W9 hSW
          (try dsimp only at hSW)
          go_simp
        try simp only [Act.put, List.setIfInBounds_toArray, List.set_cons_zero, List.set_cons_succ]
        refine wpAnyH_take (i := 13) (oi := { dst := some 60, op := _, type := _, pos := _, after := _, guard := _ }) (v := .int .i64 l.length) rfl (by kernel_rfl) (by kernel_rfl) (by kernel_rfl) (fun _ _ _ h => h) (Or.inl ⟨by rfl, ?_⟩) hHeld ?_
        · intro W9 hSW
          (try dsimp only at hSW)
          go_simp
        try simp only [Act.put, List.setIfInBounds_toArray, List.set_cons_zero, List.set_cons_succ]
        refine wpAnyH_take (i := 14) (oi := { dst := some 61, op := _, type := _, pos := _, after := _, guard := _ }) (v := .bool true) rfl (by kernel_rfl) (by kernel_rfl) (by kernel_rfl) (fun _ _ _ h => h) (Or.inl ⟨by rfl, ?_⟩) hHeld ?_
        · intro W9 hSW
          (try dsimp only at hSW)
          go_simp
        try simp only [Act.put, List.setIfInBounds_toArray, List.set_cons_zero, List.set_cons_succ]
        refine wpAnyH_take (i := 15) (oi := { dst := some 62, op := _, type := _, pos := _, after := _, guard := _ }) (v := .bool true) rfl (by kernel_rfl) (by kernel_rfl) (by kernel_rfl) (fun _ _ _ h => h) (Or.inl ⟨by rfl, ?_⟩) hHeld ?_
        · intro W9 hSW
          (try dsimp only at hSW)
          go_simp
        try simp only [Act.put, List.setIfInBounds_toArray, List.set_cons_zero, List.set_cons_succ]
        refine wpAnyH_take (i := 16) (oi := { dst := some 63, op := _, type := _, pos := _, after := _, guard := _ }) (v := .slice (some ⟨lb, lo, none⟩) l.length lcap) rfl (by kernel_rfl) (by kernel_rfl) (by kernel_rfl) (fun _ _ _ h => h) (Or.inl ⟨by rfl, ?_⟩) hHeld ?_
        · intro W9 hSW
          (try dsimp only at hSW)
          go_simp
        try simp only [Act.put, List.setIfInBounds_toArray, List.set_cons_zero, List.set_cons_succ]
        refine wpAnyH_take (i := 17) (oi := { dst := some 64, op := _, type := _, pos := _, after := _, guard := _ }) (v := .pointer (some ⟨pb, 0, none⟩)) rfl (by kernel_rfl) (by kernel_rfl) (by kernel_rfl) (fun _ _ _ h => h) (Or.inl ⟨by rfl, ?_⟩) hHeld ?_
        · intro W9 hSW
          (try dsimp only at hSW)
          go_simp
        try simp only [Act.put, List.setIfInBounds_toArray, List.set_cons_zero, List.set_cons_succ]
        refine wpAnyH_take (i := 18) (oi := { dst := some 65, op := _, type := _, pos := _, after := _, guard := _ }) (v := .pointer (some ⟨pb, 0, none⟩)) rfl (by kernel_rfl) (by kernel_rfl) (by kernel_rfl) (fun _ _ _ h => h) (Or.inl ⟨by rfl, ?_⟩) hHeld ?_
        · intro W9 hSW
          (try dsimp only at hSW)
          go_simp
        try simp only [Act.put, List.setIfInBounds_toArray, List.set_cons_zero, List.set_cons_succ]
        refine wpAnyH_take (i := 19) (oi := { dst := some 66, op := _, type := _, pos := _, after := _, guard := _ }) (v := .pointer (some ⟨pb, 2, none⟩)) rfl (by kernel_rfl) (by kernel_rfl) (by kernel_rfl) (fun _ _ _ h => h) (Or.inl ⟨by rfl, ?_⟩) hHeld ?_
        · intro W9 hSW
          (try dsimp only at hSW)
          go_simp
        try simp only [Act.put, List.setIfInBounds_toArray, List.set_cons_zero, List.set_cons_succ]
        refine wpAnyH_take (i := 20) (oi := { dst := some 67, op := _, type := _, pos := _, after := _, guard := _ }) (v := .slice (some ⟨ga, 0, none⟩) d.ats.length ca) rfl (by kernel_rfl) (by kernel_rfl) (by kernel_rfl) (fun _ _ _ h => h) (Or.inl ⟨by rfl, ?_⟩) hHeld ?_
        · intro W9 hSW
          (try dsimp only at hSW)
          go_simp
        try simp only [Act.put, List.setIfInBounds_toArray, List.set_cons_zero, List.set_cons_succ]
        refine wpAnyH_take (i := 21) (oi := { dst := some 68, op := _, type := _, pos := _, after := _, guard := _ }) (v := .int .i64 t) rfl (by kernel_rfl) (by kernel_rfl) (by kernel_rfl) (fun _ _ _ h => h) (Or.inl ⟨by rfl, ?_⟩) hHeld ?_
        · intro W9 hSW
          (try dsimp only at hSW)
          go_simp
        try simp only [Act.put, List.setIfInBounds_toArray, List.set_cons_zero, List.set_cons_succ]
        refine wpAnyH_take (i := 22) (oi := { dst := some 69, op := _, type := _, pos := _, after := _, guard := _ }) (v := .pointer (some ⟨ga, t, none⟩)) rfl (by kernel_rfl) (by kernel_rfl) (by kernel_rfl) (fun _ _ _ h => h) (Or.inl ⟨by rfl, ?_⟩) hHeld ?_
        · intro W9 hSW
          (try dsimp only at hSW)
          go_simp
        try simp only [Act.put, List.setIfInBounds_toArray, List.set_cons_zero, List.set_cons_succ]
        refine wpAnyH_take (i := 23) (oi := { dst := some 70, op := _, type := _, pos := _, after := _, guard := _ }) (v := .int .i64 k) rfl (by kernel_rfl) (by kernel_rfl) (by kernel_rfl) (fun _ _ _ h => h) (Or.inl ⟨by rfl, ?_⟩) hHeld ?_
        · intro W9 hSW
          (try dsimp only at hSW)
          go_simp
        try simp only [Act.put, List.setIfInBounds_toArray, List.set_cons_zero, List.set_cons_succ]
        refine wpAnyH_take (i := 24) (oi := { dst := some 71, op := _, type := _, pos := _, after := _, guard := _ }) (v := .pointer (some ⟨lb, lo + k * 4, none⟩)) rfl (by kernel_rfl) (by kernel_rfl) (by kernel_rfl) (fun _ _ _ h => h) (Or.inl ⟨by rfl, ?_⟩) hHeld ?_
        · intro W9 hSW
          (try dsimp only at hSW)
          go_simp
        try simp only [Act.put, List.setIfInBounds_toArray, List.set_cons_zero, List.set_cons_succ]
        refine wpAnyH_take (i := 25) (oi := { dst := some 72, op := _, type := _, pos := _, after := _, guard := _ }) (v := .pointer (some ⟨lb, lo + k * 4, none⟩)) rfl (by kernel_rfl) (by kernel_rfl) (by kernel_rfl) (fun _ _ _ h => h) (Or.inl ⟨by rfl, ?_⟩) hHeld ?_
        · intro W9 hSW
          (try dsimp only at hSW)
          go_simp
        try simp only [Act.put, List.setIfInBounds_toArray, List.set_cons_zero, List.set_cons_succ]
        refine wpAnyH_take (i := 26) (oi := { dst := some 73, op := _, type := _, pos := _, after := _, guard := _ }) (v := .int .i64 aw) rfl (by kernel_rfl) (by kernel_rfl) (by kernel_rfl) (fun _ _ _ h => h) (Or.inl ⟨by rfl, ?_⟩) hHeld ?_
        · intro W9 hSW
          (try dsimp only at hSW)
          go_simp
        try simp only [Act.put, List.setIfInBounds_toArray, List.set_cons_zero, List.set_cons_succ]
        refine wpAnyH_take (i := 27) (oi := { dst := some 74, op := _, type := _, pos := _, after := _, guard := _ }) (v := .bool false) rfl (by kernel_rfl) (by kernel_rfl) (by kernel_rfl) (fun _ _ _ h => h) (Or.inl ⟨by rfl, ?_⟩) hHeld ?_
        · intro W9 hSW
          (try dsimp only at hSW)
          go_simp
        try simp only [Act.put, List.setIfInBounds_toArray, List.set_cons_zero, List.set_cons_succ]
        refine wpAnyH_take (i := 28) (oi := { dst := some 75, op := _, type := _, pos := _, after := _, guard := _ }) (v := .bool false) rfl (by kernel_rfl) (by kernel_rfl) (by kernel_rfl) (fun _ _ _ h => h) (Or.inl ⟨by rfl, ?_⟩) hHeld ?_
        · intro W9 hSW
          (try dsimp only at hSW)
          go_simp
        try simp only [Act.put, List.setIfInBounds_toArray, List.set_cons_zero, List.set_cons_succ]
        refine wpAnyH_take (i := 29) (oi := { dst := some 76, op := _, type := _, pos := _, after := _, guard := _ }) (v := .pointer (some ⟨gp, t, none⟩)) rfl (by kernel_rfl) (by kernel_rfl) (by kernel_rfl) (fun _ _ _ h => h) (Or.inl ⟨by rfl, ?_⟩) hHeld ?_
        · intro W9 hSW
          (try dsimp only at hSW)
          go_simp
        try simp only [Act.put, List.setIfInBounds_toArray, List.set_cons_zero, List.set_cons_succ]
        refine wpAnyH_ready (rs := [30]) (by kernel_rfl) (by simp) ?_
        refine AllReadyH.cons (o := { dst := none, op := _, type := _, pos := _, after := _, guard := _ }) rfl (fun K hK => ?_) AllReadyH.nil
        go_simp
        have kg : Keeps (fun b => b = gp) W5.drew (W5.drew.setCell ⟨gp, t, none⟩ (.bool false)) := (Keeps.refl (fun b => b = gp) W5.drew).setCell (p := ⟨gp, t, none⟩) (Or.inl rfl) _
        have hne1 : ¬ ga = gp := fun e => HPA.out e.symm
        have hne2 : ¬ lb = gp := fun e => by have h1 := HLB.out; have h3 := HFF.out _ HPF.out; omega
        have hS7 : (fun V : World => V.cell? ⟨pb, 2, none⟩ = some (.slice (some ⟨ga, 0, none⟩) d.ats.length ca) ∧ V.cell? ⟨pb, 3, none⟩ = some (.slice (some ⟨gp, 0, none⟩) d.paused.length cp) ∧ V.cell? ⟨ga, t, none⟩ = some (.int .i64 (k : Int)) ∧ V.cell? ⟨lb, lo + k * 4, none⟩ = some (.int .i64 aw)) (W5.drew.setCell ⟨gp, t, none⟩ (.bool false)) := ⟨kg.cell_of (w := W5.drew) y2 HNP.out, kg.cell_of (w := W5.drew) y3 HNP.out, kg.cell_of (w := W5.drew) ya hne1, kg.cell_of (w := W5.drew) x0 hne2⟩
        obtain ⟨p7, kp7⟩ := (J5.new (keeps_drew0 W5)).py.setPaused (cap := cp) (g := gp) (J5.new (keeps_drew0 W5)).y3 rfl t false (d.cnt + 1) (Nat.le_refl _)
        have K7 : Keeps (fun b => b = ga ∨ b = gp) w1 (W5.drew.setCell ⟨gp, t, none⟩ (.bool false)) := K5.drew.setCell (p := ⟨gp, t, none⟩) (Or.inl (Or.inr rfl)) _
        have HY7 := Lib.hid (And.intro (kg.cell_of (w := W5.drew) y2 HNP.out) (kg.cell_of (w := W5.drew) ya hne1))
        have KF7 := Lib.hid ((J5.new (keeps_drew0 W5)).kp.trans kp7)
        have P7 := Lib.hid p7
        have HK7 := Lib.hid K7
        dsimp only at hS7
        refine hK.out _ _ hS7 (fun hHeld => ?_)
        clear hK K kg hS7 p7 kp7 hHeld K5 J5 K7 y2 y3 ya yp zp x0
        refine wpAnyH_done (by kernel_rfl) ?_ _
        go_upto_region 7 with fail
        rw [World.setCell_drew] at KF7 P7 HK7 HY7
        generalize (W5.setCell ⟨gp, t, none⟩ (.bool false)).drew = W7 at *
        obtain ⟨y2, ya⟩ := HY7.out
        have hga9 : ¬ (ab = ga ∨ ab = gp) := fun e => by have h1 := HFL.out ga HGL.out.2.2; have h2 := HFL.out gp HPF.out; omega
        have hal : ab < w1.heap.size := by have := HS1.out; omega
        have hr9 : ∀ j, j < 4 → ∃ x, W7.cell? ⟨ab, j, none⟩ = some x ∧ W7.frozen? ⟨ab, j, none⟩ = false := fun j hj => by
          obtain ⟨x9, h5, h6⟩ := HC4.out j hj
          exact ⟨x9, HK7.out.cell_of h5 hga9, (HK7.out.frozen (p := ⟨ab, j, none⟩) hal hga9).trans h6⟩
        have HR9 := Lib.hid hr9
        obtain ⟨_, d0, z0⟩ := hr9 0 (by decide)
        obtain ⟨_, d1, z1⟩ := hr9 1 (by decide)
        obtain ⟨_, d2, z2⟩ := hr9 2 (by decide)
        obtain ⟨_, d3, z3⟩ := hr9 3 (by decide)
        obtain ⟨q0, q1, q2, q3⟩ := HLBA.out _ HK7.out
        clear hr9 hga9 hal
        go_wp2_with fail
        obtain ⟨u0, u1, u2, u3⟩ := get4 (V := W7) (r := ab) (fun i hi => by obtain ⟨x9, h5, _⟩ := HR9.out i hi; exact ⟨x9, h5⟩) (.int .i64 aw) (.int .i64 an) (.slice aa na caa) (.slice ac nc cac)
        have hk8 := set4_keeps W7 ab (.int .i64 aw) (.int .i64 an) (.slice aa na caa) (.slice ac nc cac)
        generalize (((W7.setCell ⟨ab, 0, none⟩ (.int .i64 aw)).setCell ⟨ab, 1, none⟩ (.int .i64 an)).setCell ⟨ab, 2, none⟩ (.slice aa na caa)).setCell ⟨ab, 3, none⟩ (.slice ac nc cac) = W8 at *
        have hnF : ∀ b, F b → ¬ b = ab := fun b hb e => by have := HFL.out b hb; omega
        refine bodyPost_ret (v := .agg #[.int .i64 aw, .int .i64 an, .slice aa na caa, .slice ac nc cac]) (by simp [results, Tryz.results216, go_sem, u0, u1, u2, u3]) rfl ?_
        have hkF : Keeps F w W8 := KF7.out.trans' hk8 fun b hb e => by have := HAB.out; have : b = ab := e; omega
        have hown9 : ∀ b, Held ⟨2, an, args, cases⟩ (Value.slice aa na caa) (Value.slice ac nc cac) b → b < w0.heap.size := HOWN.out
        have hs9 : AskSays w (.slice aa na caa) (.slice ac nc cac) ⟨aw, an, args, cases⟩ := askSays_below HSAY.out HBW.out (Nat.le_refl _)
        exact ⟨_, _, rfl, hs9.keeps hkF fun b hb e => by have h5 := hown9 b hb; have h6 := HFF.out b e; omega, ⟨F, P7.out.keeps hk8 hnF, fun b hb => Or.inl hb, fun b hb => ⟨fun e => by have h5 := hown9 b hb; have h6 := HFF.out b e; omega, Or.inl (hown9 b hb)⟩⟩, hkF⟩
    · have hnx : pyNext Sc d t = (⟨d.fns, d.ats.set t k, d.paused.set t false, d.cnt + 1⟩, pyEnd) := by
        have h9 : pyAt d t = k := by unfold pyAt; rw [HX9.out, HP9.out, hk]; rfl
        unfold pyNext
        rw [h9, HL9.out, List.getElem?_eq_none (by omega)]
        rfl
      rw [hnx]
      simp only
      clear hnx
      go_enter Tryz.func216, Tryz.ntmps216
      go_upto_region 1 with fail
      rw [← hw1]
      clear hw1
      generalize hab : w.heap.size = ab at *
      have HAB := Lib.hid hab
      clear hab
      go_upto_region 5 with fail
      obtain ⟨W, hq⟩ : ∃ W, W = w1 := ⟨_, rfl⟩
      rw [← hq]
      obtain ⟨J, hkW⟩ := HJ.out W k (Or.inl ⟨rfl, hk, hq⟩)
      have J5 := J.new (keeps_drew0 W)
      have K5 : Keeps (fun b => b = ga ∨ b = gp) w1 W.drew := (hkW.mono fun _ _ e => Or.inl e).drew
      have y0 := J.y0
      have y1 := J.y1
      have yf := J.yf
      have ys := J.ys
      have HKP := Lib.hid J.kp
      have HKX := Lib.hid hk
      clear c0 c1 c2 c3 qf qa qp hq zga hkW J hk
      refine wp_region_held_drew (S := (fun V : World => V.cell? ⟨pb, 0, none⟩ = some (.slice (some ⟨sb, so, none⟩) Sc.length scap) ∧ V.cell? ⟨pb, 1, none⟩ = some (.slice (some ⟨gf, 0, none⟩) d.fns.length cf) ∧ V.cell? ⟨gf, t, none⟩ = some (.int .i64 (f : Int)) ∧ V.cell? ⟨sb, so + f, none⟩ = some (.slice lao l.length lcap))) (by kernel_rfl) ⟨by simp only [World.cell?_drew]; assumption, by simp only [World.cell?_drew]; assumption, by simp only [World.cell?_drew]; assumption, by simp only [World.cell?_drew]; assumption⟩ (fun hHeld => ?_)
      refine wpAnyH_take (i := 0) (oi := { dst := some 34, op := _, type := _, pos := _, after := _, guard := _ }) (v := .pointer (some ⟨pb, 0, none⟩)) rfl (by kernel_rfl) (by kernel_rfl) (by kernel_rfl) (fun _ _ _ h => h) (Or.inl ⟨by rfl, ?_⟩) hHeld ?_
      · intro W9 hSW
        (try dsimp only at hSW)
        go_simp
      try simp only [Act.put, List.setIfInBounds_toArray, List.set_cons_zero, List.set_cons_succ]
      refine wpAnyH_take (i := 1) (oi := { dst := some 35, op := _, type := _, pos := _, after := _, guard := _ }) (v := .pointer (some ⟨pb, 0, none⟩)) rfl (by kernel_rfl) (by kernel_rfl) (by kernel_rfl) (fun _ _ _ h => h) (Or.inl ⟨by rfl, ?_⟩) hHeld ?_
      · intro W9 hSW
        (try dsimp only at hSW)
        go_simp
      try simp only [Act.put, List.setIfInBounds_toArray, List.set_cons_zero, List.set_cons_succ]
      refine wpAnyH_take (i := 2) (oi := { dst := some 36, op := _, type := _, pos := _, after := _, guard := _ }) (v := .pointer (some ⟨pb, 0, none⟩)) rfl (by kernel_rfl) (by kernel_rfl) (by kernel_rfl) (fun _ _ _ h => h) (Or.inl ⟨by rfl, ?_⟩) hHeld ?_
      · intro W9 hSW
        (try dsimp only at hSW)
        go_simp
      try simp only [Act.put, List.setIfInBounds_toArray, List.set_cons_zero, List.set_cons_succ]
      refine wpAnyH_take (i := 3) (oi := { dst := some 37, op := _, type := _, pos := _, after := _, guard := _ }) (v := .slice (some ⟨sb, so, none⟩) Sc.length scap) rfl (by kernel_rfl) (by kernel_rfl) (by kernel_rfl) (fun _ _ _ h => h) (Or.inl ⟨by rfl, ?_⟩) hHeld ?_
      · intro W9 hSW
        (try dsimp only at hSW)
        go_simp
      try simp only [Act.put, List.setIfInBounds_toArray, List.set_cons_zero, List.set_cons_succ]
      refine wpAnyH_take (i := 4) (oi := { dst := some 38, op := _, type := _, pos := _, after := _, guard := _ }) (v := .pointer (some ⟨pb, 0, none⟩)) rfl (by kernel_rfl) (by kernel_rfl) (by kernel_rfl) (fun _ _ _ h => h) (Or.inl ⟨by rfl, ?_⟩) hHeld ?_
      · intro W9 hSW
        (try dsimp only at hSW)
        go_simp
      try simp only [Act.put, List.setIfInBounds_toArray, List.set_cons_zero, List.set_cons_succ]
      refine wpAnyH_take (i := 5) (oi := { dst := some 39, op := _, type := _, pos := _, after := _, guard := _ }) (v := .pointer (some ⟨pb, 0, none⟩)) rfl (by kernel_rfl) (by kernel_rfl) (by kernel_rfl) (fun _ _ _ h => h) (Or.inl ⟨by rfl, ?_⟩) hHeld ?_
      · intro W9 hSW
        (try dsimp only at hSW)
        go_simp
      try simp only [Act.put, List.setIfInBounds_toArray, List.set_cons_zero, List.set_cons_succ]
      refine wpAnyH_take (i := 6) (oi := { dst := some 40, op := _, type := _, pos := _, after := _, guard := _ }) (v := .pointer (some ⟨pb, 1, none⟩)) rfl (by kernel_rfl) (by kernel_rfl) (by kernel_rfl) (fun _ _ _ h => h) (Or.inl ⟨by rfl, ?_⟩) hHeld ?_
      · intro W9 hSW
        (try dsimp only at hSW)
        go_simp
      try simp only [Act.put, List.setIfInBounds_toArray, List.set_cons_zero, List.set_cons_succ]
      refine wpAnyH_take (i := 7) (oi := { dst := some 41, op := _, type := _, pos := _, after := _, guard := _ }) (v := .slice (some ⟨gf, 0, none⟩) d.fns.length cf) rfl (by kernel_rfl) (by kernel_rfl) (by kernel_rfl) (fun _ _ _ h => h) (Or.inl ⟨by rfl, ?_⟩) hHeld ?_
      · intro W9 hSW
        (try dsimp only at hSW)
        go_simp
      try simp only [Act.put, List.setIfInBounds_toArray, List.set_cons_zero, List.set_cons_succ]
      refine wpAnyH_take (i := 8) (oi := { dst := some 42, op := _, type := _, pos := _, after := _, guard := _ }) (v := .int .i64 t) rfl (by kernel_rfl) (by kernel_rfl) (by kernel_rfl) (fun _ _ _ h => h) (Or.inl ⟨by rfl, ?_⟩) hHeld ?_
      · intro W9 hSW
        (try dsimp only at hSW)
        go_simp
      try simp only [Act.put, List.setIfInBounds_toArray, List.set_cons_zero, List.set_cons_succ]
      refine wpAnyH_take (i := 9) (oi := { dst := some 43, op := _, type := _, pos := _, after := _, guard := _ }) (v := .pointer (some ⟨gf, t, none⟩)) rfl (by kernel_rfl) (by kernel_rfl) (by kernel_rfl) (fun _ _ _ h => h) (Or.inl ⟨by rfl, ?_⟩) hHeld ?_
      · intro W9 hSW
        (try dsimp only at hSW)
        go_simp
      try simp only [Act.put, List.setIfInBounds_toArray, List.set_cons_zero, List.set_cons_succ]
      refine wpAnyH_take (i := 10) (oi := { dst := some 44, op := _, type := _, pos := _, after := _, guard := _ }) (v := .int .i64 f) rfl (by kernel_rfl) (by kernel_rfl) (by kernel_rfl) (fun _ _ _ h => h) (Or.inl ⟨by rfl, ?_⟩) hHeld ?_
      · intro W9 hSW
        (try dsimp only at hSW)
        go_simp
      try simp only [Act.put, List.setIfInBounds_toArray, List.set_cons_zero, List.set_cons_succ]
      refine wpAnyH_take (i := 11) (oi := { dst := some 45, op := _, type := _, pos := _, after := _, guard := _ }) (v := .pointer (some ⟨sb, so + f, none⟩)) rfl (by kernel_rfl) (by kernel_rfl) (by kernel_rfl) (fun _ _ _ h => h) (Or.inl ⟨by rfl, ?_⟩) hHeld ?_
      · intro W9 hSW
        (try dsimp only at hSW)
        go_simp
      try simp only [Act.put, List.setIfInBounds_toArray, List.set_cons_zero, List.set_cons_succ]
      refine wpAnyH_take (i := 12) (oi := { dst := some 46, op := _, type := _, pos := _, after := _, guard := _ }) (v := .slice lao l.length lcap) rfl (by kernel_rfl) (by kernel_rfl) (by kernel_rfl) (fun _ _ _ h => h) (Or.inl ⟨by rfl, ?_⟩) hHeld ?_
      · intro W9 hSW
        (try dsimp only at hSW)
        go_simp
      try simp only [Act.put, List.setIfInBounds_toArray, List.set_cons_zero, List.set_cons_succ]
      refine wpAnyH_take (i := 13) (oi := { dst := some 5, op := _, type := _, pos := _, after := _, guard := _ }) (v := .slice lao l.length lcap) rfl (by kernel_rfl) (by kernel_rfl) (by kernel_rfl) (fun _ _ _ h => h) (Or.inl ⟨by rfl, ?_⟩) hHeld ?_
      · intro W9 hSW
        (try dsimp only at hSW)
        go_simp
      try simp only [Act.put, List.setIfInBounds_toArray, List.set_cons_zero, List.set_cons_succ]
      refine wpAnyH_done (by kernel_rfl) ?_ _
      generalize hW5 : W.drew = W5 at *
      clear hW5 y0 y1 yf ys hHeld
      go_upto_region 6 with fail
      have y2 := J5.y2
      have y3 := J5.y3
      have ya := J5.ya
      have yp := J5.yp
      have zp := J5.zp
      have hkl1 : ¬ (k : Int) < (l.length : Int) := by omega
      refine wp_region_held_drew (S := (fun V : World => V.cell? ⟨pb, 2, none⟩ = some (.slice (some ⟨ga, 0, none⟩) d.ats.length ca) ∧ V.cell? ⟨pb, 3, none⟩ = some (.slice (some ⟨gp, 0, none⟩) d.paused.length cp) ∧ V.cell? ⟨ga, t, none⟩ = some (.int .i64 (k : Int)))) (by kernel_rfl) ⟨by simp only [World.cell?_drew]; assumption, by simp only [World.cell?_drew]; assumption, by simp only [World.cell?_drew]; assumption⟩ (fun hHeld => ?_)
      refine wpAnyH_take (i := 0) (oi := { dst := some 47, op := _, type := _, pos := _, after := _, guard := _ }) (v := .pointer (some ⟨pb, 0, none⟩)) rfl (by kernel_rfl) (by kernel_rfl) (by kernel_rfl) (fun _ _ _ h => h) (Or.inl ⟨by rfl, ?_⟩) hHeld ?_
      · intro W9 hSW
        (try dsimp only at hSW)
        go_simp
      try simp only [Act.put, List.setIfInBounds_toArray, List.set_cons_zero, List.set_cons_succ]
      refine wpAnyH_take (i := 1) (oi := { dst := some 48, op := _, type := _, pos := _, after := _, guard := _ }) (v := .pointer (some ⟨pb, 0, none⟩)) rfl (by kernel_rfl) (by kernel_rfl) (by kernel_rfl) (fun _ _ _ h => h) (Or.inl ⟨by rfl, ?_⟩) hHeld ?_
      · intro W9 hSW
        (try dsimp only at hSW)
        go_simp
      try simp only [Act.put, List.setIfInBounds_toArray, List.set_cons_zero, List.set_cons_succ]
      refine wpAnyH_take (i := 2) (oi := { dst := some 49, op := _, type := _, pos := _, after := _, guard := _ }) (v := .pointer (some ⟨pb, 3, none⟩)) rfl (by kernel_rfl) (by kernel_rfl) (by kernel_rfl) (fun _ _ _ h => h) (Or.inl ⟨by rfl, ?_⟩) hHeld ?_
      · intro W9 hSW
        (try dsimp only at hSW)
        go_simp
      try simp only [Act.put, List.setIfInBounds_toArray, List.set_cons_zero, List.set_cons_succ]
      refine wpAnyH_take (i := 3) (oi := { dst := some 50, op := _, type := _, pos := _, after := _, guard := _ }) (v := .slice (some ⟨gp, 0, none⟩) d.paused.length cp) rfl (by kernel_rfl) (by kernel_rfl) (by kernel_rfl) (fun _ _ _ h => h) (Or.inl ⟨by rfl, ?_⟩) hHeld ?_
      · intro W9 hSW
        (try dsimp only at hSW)
        go_simp
      try simp only [Act.put, List.setIfInBounds_toArray, List.set_cons_zero, List.set_cons_succ]
      refine wpAnyH_take (i := 4) (oi := { dst := some 51, op := _, type := _, pos := _, after := _, guard := _ }) (v := .int .i64 t) rfl (by kernel_rfl) (by kernel_rfl) (by kernel_rfl) (fun _ _ _ h => h) (Or.inl ⟨by rfl, ?_⟩) hHeld ?_
      · intro W9 hSW
        (try dsimp only at hSW)
        go_simp
      try simp only [Act.put, List.setIfInBounds_toArray, List.set_cons_zero, List.set_cons_succ]
      refine wpAnyH_take (i := 5) (oi := { dst := some 52, op := _, type := _, pos := _, after := _, guard := _ }) (v := .pointer (some ⟨pb, 0, none⟩)) rfl (by kernel_rfl) (by kernel_rfl) (by kernel_rfl) (fun _ _ _ h => h) (Or.inl ⟨by rfl, ?_⟩) hHeld ?_
      · intro W9 hSW
        (try dsimp only at hSW)
        go_simp
      try simp only [Act.put, List.setIfInBounds_toArray, List.set_cons_zero, List.set_cons_succ]
      refine wpAnyH_take (i := 6) (oi := { dst := some 53, op := _, type := _, pos := _, after := _, guard := _ }) (v := .pointer (some ⟨pb, 0, none⟩)) rfl (by kernel_rfl) (by kernel_rfl) (by kernel_rfl) (fun _ _ _ h => h) (Or.inl ⟨by rfl, ?_⟩) hHeld ?_
      · intro W9 hSW
        (try dsimp only at hSW)
        go_simp
      try simp only [Act.put, List.setIfInBounds_toArray, List.set_cons_zero, List.set_cons_succ]
      refine wpAnyH_take (i := 7) (oi := { dst := some 54, op := _, type := _, pos := _, after := _, guard := _ }) (v := .pointer (some ⟨pb, 2, none⟩)) rfl (by kernel_rfl) (by kernel_rfl) (by kernel_rfl) (fun _ _ _ h => h) (Or.inl ⟨by rfl, ?_⟩) hHeld ?_
      · intro W9 hSW
        (try dsimp only at hSW)
        go_simp
      try simp only [Act.put, List.setIfInBounds_toArray, List.set_cons_zero, List.set_cons_succ]
      refine wpAnyH_take (i := 8) (oi := { dst := some 55, op := _, type := _, pos := _, after := _, guard := _ }) (v := .slice (some ⟨ga, 0, none⟩) d.ats.length ca) rfl (by kernel_rfl) (by kernel_rfl) (by kernel_rfl) (fun _ _ _ h => h) (Or.inl ⟨by rfl, ?_⟩) hHeld ?_
      · intro W9 hSW
        (try dsimp only at hSW)
        go_simp
      try simp only [Act.put, List.setIfInBounds_toArray, List.set_cons_zero, List.set_cons_succ]
      refine wpAnyH_take (i := 9) (oi := { dst := some 56, op := _, type := _, pos := _, after := _, guard := _ }) (v := .int .i64 t) rfl (by kernel_rfl) (by kernel_rfl) (by kernel_rfl) (fun _ _ _ h => h) (Or.inl ⟨by rfl, ?_⟩) hHeld ?_
      · intro W9 hSW
        (try dsimp only at hSW)
        go_simp
      try simp only [Act.put, List.setIfInBounds_toArray, List.set_cons_zero, List.set_cons_succ]
      refine wpAnyH_take (i := 10) (oi := { dst := some 57, op := _, type := _, pos := _, after := _, guard := _ }) (v := .pointer (some ⟨ga, t, none⟩)) rfl (by kernel_rfl) (by kernel_rfl) (by kernel_rfl) (fun _ _ _ h => h) (Or.inl ⟨by rfl, ?_⟩) hHeld ?_
      · intro W9 hSW
        (try dsimp only at hSW)
        go_simp
      try simp only [Act.put, List.setIfInBounds_toArray, List.set_cons_zero, List.set_cons_succ]
      refine wpAnyH_take (i := 11) (oi := { dst := some 58, op := _, type := _, pos := _, after := _, guard := _ }) (v := .int .i64 k) rfl (by kernel_rfl) (by kernel_rfl) (by kernel_rfl) (fun _ _ _ h => h) (Or.inl ⟨by rfl, ?_⟩) hHeld ?_
      · intro W9 hSW
        (try dsimp only at hSW)
        go_simp
      try simp only [Act.put, List.setIfInBounds_toArray, List.set_cons_zero, List.set_cons_succ]
      refine wpAnyH_take (i := 12) (oi := { dst := some 59, op := _, type := _, pos := _, after := _, guard := _ }) (v := .slice lao l.length lcap) rfl (by kernel_rfl) (by kernel_rfl) (by kernel_rfl) (fun _ _ _ h => h) (Or.inl ⟨by rfl, ?_⟩) hHeld ?_
      · intro W9 hSW
        (try dsimp only at hSW)
        go_simp
      try simp only [Act.put, List.setIfInBounds_toArray, List.set_cons_zero, List.set_cons_succ]
      refine wpAnyH_take (i := 13) (oi := { dst := some 60, op := _, type := _, pos := _, after := _, guard := _ }) (v := .int .i64 l.length) rfl (by kernel_rfl) (by kernel_rfl) (by kernel_rfl) (fun _ _ _ h => h) (Or.inl ⟨by rfl, ?_⟩) hHeld ?_
      · intro W9 hSW
        (try dsimp only at hSW)
        go_simp
      try simp only [Act.put, List.setIfInBounds_toArray, List.set_cons_zero, List.set_cons_succ]
      refine wpAnyH_take (i := 14) (oi := { dst := some 61, op := _, type := _, pos := _, after := _, guard := _ }) (v := .bool false) rfl (by kernel_rfl) (by kernel_rfl) (by kernel_rfl) (fun _ _ _ h => h) (Or.inl ⟨by rfl, ?_⟩) hHeld ?_
      · intro W9 hSW
        (try dsimp only at hSW)
        go_simp
      try simp only [Act.put, List.setIfInBounds_toArray, List.set_cons_zero, List.set_cons_succ]
      refine wpAnyH_take (i := 15) (oi := { dst := some 62, op := _, type := _, pos := _, after := _, guard := _ }) (v := .bool false) rfl (by kernel_rfl) (by kernel_rfl) (by kernel_rfl) (fun _ _ _ h => h) (Or.inl ⟨by rfl, ?_⟩) hHeld ?_
      · intro W9 hSW
        (try dsimp only at hSW)
        go_simp
      try simp only [Act.put, List.setIfInBounds_toArray, List.set_cons_zero, List.set_cons_succ]
      refine wpAnyH_take (i := 16) (oi := { dst := some 63, op := _, type := _, pos := _, after := _, guard := _ }) (v := undef) rfl (by kernel_rfl) (by kernel_rfl) (by kernel_rfl) (fun _ _ _ h => h) (Or.inr ⟨by rfl, rfl⟩) hHeld ?_
      try simp only [Act.put, List.setIfInBounds_toArray, List.set_cons_zero, List.set_cons_succ]
      refine wpAnyH_take (i := 17) (oi := { dst := some 64, op := _, type := _, pos := _, after := _, guard := _ }) (v := undef) rfl (by kernel_rfl) (by kernel_rfl) (by kernel_rfl) (fun _ _ _ h => h) (Or.inr ⟨by rfl, rfl⟩) hHeld ?_
      try simp only [Act.put, List.setIfInBounds_toArray, List.set_cons_zero, List.set_cons_succ]
      refine wpAnyH_take (i := 18) (oi := { dst := some 65, op := _, type := _, pos := _, after := _, guard := _ }) (v := undef) rfl (by kernel_rfl) (by kernel_rfl) (by kernel_rfl) (fun _ _ _ h => h) (Or.inr ⟨by rfl, rfl⟩) hHeld ?_
      try simp only [Act.put, List.setIfInBounds_toArray, List.set_cons_zero, List.set_cons_succ]
      refine wpAnyH_take (i := 19) (oi := { dst := some 66, op := _, type := _, pos := _, after := _, guard := _ }) (v := undef) rfl (by kernel_rfl) (by kernel_rfl) (by kernel_rfl) (fun _ _ _ h => h) (Or.inr ⟨by rfl, rfl⟩) hHeld ?_
      try simp only [Act.put, List.setIfInBounds_toArray, List.set_cons_zero, List.set_cons_succ]
      refine wpAnyH_take (i := 20) (oi := { dst := some 67, op := _, type := _, pos := _, after := _, guard := _ }) (v := undef) rfl (by kernel_rfl) (by kernel_rfl) (by kernel_rfl) (fun _ _ _ h => h) (Or.inr ⟨by rfl, rfl⟩) hHeld ?_
      try simp only [Act.put, List.setIfInBounds_toArray, List.set_cons_zero, List.set_cons_succ]
      refine wpAnyH_take (i := 21) (oi := { dst := some 68, op := _, type := _, pos := _, after := _, guard := _ }) (v := undef) rfl (by kernel_rfl) (by kernel_rfl) (by kernel_rfl) (fun _ _ _ h => h) (Or.inr ⟨by rfl, rfl⟩) hHeld ?_
      try simp only [Act.put, List.setIfInBounds_toArray, List.set_cons_zero, List.set_cons_succ]
      refine wpAnyH_take (i := 22) (oi := { dst := some 69, op := _, type := _, pos := _, after := _, guard := _ }) (v := undef) rfl (by kernel_rfl) (by kernel_rfl) (by kernel_rfl) (fun _ _ _ h => h) (Or.inr ⟨by rfl, rfl⟩) hHeld ?_
      try simp only [Act.put, List.setIfInBounds_toArray, List.set_cons_zero, List.set_cons_succ]
      refine wpAnyH_take (i := 23) (oi := { dst := some 70, op := _, type := _, pos := _, after := _, guard := _ }) (v := undef) rfl (by kernel_rfl) (by kernel_rfl) (by kernel_rfl) (fun _ _ _ h => h) (Or.inr ⟨by rfl, rfl⟩) hHeld ?_
      try simp only [Act.put, List.setIfInBounds_toArray, List.set_cons_zero, List.set_cons_succ]
      refine wpAnyH_take (i := 24) (oi := { dst := some 71, op := _, type := _, pos := _, after := _, guard := _ }) (v := undef) rfl (by kernel_rfl) (by kernel_rfl) (by kernel_rfl) (fun _ _ _ h => h) (Or.inr ⟨by rfl, rfl⟩) hHeld ?_
      try simp only [Act.put, List.setIfInBounds_toArray, List.set_cons_zero, List.set_cons_succ]
      refine wpAnyH_take (i := 25) (oi := { dst := some 72, op := _, type := _, pos := _, after := _, guard := _ }) (v := undef) rfl (by kernel_rfl) (by kernel_rfl) (by kernel_rfl) (fun _ _ _ h => h) (Or.inr ⟨by rfl, rfl⟩) hHeld ?_
      try simp only [Act.put, List.setIfInBounds_toArray, List.set_cons_zero, List.set_cons_succ]
      refine wpAnyH_take (i := 26) (oi := { dst := some 73, op := _, type := _, pos := _, after := _, guard := _ }) (v := undef) rfl (by kernel_rfl) (by kernel_rfl) (by kernel_rfl) (fun _ _ _ h => h) (Or.inr ⟨by rfl, rfl⟩) hHeld ?_
      try simp only [Act.put, List.setIfInBounds_toArray, List.set_cons_zero, List.set_cons_succ]
      refine wpAnyH_take (i := 27) (oi := { dst := some 74, op := _, type := _, pos := _, after := _, guard := _ }) (v := undef) rfl (by kernel_rfl) (by kernel_rfl) (by kernel_rfl) (fun _ _ _ h => h) (Or.inr ⟨by rfl, rfl⟩) hHeld ?_
      try simp only [Act.put, List.setIfInBounds_toArray, List.set_cons_zero, List.set_cons_succ]
      refine wpAnyH_take (i := 28) (oi := { dst := some 75, op := _, type := _, pos := _, after := _, guard := _ }) (v := .bool false) rfl (by kernel_rfl) (by kernel_rfl) (by kernel_rfl) (fun _ _ _ h => h) (Or.inl ⟨by rfl, ?_⟩) hHeld ?_
      · intro W9 hSW
        (try dsimp only at hSW)
        go_simp
      try simp only [Act.put, List.setIfInBounds_toArray, List.set_cons_zero, List.set_cons_succ]
      refine wpAnyH_take (i := 29) (oi := { dst := some 76, op := _, type := _, pos := _, after := _, guard := _ }) (v := .pointer (some ⟨gp, t, none⟩)) rfl (by kernel_rfl) (by kernel_rfl) (by kernel_rfl) (fun _ _ _ h => h) (Or.inl ⟨by rfl, ?_⟩) hHeld ?_
      · intro W9 hSW
        (try dsimp only at hSW)
        go_simp
      try simp only [Act.put, List.setIfInBounds_toArray, List.set_cons_zero, List.set_cons_succ]
      refine wpAnyH_ready (rs := [30]) (by kernel_rfl) (by simp) ?_
      refine AllReadyH.cons (o := { dst := none, op := _, type := _, pos := _, after := _, guard := _ }) rfl (fun K hK => ?_) AllReadyH.nil
      go_simp
      have kg : Keeps (fun b => b = gp) W5.drew (W5.drew.setCell ⟨gp, t, none⟩ (.bool false)) := (Keeps.refl (fun b => b = gp) W5.drew).setCell (p := ⟨gp, t, none⟩) (Or.inl rfl) _
      have hne1 : ¬ ga = gp := fun e => HPA.out e.symm
      have hS7 : (fun V : World => V.cell? ⟨pb, 2, none⟩ = some (.slice (some ⟨ga, 0, none⟩) d.ats.length ca) ∧ V.cell? ⟨pb, 3, none⟩ = some (.slice (some ⟨gp, 0, none⟩) d.paused.length cp) ∧ V.cell? ⟨ga, t, none⟩ = some (.int .i64 (k : Int))) (W5.drew.setCell ⟨gp, t, none⟩ (.bool false)) := ⟨kg.cell_of (w := W5.drew) y2 HNP.out, kg.cell_of (w := W5.drew) y3 HNP.out, kg.cell_of (w := W5.drew) ya hne1⟩
      obtain ⟨p7, kp7⟩ := (J5.new (keeps_drew0 W5)).py.setPaused (cap := cp) (g := gp) (J5.new (keeps_drew0 W5)).y3 rfl t false (d.cnt + 1) (Nat.le_refl _)
      have K7 : Keeps (fun b => b = ga ∨ b = gp) w1 (W5.drew.setCell ⟨gp, t, none⟩ (.bool false)) := K5.drew.setCell (p := ⟨gp, t, none⟩) (Or.inl (Or.inr rfl)) _
      have HY7 := Lib.hid (And.intro (kg.cell_of (w := W5.drew) y2 HNP.out) (kg.cell_of (w := W5.drew) ya hne1))
      have KF7 := Lib.hid ((J5.new (keeps_drew0 W5)).kp.trans kp7)
      have P7 := Lib.hid p7
      have HK7 := Lib.hid K7
      dsimp only at hS7
      refine hK.out _ _ hS7 (fun hHeld => ?_)
      clear hK K kg hS7 p7 kp7 hHeld K5 J5 K7 y2 y3 ya yp zp
      refine wpAnyH_done (by kernel_rfl) ?_ _
      go_upto_region 7 with fail
      rw [World.setCell_drew] at KF7 P7 HK7 HY7
      generalize (W5.setCell ⟨gp, t, none⟩ (.bool false)).drew = W7 at *
      obtain ⟨y2, ya⟩ := HY7.out
      have hga9 : ¬ (ab = ga ∨ ab = gp) := fun e => by have h1 := HFL.out ga HGL.out.2.2; have h2 := HFL.out gp HPF.out; omega
      have hal : ab < w1.heap.size := by have := HS1.out; omega
      have hr9 : ∀ j, j < 4 → ∃ x, W7.cell? ⟨ab, j, none⟩ = some x ∧ W7.frozen? ⟨ab, j, none⟩ = false := fun j hj => by
        obtain ⟨x9, h5, h6⟩ := HC4.out j hj
        exact ⟨x9, HK7.out.cell_of h5 hga9, (HK7.out.frozen (p := ⟨ab, j, none⟩) hal hga9).trans h6⟩
      have HR9 := Lib.hid hr9
      obtain ⟨_, d0, z0⟩ := hr9 0 (by decide)
      obtain ⟨_, d1, z1⟩ := hr9 1 (by decide)
      obtain ⟨_, d2, z2⟩ := hr9 2 (by decide)
      obtain ⟨_, d3, z3⟩ := hr9 3 (by decide)
      clear hr9 hga9 hal
      go_wp2_with fail
      obtain ⟨u0, u1, u2, u3⟩ := get4 (V := W7) (r := ab) (fun i hi => by obtain ⟨x9, h5, _⟩ := HR9.out i hi; exact ⟨x9, h5⟩) (.int .i64 1) (.int .i64 0) (.slice none 0 0) (.slice none 0 0)
      have hk8 := set4_keeps W7 ab (.int .i64 1) (.int .i64 0) (.slice none 0 0) (.slice none 0 0)
      generalize (((W7.setCell ⟨ab, 0, none⟩ (.int .i64 1)).setCell ⟨ab, 1, none⟩ (.int .i64 0)).setCell ⟨ab, 2, none⟩ (.slice none 0 0)).setCell ⟨ab, 3, none⟩ (.slice none 0 0) = W8 at *
      have hnF : ∀ b, F b → ¬ b = ab := fun b hb e => by have := HFL.out b hb; omega
      refine bodyPost_ret (v := .agg #[.int .i64 1, .int .i64 0, .slice none 0 0, .slice none 0 0]) (by simp [results, Tryz.results216, go_sem, u0, u1, u2, u3]) rfl ?_
      have hkF : Keeps F w W8 := KF7.out.trans' hk8 fun b hb e => by have := HAB.out; have : b = ab := e; omega
      exact ⟨_, _, rfl, ⟨intsAt_nil _, ⟨none, 0, 0, rfl, rfl, Nat.le_refl _, Nat.zero_le _, fun h => absurd h (Nat.lt_irrefl _)⟩, by decide, by decide, by decide, by decide⟩, ⟨F, P7.out.keeps hk8 hnF, fun b hb => Or.inl hb, fun b hb => by rcases hb with ⟨e, _⟩ | ⟨e, _⟩ <;> exact absurd e (Nat.lt_irrefl 0)⟩, hkF⟩
  · obtain ⟨k, hk⟩ : ∃ k, k = x + 1 := ⟨_, rfl⟩
    by_cases hkl : k < l.length
    · obtain ⟨⟨aw, an, args, cases⟩, hla⟩ : ∃ a, l[k]? = some a := ⟨_, List.getElem?_eq_getElem hkl⟩
      obtain ⟨lb, lo, hlao, hlb, hasks⟩ := HG9.out (by omega)
      subst hlao
      obtain ⟨va, vc, r0, r1, r2, r3, hsay, hown⟩ := hasks k _ hla
      simp only at r0 r1 r2 r3
      obtain ⟨aa, na, caa, rfl, -⟩ := id hsay.args
      obtain ⟨ac, nc, cac, rfl, -⟩ := id hsay.cases
      have HSAY := Lib.hid hsay
      have HOWN := Lib.hid hown
      have HLB := Lib.hid hlb
      clear hasks hsay hown hlb
      by_cases haw : aw = 2
      · have hnx : pyNext Sc d t = (⟨d.fns, d.ats.set t k, d.paused.set t true, d.cnt + 1⟩, ⟨aw, an, args, cases⟩) := by
          have h9 : pyAt d t = k := by unfold pyAt; rw [HX9.out, HP9.out, hk]; rfl
          unfold pyNext
          rw [h9, HL9.out, hla]
          simp only [Option.getD_some]
          rw [haw]; rfl
        rw [hnx]
        simp only
        clear hnx
        clear hla
        go_enter Tryz.func216, Tryz.ntmps216
        go_upto_region 1 with fail
        rw [← hw1]
        clear hw1
        generalize hab : w.heap.size = ab at *
        have HAB := Lib.hid hab
        clear hab
        go_upto_region 5 with fail
        generalize hq : w1.setCell ⟨ga, t, none⟩ (.int .i64 ((x : Int) + 1)) = W
        obtain ⟨J, hkW⟩ := HJ.out W k (Or.inr ⟨rfl, hk, hq.symm⟩)
        have J5 := J.new (keeps_drew0 W)
        have K5 : Keeps (fun b => b = ga ∨ b = gp) w1 W.drew := (hkW.mono fun _ _ e => Or.inl e).drew
        have y0 := J.y0
        have y1 := J.y1
        have yf := J.yf
        have ys := J.ys
        have HKP := Lib.hid J.kp
        have HKX := Lib.hid hk
        clear c0 c1 c2 c3 qf qa qp hq zga hkW J hk
        refine wp_region_held_drew (S := (fun V : World => V.cell? ⟨pb, 0, none⟩ = some (.slice (some ⟨sb, so, none⟩) Sc.length scap) ∧ V.cell? ⟨pb, 1, none⟩ = some (.slice (some ⟨gf, 0, none⟩) d.fns.length cf) ∧ V.cell? ⟨gf, t, none⟩ = some (.int .i64 (f : Int)) ∧ V.cell? ⟨sb, so + f, none⟩ = some (.slice (some ⟨lb, lo, none⟩) l.length lcap))) (by kernel_rfl) ⟨by simp only [World.cell?_drew]; assumption, by simp only [World.cell?_drew]; assumption, by simp only [World.cell?_drew]; assumption, by simp only [World.cell?_drew]; assumption⟩ (fun hHeld => ?_)
        refine wpAnyH_take (i := 0) (oi := { dst := some 34, op := _, type := _, pos := _, after := _, guard := _ }) (v := .pointer (some ⟨pb, 0, none⟩)) rfl (by kernel_rfl) (by kernel_rfl) (by kernel_rfl) (fun _ _ _ h => h) (Or.inl ⟨by rfl, ?_⟩) hHeld ?_
        · intro W9 hSW
          (try dsimp only at hSW)
          go_simp
        try simp only [Act.put, List.setIfInBounds_toArray, List.set_cons_zero, List.set_cons_succ]
        refine wpAnyH_take (i := 1) (oi := { dst := some 35, op := _, type := _, pos := _, after := _, guard := _ }) (v := .pointer (some ⟨pb, 0, none⟩)) rfl (by kernel_rfl) (by kernel_rfl) (by kernel_rfl) (fun _ _ _ h => h) (Or.inl ⟨by rfl, ?_⟩) hHeld ?_
        · intro W9 hSW
          (try dsimp only at hSW)
          go_simp
        try simp only [Act.put, List.setIfInBounds_toArray, List.set_cons_zero, List.set_cons_succ]
        refine wpAnyH_take (i := 2) (oi := { dst := some 36, op := _, type := _, pos := _, after := _, guard := _ }) (v := .pointer (some ⟨pb, 0, none⟩)) rfl (by kernel_rfl) (by kernel_rfl) (by kernel_rfl) (fun _ _ _ h => h) (Or.inl ⟨by rfl, ?_⟩) hHeld ?_
        · intro W9 hSW
          (try dsimp only at hSW)
          go_simp
        try simp only [Act.put, List.setIfInBounds_toArray, List.set_cons_zero, List.set_cons_succ]
        refine wpAnyH_take (i := 3) (oi := { dst := some 37, op := _, type := _, pos := _, after := _, guard := _ }) (v := .slice (some ⟨sb, so, none⟩) Sc.length scap) rfl (by kernel_rfl) (by kernel_rfl) (by kernel_rfl) (fun _ _ _ h => h) (Or.inl ⟨by rfl, ?_⟩) hHeld ?_
        · intro W9 hSW
          (try dsimp only at hSW)
          go_simp
        try simp only [Act.put, List.setIfInBounds_toArray, List.set_cons_zero, List.set_cons_succ]
        refine wpAnyH_take (i := 4) (oi := { dst := some 38, op := _, type := _, pos := _, after := _, guard := _ }) (v := .pointer (some ⟨pb, 0, none⟩)) rfl (by kernel_rfl) (by kernel_rfl) (by kernel_rfl) (fun _ _ _ h => h) (Or.inl ⟨by rfl, ?_⟩) hHeld ?_
        · intro W9 hSW
          (try dsimp only at hSW)
          go_simp
        try simp only [Act.put, List.setIfInBounds_toArray, List.set_cons_zero, List.set_cons_succ]
        refine wpAnyH_take (i := 5) (oi := { dst := some 39, op := _, type := _, pos := _, after := _, guard := _ }) (v := .pointer (some ⟨pb, 0, none⟩)) rfl (by kernel_rfl) (by kernel_rfl) (by kernel_rfl) (fun _ _ _ h => h) (Or.inl ⟨by rfl, ?_⟩) hHeld ?_
        · intro W9 hSW
          (try dsimp only at hSW)
          go_simp
        try simp only [Act.put, List.setIfInBounds_toArray, List.set_cons_zero, List.set_cons_succ]
        refine wpAnyH_take (i := 6) (oi := { dst := some 40, op := _, type := _, pos := _, after := _, guard := _ }) (v := .pointer (some ⟨pb, 1, none⟩)) rfl (by kernel_rfl) (by kernel_rfl) (by kernel_rfl) (fun _ _ _ h => h) (Or.inl ⟨by rfl, ?_⟩) hHeld ?_
        · intro W9 hSW
          (try dsimp only at hSW)
          go_simp
        try simp only [Act.put, List.setIfInBounds_toArray, List.set_cons_zero, List.set_cons_succ]
        refine wpAnyH_take (i := 7) (oi := { dst := some 41, op := _, type := _, pos := _, after := _, guard := _ }) (v := .slice (some ⟨gf, 0, none⟩) d.fns.length cf) rfl (by kernel_rfl) (by kernel_rfl) (by kernel_rfl) (fun _ _ _ h => h) (Or.inl ⟨by rfl, ?_⟩) hHeld ?_
        · intro W9 hSW
          (try dsimp only at hSW)
          go_simp
        try simp only [Act.put, List.setIfInBounds_toArray, List.set_cons_zero, List.set_cons_succ]
        refine wpAnyH_take (i := 8) (oi := { dst := some 42, op := _, type := _, pos := _, after := _, guard := _ }) (v := .int .i64 t) rfl (by kernel_rfl) (by kernel_rfl) (by kernel_rfl) (fun _ _ _ h => h) (Or.inl ⟨by rfl, ?_⟩) hHeld ?_
        · intro W9 hSW
          (try dsimp only at hSW)
          go_simp
        try simp only [Act.put, List.setIfInBounds_toArray, List.set_cons_zero, List.set_cons_succ]
        refine wpAnyH_take (i := 9) (oi := { dst := some 43, op := _, type := _, pos := _, after := _, guard := _ }) (v := .pointer (some ⟨gf, t, none⟩)) rfl (by kernel_rfl) (by kernel_rfl) (by kernel_rfl) (fun _ _ _ h => h) (Or.inl ⟨by rfl, ?_⟩) hHeld ?_
        · intro W9 hSW
          (try dsimp only at hSW)
          go_simp
        try simp only [Act.put, List.setIfInBounds_toArray, List.set_cons_zero, List.set_cons_succ]
        refine wpAnyH_take (i := 10) (oi := { dst := some 44, op := _, type := _, pos := _, after := _, guard := _ }) (v := .int .i64 f) rfl (by kernel_rfl) (by kernel_rfl) (by kernel_rfl) (fun _ _ _ h => h) (Or.inl ⟨by rfl, ?_⟩) hHeld ?_
        · intro W9 hSW
          (try dsimp only at hSW)
          go_simp
        try simp only [Act.put, List.setIfInBounds_toArray, List.set_cons_zero, List.set_cons_succ]
        refine wpAnyH_take (i := 11) (oi := { dst := some 45, op := _, type := _, pos := _, after := _, guard := _ }) (v := .pointer (some ⟨sb, so + f, none⟩)) rfl (by kernel_rfl) (by kernel_rfl) (by kernel_rfl) (fun _ _ _ h => h) (Or.inl ⟨by rfl, ?_⟩) hHeld ?_
        · intro W9 hSW
          (try dsimp only at hSW)
          go_simp
        try simp only [Act.put, List.setIfInBounds_toArray, List.set_cons_zero, List.set_cons_succ]
        refine wpAnyH_take (i := 12) (oi := { dst := some 46, op := _, type := _, pos := _, after := _, guard := _ }) (v := .slice (some ⟨lb, lo, none⟩) l.length lcap) rfl (by kernel_rfl) (by kernel_rfl) (by kernel_rfl) (fun _ _ _ h => h) (Or.inl ⟨by rfl, ?_⟩) hHeld ?_
        · intro W9 hSW
          (try dsimp only at hSW)
          go_simp
        try simp only [Act.put, List.setIfInBounds_toArray, List.set_cons_zero, List.set_cons_succ]
        refine wpAnyH_take (i := 13) (oi := { dst := some 5, op := _, type := _, pos := _, after := _, guard := _ }) (v := .slice (some ⟨lb, lo, none⟩) l.length lcap) rfl (by kernel_rfl) (by kernel_rfl) (by kernel_rfl) (fun _ _ _ h => h) (Or.inl ⟨by rfl, ?_⟩) hHeld ?_
        · intro W9 hSW
          (try dsimp only at hSW)
          go_simp
        try simp only [Act.put, List.setIfInBounds_toArray, List.set_cons_zero, List.set_cons_succ]
        refine wpAnyH_done (by kernel_rfl) ?_ _
        generalize hW5 : W.drew = W5 at *
        clear hW5 y0 y1 yf ys hHeld
        go_upto_region 6 with fail
        have y2 := J5.y2
        have y3 := J5.y3
        have ya := J5.ya
        have yp := J5.yp
        have zp := J5.zp
        have hlba : ∀ V, Keeps (fun b => b = ga ∨ b = gp) w1 V → V.cell? ⟨lb, lo + k * 4, none⟩ = some (.int .i64 aw) ∧ V.cell? ⟨lb, lo + k * 4 + 1, none⟩ = some (.int .i64 an) ∧ V.cell? ⟨lb, lo + k * 4 + 2, none⟩ = some (.slice aa na caa) ∧ V.cell? ⟨lb, lo + k * 4 + 3, none⟩ = some (.slice ac nc cac) := fun V hV => by
          have hx : ¬ (lb = ga ∨ lb = gp) := fun e => by have h1 := HLB.out; have h2 := HFF.out _ HGL.out.2.2; have h3 := HFF.out _ HPF.out; omega
          have hc : ∀ {j : Nat} {u : Value}, w0.cell? ⟨lb, j, none⟩ = some u → V.cell? ⟨lb, j, none⟩ = some u := fun hj => hV.cell_of (HK1.out.cell_of ((HBW.out.cell (p := ⟨lb, _, none⟩) HLB.out).trans hj) id) hx
          exact ⟨hc r0, hc r1, hc r2, hc r3⟩
        have HLBA := Lib.hid hlba
        clear hlba r0 r1 r2 r3
        have x0 := (HLBA.out _ K5).1
        subst haw
        have hkl1 : (k : Int) < (l.length : Int) := by omega
        have hkl2 : (0 : Int) ≤ (k : Int) ∧ (k : Int) < (l.length : Int) := by omega
        refine wp_region_held_drew (S := (fun V : World => V.cell? ⟨pb, 2, none⟩ = some (.slice (some ⟨ga, 0, none⟩) d.ats.length ca) ∧ V.cell? ⟨pb, 3, none⟩ = some (.slice (some ⟨gp, 0, none⟩) d.paused.length cp) ∧ V.cell? ⟨ga, t, none⟩ = some (.int .i64 (k : Int)) ∧ V.cell? ⟨lb, lo + k * 4, none⟩ = some (.int .i64 2))) (by kernel_rfl) ⟨by simp only [World.cell?_drew]; assumption, by simp only [World.cell?_drew]; assumption, by simp only [World.cell?_drew]; assumption, by simp only [World.cell?_drew]; assumption⟩ (fun hHeld => ?_)
        refine wpAnyH_take (i := 0) (oi := { dst := some 47, op := _, type := _, pos := _, after := _, guard := _ }) (v := .pointer (some ⟨pb, 0, none⟩)) rfl (by kernel_rfl) (by kernel_rfl) (by kernel_rfl) (fun _ _ _ h => h) (Or.inl ⟨by rfl, ?_⟩) hHeld ?_
        · intro W9 hSW
          (try dsimp only at hSW)
          go_simp
        try simp only [Act.put, List.setIfInBounds_toArray, List.set_cons_zero, List.set_cons_succ]
        refine wpAnyH_take (i := 1) (oi := { dst := some 48, op := _, type := _, pos := _, after := _, guard := _ }) (v := .pointer (some ⟨pb, 0, none⟩)) rfl (by kernel_rfl) (by kernel_rfl) (by kernel_rfl) (fun _ _ _ h => h) (Or.inl ⟨by rfl, ?_⟩) hHeld ?_
        · intro W9 hSW
          (try dsimp only at hSW)
          go_simp
        try simp only [Act.put, List.setIfInBounds_toArray, List.set_cons_zero, List.set_cons_succ]
        refine wpAnyH_take (i := 2) (oi := { dst := some 49, op := _, type := _, pos := _, after := _, guard := _ }) (v := .pointer (some ⟨pb, 3, none⟩)) rfl (by kernel_rfl) (by kernel_rfl) (by kernel_rfl) (fun _ _ _ h => h) (Or.inl ⟨by rfl, ?_⟩) hHeld ?_
        · intro W9 hSW
          (try dsimp only at hSW)
          go_simp
        try simp only [Act.put, List.setIfInBounds_toArray, List.set_cons_zero, List.set_cons_succ]
        refine wpAnyH_take (i := 3) (oi := { dst := some 50, op := _, type := _, pos := _, after := _, guard := _ }) (v := .slice (some ⟨gp, 0, none⟩) d.paused.length cp) rfl (by kernel_rfl) (by kernel_rfl) (by kernel_rfl) (fun _ _ _ h => h) (Or.inl ⟨by rfl, ?_⟩) hHeld ?_
        · intro W9 hSW
          (try dsimp only at hSW)
          go_simp
        try simp only [Act.put, List.setIfInBounds_toArray, List.set_cons_zero, List.set_cons_succ]
        refine wpAnyH_take (i := 4) (oi := { dst := some 51, op := _, type := _, pos := _, after := _, guard := _ }) (v := .int .i64 t) rfl (by kernel_rfl) (by kernel_rfl) (by kernel_rfl) (fun _ _ _ h => h) (Or.inl ⟨by rfl, ?_⟩) hHeld ?_
        · intro W9 hSW
          (try dsimp only at hSW)
          go_simp
        try simp only [Act.put, List.setIfInBounds_toArray, List.set_cons_zero, List.set_cons_succ]
        refine wpAnyH_take (i := 5) (oi := { dst := some 52, op := _, type := _, pos := _, after := _, guard := _ }) (v := .pointer (some ⟨pb, 0, none⟩)) rfl (by kernel_rfl) (by kernel_rfl) (by kernel_rfl) (fun _ _ _ h => h) (Or.inl ⟨by rfl, ?_⟩) hHeld ?_
        · intro W9 hSW
          (try dsimp only at hSW)
          go_simp
        try simp only [Act.put, List.setIfInBounds_toArray, List.set_cons_zero, List.set_cons_succ]
        refine wpAnyH_take (i := 6) (oi := { dst := some 53, op := _, type := _, pos := _, after := _, guard := _ }) (v := .pointer (some ⟨pb, 0, none⟩)) rfl (by kernel_rfl) (by kernel_rfl) (by kernel_rfl) (fun _ _ _ h => h) (Or.inl ⟨by rfl, ?_⟩) hHeld ?_
        · intro W9 hSW
          (try dsimp only at hSW)
          go_simp
        try simp only [Act.put, List.setIfInBounds_toArray, List.set_cons_zero, List.set_cons_succ]
        refine wpAnyH_take (i := 7) (oi := { dst := some 54, op := _, type := _, pos := _, after := _, guard := _ }) (v := .pointer (some ⟨pb, 2, none⟩)) rfl (by kernel_rfl) (by kernel_rfl) (by kernel_rfl) (fun _ _ _ h => h) (Or.inl ⟨by rfl, ?_⟩) hHeld ?_
        · intro W9 hSW
          (try dsimp only at hSW)
          go_simp
        try simp only [Act.put, List.setIfInBounds_toArray, List.set_cons_zero, List.set_cons_succ]
        refine wpAnyH_take (i := 8) (oi := { dst := some 55, op := _, type := _, pos := _, after := _, guard := _ }) (v := .slice (some ⟨ga, 0, none⟩) d.ats.length ca) rfl (by kernel_rfl) (by kernel_rfl) (by kernel_rfl) (fun _ _ _ h => h) (Or.inl ⟨by rfl, ?_⟩) hHeld ?_
        · intro W9 hSW
          (try dsimp only at hSW)
          go_simp
        try simp only [Act.put, List.setIfInBounds_toArray, List.set_cons_zero, List.set_cons_succ]
        refine wpAnyH_take (i := 9) (oi := { dst := some 56, op := _, type := _, pos := _, after := _, guard := _ }) (v := .int .i64 t) rfl (by kernel_rfl) (by kernel_rfl) (by kernel_rfl) (fun _ _ _ h => h) (Or.inl ⟨by rfl, ?_⟩) hHeld ?_
        · intro W9 hSW
          (try dsimp only at hSW)
          go_simp
        try simp only [Act.put, List.setIfInBounds_toArray, List.set_cons_zero, List.set_cons_succ]
        refine wpAnyH_take (i := 10) (oi := { dst := some 57, op := _, type := _, pos := _, after := _, guard := _ }) (v := .pointer (some ⟨ga, t, none⟩)) rfl (by kernel_rfl) (by kernel_rfl) (by kernel_rfl) (fun _ _ _ h => h) (Or.inl ⟨by rfl, ?_⟩) hHeld ?_
        · intro W9 hSW
          (try dsimp only at hSW)
          go_simp
        try simp only [Act.put, List.setIfInBounds_toArray, List.set_cons_zero, List.set_cons_succ]
        refine wpAnyH_take (i := 11) (oi := { dst := some 58, op := _, type := _, pos := _, after := _, guard := _ }) (v := .int .i64 k) rfl (by kernel_rfl) (by kernel_rfl) (by kernel_rfl) (fun _ _ _ h => h) (Or.inl ⟨by rfl, ?_⟩) hHeld ?_
        · intro W9 hSW
          (try dsimp only at hSW)
          go_simp
        try simp only [Act.put, List.setIfInBounds_toArray, List.set_cons_zero, List.set_cons_succ]
        refine wpAnyH_take (i := 12) (oi := { dst := some 59, op := _, type := _, pos := _, after := _, guard := _ }) (v := .slice (some ⟨lb, lo, none⟩) l.length lcap) rfl (by kernel_rfl) (by kernel_rfl) (by kernel_rfl) (fun _ _ _ h => h) (Or.inl ⟨by rfl, ?_⟩) hHeld ?_
        · intro W9 hSW
          (try dsimp only at hSW)
          go_simp
        try simp only [Act.put, List.setIfInBounds_toArray, List.set_cons_zero, List.set_cons_succ]
        refine wpAnyH_take (i := 13) (oi := { dst := some 60, op := _, type := _, pos := _, after := _, guard := _ }) (v := .int .i64 l.length) rfl (by kernel_rfl) (by kernel_rfl) (by kernel_rfl) (fun _ _ _ h => h) (Or.inl ⟨by rfl, ?_⟩) hHeld ?_
        · intro W9 hSW
          (try dsimp only at hSW)
          go_simp
        try simp only [Act.put, List.setIfInBounds_toArray, List.set_cons_zero, List.set_cons_succ]
        refine wpAnyH_take (i := 14) (oi := { dst := some 61, op := _, type := _, pos := _, after := _, guard := _ }) (v := .bool true) rfl (by kernel_rfl) (by kernel_rfl) (by kernel_rfl) (fun _ _ _ h => h) (Or.inl ⟨by rfl, ?_⟩) hHeld ?_
        · intro W9 hSW
          (try dsimp only at hSW)
          go_simp
        try simp only [Act.put, List.setIfInBounds_toArray, List.set_cons_zero, List.set_cons_succ]
        refine wpAnyH_take (i := 15) (oi := { dst := some 62, op := _, type := _, pos := _, after := _, guard := _ }) (v := .bool true) rfl (by kernel_rfl) (by kernel_rfl) (by kernel_rfl) (fun _ _ _ h => h) (Or.inl ⟨by rfl, ?_⟩) hHeld ?_
        · intro W9 hSW
          (try dsimp only at hSW)
          go_simp
        try simp only [Act.put, List.setIfInBounds_toArray, List.set_cons_zero, List.set_cons_succ]
        refine wpAnyH_take (i := 16) (oi := { dst := some 63, op := _, type := _, pos := _, after := _, guard := _ }) (v := .slice (some ⟨lb, lo, none⟩) l.length lcap) rfl (by kernel_rfl) (by kernel_rfl) (by kernel_rfl) (fun _ _ _ h => h) (Or.inl ⟨by rfl, ?_⟩) hHeld ?_
        · intro W9 hSW
          (try dsimp only at hSW)
          go_simp
        try simp only [Act.put, List.setIfInBounds_toArray, List.set_cons_zero, List.set_cons_succ]
        refine wpAnyH_take (i := 17) (oi := { dst := some 64, op := _, type := _, pos := _, after := _, guard := _ }) (v := .pointer (some ⟨pb, 0, none⟩)) rfl (by kernel_rfl) (by kernel_rfl) (by kernel_rfl) (fun _ _ _ h => h) (Or.inl ⟨by rfl, ?_⟩) hHeld ?_
        · intro W9 hSW
          (try dsimp only at hSW)
          go_simp
        try simp only [Act.put, List.setIfInBounds_toArray, List.set_cons_zero, List.set_cons_succ]
        refine wpAnyH_take (i := 18) (oi := { dst := some 65, op := _, type := _, pos := _, after := _, guard := _ }) (v := .pointer (some ⟨pb, 0, none⟩)) rfl (by kernel_rfl) (by kernel_rfl) (by kernel_rfl) (fun _ _ _ h => h) (Or.inl ⟨by rfl, ?_⟩) hHeld ?_
        · intro W9 hSW
          (try dsimp only at hSW)
          go_simp
        try simp only [Act.put, List.setIfInBounds_toArray, List.set_cons_zero, List.set_cons_succ]
        refine wpAnyH_take (i := 19) (oi := { dst := some 66, op := _, type := _, pos := _, after := _, guard := _ }) (v := .pointer (some ⟨pb, 2, none⟩)) rfl (by kernel_rfl) (by kernel_rfl) (by kernel_rfl) (fun _ _ _ h => h) (Or.inl ⟨by rfl, ?_⟩) hHeld ?_
        · intro W9 hSW
          (try dsimp only at hSW)
          go_simp
        try simp only [Act.put, List.setIfInBounds_toArray, List.set_cons_zero, List.set_cons_succ]
        refine wpAnyH_take (i := 20) (oi := { dst := some 67, op := _, type := _, pos := _, after := _, guard := _ }) (v := .slice (some ⟨ga, 0, none⟩) d.ats.length ca) rfl (by kernel_rfl) (by kernel_rfl) (by kernel_rfl) (fun _ _ _ h => h) (Or.inl ⟨by rfl, ?_⟩) hHeld ?_
        · intro W9 hSW
          (try dsimp only at hSW)
          go_simp
        try simp only [Act.put, List.setIfInBounds_toArray, List.set_cons_zero, List.set_cons_succ]
        refine wpAnyH_take (i := 21) (oi := { dst := some 68, op := _, type := _, pos := _, after := _, guard := _ }) (v := .int .i64 t) rfl (by kernel_rfl) (by kernel_rfl) (by kernel_rfl) (fun _ _ _ h => h) (Or.inl ⟨by rfl, ?_⟩) hHeld ?_
        · intro W9 hSW
          (try dsimp only at hSW)
          go_simp
        try simp only [Act.put, List.setIfInBounds_toArray, List.set_cons_zero, List.set_cons_succ]
        refine wpAnyH_take (i := 22) (oi := { dst := some 69, op := _, type := _, pos := _, after := _, guard := _ }) (v := .pointer (some ⟨ga, t, none⟩)) rfl (by kernel_rfl) (by kernel_rfl) (by kernel_rfl) (fun _ _ _ h => h) (Or.inl ⟨by rfl, ?_⟩) hHeld ?_
        · intro W9 hSW
          (try dsimp only at hSW)
          go_simp
        try simp only [Act.put, List.setIfInBounds_toArray, List.set_cons_zero, List.set_cons_succ]
        refine wpAnyH_take (i := 23) (oi := { dst := some 70, op := _, type := _, pos := _, after := _, guard := _ }) (v := .int .i64 k) rfl (by kernel_rfl) (by kernel_rfl) (by kernel_rfl) (fun _ _ _ h => h) (Or.inl ⟨by rfl, ?_⟩) hHeld ?_
        · intro W9 hSW
          (try dsimp only at hSW)
          go_simp
        try simp only [Act.put, List.setIfInBounds_toArray, List.set_cons_zero, List.set_cons_succ]
        refine wpAnyH_take (i := 24) (oi := { dst := some 71, op := _, type := _, pos := _, after := _, guard := _ }) (v := .pointer (some ⟨lb, lo + k * 4, none⟩)) rfl (by kernel_rfl) (by kernel_rfl) (by kernel_rfl) (fun _ _ _ h => h) (Or.inl ⟨by rfl, ?_⟩) hHeld ?_
        · intro W9 hSW
          (try dsimp only at hSW)
          go_simp
        try simp only [Act.put, List.setIfInBounds_toArray, List.set_cons_zero, List.set_cons_succ]
        refine wpAnyH_take (i := 25) (oi := { dst := some 72, op := _, type := _, pos := _, after := _, guard := _ }) (v := .pointer (some ⟨lb, lo + k * 4, none⟩)) rfl (by kernel_rfl) (by kernel_rfl) (by kernel_rfl) (fun _ _ _ h => h) (Or.inl ⟨by rfl, ?_⟩) hHeld ?_
        · intro W9 hSW
          (try dsimp only at hSW)
          go_simp
        try simp only [Act.put, List.setIfInBounds_toArray, List.set_cons_zero, List.set_cons_succ]
        refine wpAnyH_take (i := 26) (oi := { dst := some 73, op := _, type := _, pos := _, after := _, guard := _ }) (v := .int .i64 2) rfl (by kernel_rfl) (by kernel_rfl) (by kernel_rfl) (fun _ _ _ h => h) (Or.inl ⟨by rfl, ?_⟩) hHeld ?_
        · intro W9 hSW
          (try dsimp only at hSW)
          go_simp
        try simp only [Act.put, List.setIfInBounds_toArray, List.set_cons_zero, List.set_cons_succ]
        refine wpAnyH_take (i := 27) (oi := { dst := some 74, op := _, type := _, pos := _, after := _, guard := _ }) (v := .bool true) rfl (by kernel_rfl) (by kernel_rfl) (by kernel_rfl) (fun _ _ _ h => h) (Or.inl ⟨by rfl, ?_⟩) hHeld ?_
        · intro W9 hSW
          (try dsimp only at hSW)
          go_simp
        try simp only [Act.put, List.setIfInBounds_toArray, List.set_cons_zero, List.set_cons_succ]
        refine wpAnyH_take (i := 28) (oi := { dst := some 75, op := _, type := _, pos := _, after := _, guard := _ }) (v := .bool true) rfl (by kernel_rfl) (by kernel_rfl) (by kernel_rfl) (fun _ _ _ h => h) (Or.inl ⟨by rfl, ?_⟩) hHeld ?_
        · intro W9 hSW
          (try dsimp only at hSW)
          go_simp
        try simp only [Act.put, List.setIfInBounds_toArray, List.set_cons_zero, List.set_cons_succ]
        refine wpAnyH_take (i := 29) (oi := { dst := some 76, op := _, type := _, pos := _, after := _, guard := _ }) (v := .pointer (some ⟨gp, t, none⟩)) rfl (by kernel_rfl) (by kernel_rfl) (by kernel_rfl) (fun _ _ _ h => h) (Or.inl ⟨by rfl, ?_⟩) hHeld ?_
        · intro W9 hSW
          (try dsimp only at hSW)
          go_simp
        try simp only [Act.put, List.setIfInBounds_toArray, List.set_cons_zero, List.set_cons_succ]
        refine wpAnyH_ready (rs := [30]) (by kernel_rfl) (by simp) ?_
        refine AllReadyH.cons (o := { dst := none, op := _, type := _, pos := _, after := _, guard := _ }) rfl (fun K hK => ?_) AllReadyH.nil
        go_simp
        have kg : Keeps (fun b => b = gp) W5.drew (W5.drew.setCell ⟨gp, t, none⟩ (.bool true)) := (Keeps.refl (fun b => b = gp) W5.drew).setCell (p := ⟨gp, t, none⟩) (Or.inl rfl) _
        have hne1 : ¬ ga = gp := fun e => HPA.out e.symm
        have hne2 : ¬ lb = gp := fun e => by have h1 := HLB.out; have h3 := HFF.out _ HPF.out; omega
        have hS7 : (fun V : World => V.cell? ⟨pb, 2, none⟩ = some (.slice (some ⟨ga, 0, none⟩) d.ats.length ca) ∧ V.cell? ⟨pb, 3, none⟩ = some (.slice (some ⟨gp, 0, none⟩) d.paused.length cp) ∧ V.cell? ⟨ga, t, none⟩ = some (.int .i64 (k : Int)) ∧ V.cell? ⟨lb, lo + k * 4, none⟩ = some (.int .i64 2)) (W5.drew.setCell ⟨gp, t, none⟩ (.bool true)) := ⟨kg.cell_of (w := W5.drew) y2 HNP.out, kg.cell_of (w := W5.drew) y3 HNP.out, kg.cell_of (w := W5.drew) ya hne1, kg.cell_of (w := W5.drew) x0 hne2⟩
        obtain ⟨p7, kp7⟩ := (J5.new (keeps_drew0 W5)).py.setPaused (cap := cp) (g := gp) (J5.new (keeps_drew0 W5)).y3 rfl t true (d.cnt + 1) (Nat.le_refl _)
        have K7 : Keeps (fun b => b = ga ∨ b = gp) w1 (W5.drew.setCell ⟨gp, t, none⟩ (.bool true)) := K5.drew.setCell (p := ⟨gp, t, none⟩) (Or.inl (Or.inr rfl)) _
        have HY7 := Lib.hid (And.intro (kg.cell_of (w := W5.drew) y2 HNP.out) (kg.cell_of (w := W5.drew) ya hne1))
        have KF7 := Lib.hid ((J5.new (keeps_drew0 W5)).kp.trans kp7)
        have P7 := Lib.hid p7
        have HK7 := Lib.hid K7
        dsimp only at hS7
        refine hK.out _ _ hS7 (fun hHeld => ?_)
        clear hK K kg hS7 p7 kp7 hHeld K5 J5 K7 y2 y3 ya yp zp x0
        refine wpAnyH_done (by kernel_rfl) ?_ _
        go_upto_region 7 with fail
        rw [World.setCell_drew] at KF7 P7 HK7 HY7
        generalize (W5.setCell ⟨gp, t, none⟩ (.bool true)).drew = W7 at *
        obtain ⟨y2, ya⟩ := HY7.out
        have hga9 : ¬ (ab = ga ∨ ab = gp) := fun e => by have h1 := HFL.out ga HGL.out.2.2; have h2 := HFL.out gp HPF.out; omega
        have hal : ab < w1.heap.size := by have := HS1.out; omega
        have hr9 : ∀ j, j < 4 → ∃ x, W7.cell? ⟨ab, j, none⟩ = some x ∧ W7.frozen? ⟨ab, j, none⟩ = false := fun j hj => by
          obtain ⟨x9, h5, h6⟩ := HC4.out j hj
          exact ⟨x9, HK7.out.cell_of h5 hga9, (HK7.out.frozen (p := ⟨ab, j, none⟩) hal hga9).trans h6⟩
        have HR9 := Lib.hid hr9
        obtain ⟨_, d0, z0⟩ := hr9 0 (by decide)
        obtain ⟨_, d1, z1⟩ := hr9 1 (by decide)
        obtain ⟨_, d2, z2⟩ := hr9 2 (by decide)
        obtain ⟨_, d3, z3⟩ := hr9 3 (by decide)
        obtain ⟨q0, q1, q2, q3⟩ := HLBA.out _ HK7.out
        clear hr9 hga9 hal
        go_wp2_with fail
        obtain ⟨u0, u1, u2, u3⟩ := get4 (V := W7) (r := ab) (fun i hi => by obtain ⟨x9, h5, _⟩ := HR9.out i hi; exact ⟨x9, h5⟩) (.int .i64 2) (.int .i64 an) (.slice aa na caa) (.slice ac nc cac)
        have hk8 := set4_keeps W7 ab (.int .i64 2) (.int .i64 an) (.slice aa na caa) (.slice ac nc cac)
        generalize (((W7.setCell ⟨ab, 0, none⟩ (.int .i64 2)).setCell ⟨ab, 1, none⟩ (.int .i64 an)).setCell ⟨ab, 2, none⟩ (.slice aa na caa)).setCell ⟨ab, 3, none⟩ (.slice ac nc cac) = W8 at *
        have hnF : ∀ b, F b → ¬ b = ab := fun b hb e => by have := HFL.out b hb; omega
        refine bodyPost_ret (v := .agg #[.int .i64 2, .int .i64 an, .slice aa na caa, .slice ac nc cac]) (by simp [results, Tryz.results216, go_sem, u0, u1, u2, u3]) rfl ?_
        have hkF : Keeps F w W8 := KF7.out.trans' hk8 fun b hb e => by have := HAB.out; have : b = ab := e; omega
        have hown9 : ∀ b, Held ⟨2, an, args, cases⟩ (Value.slice aa na caa) (Value.slice ac nc cac) b → b < w0.heap.size := HOWN.out
        have hs9 : AskSays w (.slice aa na caa) (.slice ac nc cac) ⟨2, an, args, cases⟩ := askSays_below HSAY.out HBW.out (Nat.le_refl _)
        exact ⟨_, _, rfl, hs9.keeps hkF fun b hb e => by have h5 := hown9 b hb; have h6 := HFF.out b e; omega, ⟨F, P7.out.keeps hk8 hnF, fun b hb => Or.inl hb, fun b hb => ⟨fun e => by have h5 := hown9 b hb; have h6 := HFF.out b e; omega, Or.inl (hown9 b hb)⟩⟩, hkF⟩
      · have hnx : pyNext Sc d t = (⟨d.fns, d.ats.set t k, d.paused.set t false, d.cnt + 1⟩, ⟨aw, an, args, cases⟩) := by
          have h9 : pyAt d t = k := by unfold pyAt; rw [HX9.out, HP9.out, hk]; rfl
          unfold pyNext
          rw [h9, HL9.out, hla]
          simp only [Option.getD_some]
          rw [decide_eq_false haw]
        rw [hnx]
        simp only
        clear hnx
        clear hla
        go_enter Tryz.func216, Tryz.ntmps216
        go_upto_region 1 with fail
        rw [← hw1]
        clear hw1
        generalize hab : w.heap.size = ab at *
        have HAB := Lib.hid hab
        clear hab
        go_upto_region 5 with fail
        generalize hq : w1.setCell ⟨ga, t, none⟩ (.int .i64 ((x : Int) + 1)) = W
        obtain ⟨J, hkW⟩ := HJ.out W k (Or.inr ⟨rfl, hk, hq.symm⟩)
        have J5 := J.new (keeps_drew0 W)
        have K5 : Keeps (fun b => b = ga ∨ b = gp) w1 W.drew := (hkW.mono fun _ _ e => Or.inl e).drew
        have y0 := J.y0
        have y1 := J.y1
        have yf := J.yf
        have ys := J.ys
        have HKP := Lib.hid J.kp
        have HKX := Lib.hid hk
        clear c0 c1 c2 c3 qf qa qp hq zga hkW J hk
        refine wp_region_held_drew (S := (fun V : World => V.cell? ⟨pb, 0, none⟩ = some (.slice (some ⟨sb, so, none⟩) Sc.length scap) ∧ V.cell? ⟨pb, 1, none⟩ = some (.slice (some ⟨gf, 0, none⟩) d.fns.length cf) ∧ V.cell? ⟨gf, t, none⟩ = some (.int .i64 (f : Int)) ∧ V.cell? ⟨sb, so + f, none⟩ = some (.slice (some ⟨lb, lo, none⟩) l.length lcap))) (by kernel_rfl) ⟨by simp only [World.cell?_drew]; assumption, by simp only [World.cell?_drew]; assumption, by simp only [World.cell?_drew]; assumption, by simp only [World.cell?_drew]; assumption⟩ (fun hHeld => ?_)
        refine wpAnyH_take (i := 0) (oi := { dst := some 34, op := _, type := _, pos := _, after := _, guard := _ }) (v := .pointer (some ⟨pb, 0, none⟩)) rfl (by kernel_rfl) (by kernel_rfl) (by kernel_rfl) (fun _ _ _ h => h) (Or.inl ⟨by rfl, ?_⟩) hHeld ?_
        · intro W9 hSW
          (try dsimp only at hSW)
          go_simp
        try simp only [Act.put, List.setIfInBounds_toArray, List.set_cons_zero, List.set_cons_succ]
        refine wpAnyH_take (i := 1) (oi := { dst := some 35, op := _, type := _, pos := _, after := _, guard := _ }) (v := .pointer (some ⟨pb, 0, none⟩)) rfl (by kernel_rfl) (by kernel_rfl) (by kernel_rfl) (fun _ _ _ h => h) (Or.inl ⟨by rfl, ?_⟩) hHeld ?_
        · intro W9 hSW
          (try dsimp only at hSW)
          go_simp
        try simp only [Act.put, List.setIfInBounds_toArray, List.set_cons_zero, List.set_cons_succ]
        refine wpAnyH_take (i := 2) (oi := { dst := some 36, op := _, type := _, pos := _, after := _, guard := _ }) (v := .pointer (some ⟨pb, 0, none⟩)) rfl (by kernel_rfl) (by kernel_rfl) (by kernel_rfl) (fun _ _ _ h => h) (Or.inl ⟨by rfl, ?_⟩) hHeld ?_
        · intro W9 hSW
          (try dsimp only at hSW)
          go_simp
        try simp only [Act.put, List.setIfInBounds_toArray, List.set_cons_zero, List.set_cons_succ]
        refine wpAnyH_take (i := 3) (oi := { dst := some 37, op := _, type := _, pos := _, after := _, guard := _ }) (v := .slice (some ⟨sb, so, none⟩) Sc.length scap) rfl (by kernel_rfl) (by kernel_rfl) (by kernel_rfl) (fun _ _ _ h => h) (Or.inl ⟨by rfl, ?_⟩) hHeld ?_
        · intro W9 hSW
          (try dsimp only at hSW)
          go_simp
        try simp only [Act.put, List.setIfInBounds_toArray, List.set_cons_zero, List.set_cons_succ]
        refine wpAnyH_take (i := 4) (oi := { dst := some 38, op := _, type := _, pos := _, after := _, guard := _ }) (v := .pointer (some ⟨pb, 0, none⟩)) rfl (by kernel_rfl) (by kernel_rfl) (by kernel_rfl) (fun _ _ _ h => h) (Or.inl ⟨by rfl, ?_⟩) hHeld ?_
        · intro W9 hSW
          (try dsimp only at hSW)
          go_simp
        try simp only [Act.put, List.setIfInBounds_toArray, List.set_cons_zero, List.set_cons_succ]
        refine wpAnyH_take (i := 5) (oi := { dst := some 39, op := _, type := _, pos := _, after := _, guard := _ }) (v := .pointer (some ⟨pb, 0, none⟩)) rfl (by kernel_rfl) (by kernel_rfl) (by kernel_rfl) (fun _ _ _ h => h) (Or.inl ⟨by rfl, ?_⟩) hHeld ?_
        · intro W9 hSW
          (try dsimp only at hSW)
          go_simp
        try simp only [Act.put, List.setIfInBounds_toArray, List.set_cons_zero, List.set_cons_succ]
        refine wpAnyH_take (i := 6) (oi := { dst := some 40, op := _, type := _, pos := _, after := _, guard := _ }) (v := .pointer (some ⟨pb, 1, none⟩)) rfl (by kernel_rfl) (by kernel_rfl) (by kernel_rfl) (fun _ _ _ h => h) (Or.inl ⟨by rfl, ?_⟩) hHeld ?_
        · intro W9 hSW
          (try dsimp only at hSW)
          go_simp
        try simp only [Act.put, List.setIfInBounds_toArray, List.set_cons_zero, List.set_cons_succ]
        refine wpAnyH_take (i := 7) (oi := { dst := some 41, op := _, type := _, pos := _, after := _, guard := _ }) (v := .slice (some ⟨gf, 0, none⟩) d.fns.length cf) rfl (by kernel_rfl) (by kernel_rfl) (by kernel_rfl) (fun _ _ _ h => h) (Or.inl ⟨by rfl, ?_⟩) hHeld ?_
        · intro W9 hSW
          (try dsimp only at hSW)
          go_simp
        try simp only [Act.put, List.setIfInBounds_toArray, List.set_cons_zero, List.set_cons_succ]
        refine wpAnyH_take (i := 8) (oi := { dst := some 42, op := _, type := _, pos := _, after := _, guard := _ }) (v := .int .i64 t) rfl (by kernel_rfl) (by kernel_rfl) (by kernel_rfl) (fun _ _ _ h => h) (Or.inl ⟨by rfl, ?_⟩) hHeld ?_
        · intro W9 hSW
          (try dsimp only at hSW)
          go_simp
        try simp only [Act.put, List.setIfInBounds_toArray, List.set_cons_zero, List.set_cons_succ]
        refine wpAnyH_take (i := 9) (oi := { dst := some 43, op := _, type := _, pos := _, after := _, guard := _ }) (v := .pointer (some ⟨gf, t, none⟩)) rfl (by kernel_rfl) (by kernel_rfl) (by kernel_rfl) (fun _ _ _ h => h) (Or.inl ⟨by rfl, ?_⟩) hHeld ?_
        · intro W9 hSW
          (try dsimp only at hSW)
          go_simp
        try simp only [Act.put, List.setIfInBounds_toArray, List.set_cons_zero, List.set_cons_succ]
        refine wpAnyH_take (i := 10) (oi := { dst := some 44, op := _, type := _, pos := _, after := _, guard := _ }) (v := .int .i64 f) rfl (by kernel_rfl) (by kernel_rfl) (by kernel_rfl) (fun _ _ _ h => h) (Or.inl ⟨by rfl, ?_⟩) hHeld ?_
        · intro W9 hSW
          (try dsimp only at hSW)
          go_simp
        try simp only [Act.put, List.setIfInBounds_toArray, List.set_cons_zero, List.set_cons_succ]
        refine wpAnyH_take (i := 11) (oi := { dst := some 45, op := _, type := _, pos := _, after := _, guard := _ }) (v := .pointer (some ⟨sb, so + f, none⟩)) rfl (by kernel_rfl) (by kernel_rfl) (by kernel_rfl) (fun _ _ _ h => h) (Or.inl ⟨by rfl, ?_⟩) hHeld ?_
        · intro W9 hSW
          (try dsimp only at hSW)
          go_simp
        try simp only [Act.put, List.setIfInBounds_toArray, List.set_cons_zero, List.set_cons_succ]
        refine wpAnyH_take (i := 12) (oi := { dst := some 46, op := _, type := _, pos := _, after := _, guard := _ }) (v := .slice (some ⟨lb, lo, none⟩) l.length lcap) rfl (by kernel_rfl) (by kernel_rfl) (by kernel_rfl) (fun _ _ _ h => h) (Or.inl ⟨by rfl, ?_⟩) hHeld ?_
        · intro W9 hSW
          (try dsimp only at hSW)
          go_simp
        try simp only [Act.put, List.setIfInBounds_toArray, List.set_cons_zero, List.set_cons_succ]
        refine wpAnyH_take (i := 13) (oi := { dst := some 5, op := _, type := _, pos := _, after := _, guard := _ }) (v := .slice (some ⟨lb, lo, none⟩) l.length lcap) rfl (by kernel_rfl) (by kernel_rfl) (by kernel_rfl) (fun _ _ _ h => h) (Or.inl ⟨by rfl, ?_⟩) hHeld ?_
        · intro W9 hSW
          (try dsimp only at hSW)
          go_simp
        try simp only [Act.put, List.setIfInBounds_toArray, List.set_cons_zero, List.set_cons_succ]
        refine wpAnyH_done (by kernel_rfl) ?_ _
        generalize hW5 : W.drew = W5 at *
        clear hW5 y0 y1 yf ys hHeld
        go_upto_region 6 with fail
        have y2 := J5.y2
        have y3 := J5.y3
        have ya := J5.ya
        have yp := J5.yp
        have zp := J5.zp
        have hlba : ∀ V, Keeps (fun b => b = ga ∨ b = gp) w1 V → V.cell? ⟨lb, lo + k * 4, none⟩ = some (.int .i64 aw) ∧ V.cell? ⟨lb, lo + k * 4 + 1, none⟩ = some (.int .i64 an) ∧ V.cell? ⟨lb, lo + k * 4 + 2, none⟩ = some (.slice aa na caa) ∧ V.cell? ⟨lb, lo + k * 4 + 3, none⟩ = some (.slice ac nc cac) := fun V hV => by
          have hx : ¬ (lb = ga ∨ lb = gp) := fun e => by have h1 := HLB.out; have h2 := HFF.out _ HGL.out.2.2; have h3 := HFF.out _ HPF.out; omega
          have hc : ∀ {j : Nat} {u : Value}, w0.cell? ⟨lb, j, none⟩ = some u → V.cell? ⟨lb, j, none⟩ = some u := fun hj => hV.cell_of (HK1.out.cell_of ((HBW.out.cell (p := ⟨lb, _, none⟩) HLB.out).trans hj) id) hx
          exact ⟨hc r0, hc r1, hc r2, hc r3⟩
        have HLBA := Lib.hid hlba
        clear hlba r0 r1 r2 r3
        have x0 := (HLBA.out _ K5).1
        have zaw : (aw == 2) = false := beq_eq_false_iff_ne.2 haw
        have hkl1 : (k : Int) < (l.length : Int) := by omega
        have hkl2 : (0 : Int) ≤ (k : Int) ∧ (k : Int) < (l.length : Int) := by omega
        refine wp_region_held_drew (S := (fun V : World => V.cell? ⟨pb, 2, none⟩ = some (.slice (some ⟨ga, 0, none⟩) d.ats.length ca) ∧ V.cell? ⟨pb, 3, none⟩ = some (.slice (some ⟨gp, 0, none⟩) d.paused.length cp) ∧ V.cell? ⟨ga, t, none⟩ = some (.int .i64 (k : Int)) ∧ V.cell? ⟨lb, lo + k * 4, none⟩ = some (.int .i64 aw))) (by kernel_rfl) ⟨by simp only [World.cell?_drew]; assumption, by simp only [World.cell?_drew]; assumption, by simp only [World.cell?_drew]; assumption, by simp only [World.cell?_drew]; assumption⟩ (fun hHeld => ?_)
        refine wpAnyH_take (i := 0) (oi := { dst := some 47, op := _, type := _, pos := _, after := _, guard := _ }) (v := .pointer (some ⟨pb, 0, none⟩)) rfl (by kernel_rfl) (by kernel_rfl) (by kernel_rfl) (fun _ _ _ h => h) (Or.inl ⟨by rfl, ?_⟩) hHeld ?_
        · intro W9 hSW
          (try dsimp only at hSW)
          go_simp
        try simp only [Act.put, List.setIfInBounds_toArray, List.set_cons_zero, List.set_cons_succ]
        refine wpAnyH_take (i := 1) (oi := { dst := some 48, op := _, type := _, pos := _, after := _, guard := _ }) (v := .pointer (some ⟨pb, 0, none⟩)) rfl (by kernel_rfl) (by kernel_rfl) (by kernel_rfl) (fun _ _ _ h => h) (Or.inl ⟨by rfl, ?_⟩) hHeld ?_
        · intro W9 hSW
          (try dsimp only at hSW)
          go_simp
        try simp only [Act.put, List.setIfInBounds_toArray, List.set_cons_zero, List.set_cons_succ]
        refine wpAnyH_take (i := 2) (oi := { dst := some 49, op := _, type := _, pos := _, after := _, guard := _ }) (v := .pointer (some ⟨pb, 3, none⟩)) rfl (by kernel_rfl) (by kernel_rfl) (by kernel_rfl) (fun _ _ _ h => h) (Or.inl ⟨by rfl, ?_⟩) hHeld ?_
        · intro W9 hSW
          (try dsimp only at hSW)
          go_simp
        try simp only [Act.put, List.setIfInBounds_toArray, List.set_cons_zero, List.set_cons_succ]
        refine wpAnyH_take (i := 3) (oi := { dst := some 50, op := _, type := _, pos := _, after := _, guard := _ }) (v := .slice (some ⟨gp, 0, none⟩) d.paused.length cp) rfl (by kernel_rfl) (by kernel_rfl) (by kernel_rfl) (fun _ _ _ h => h) (Or.inl ⟨by rfl, ?_⟩) hHeld ?_
        · intro W9 hSW
          (try dsimp only at hSW)
          go_simp
        try simp only [Act.put, List.setIfInBounds_toArray, List.set_cons_zero, List.set_cons_succ]
        refine wpAnyH_take (i := 4) (oi := { dst := some 51, op := _, type := _, pos := _, after := _, guard := _ }) (v := .int .i64 t) rfl (by kernel_rfl) (by kernel_rfl) (by kernel_rfl) (fun _ _ _ h => h) (Or.inl ⟨by rfl, ?_⟩) hHeld ?_
        · intro W9 hSW
          (try dsimp only at hSW)
          go_simp
        try simp only [Act.put, List.setIfInBounds_toArray, List.set_cons_zero, List.set_cons_succ]
        refine wpAnyH_take (i := 5) (oi := { dst := some 52, op := _, type := _, pos := _, after := _, guard := _ }) (v := .pointer (some ⟨pb, 0, none⟩)) rfl (by kernel_rfl) (by kernel_rfl) (by kernel_rfl) (fun _ _ _ h => h) (Or.inl ⟨by rfl, ?_⟩) hHeld ?_
        · intro W9 hSW
          (try dsimp only at hSW)
          go_simp
        try simp only [Act.put, List.setIfInBounds_toArray, List.set_cons_zero, List.set_cons_succ]
        refine wpAnyH_take (i := 6) (oi := { dst := some 53, op := _, type := _, pos := _, after := _, guard := _ }) (v := .pointer (some ⟨pb, 0, none⟩)) rfl (by kernel_rfl) (by kernel_rfl) (by kernel_rfl) (fun _ _ _ h => h) (Or.inl ⟨by rfl, ?_⟩) hHeld ?_
        · intro W9 hSW
          (try dsimp only at hSW)
          go_simp
        try simp only [Act.put, List.setIfInBounds_toArray, List.set_cons_zero, List.set_cons_succ]
        refine wpAnyH_take (i := 7) (oi := { dst := some 54, op := _, type := _, pos := _, after := _, guard := _ }) (v := .pointer (some ⟨pb, 2, none⟩)) rfl (by kernel_rfl) (by kernel_rfl) (by kernel_rfl) (fun _ _ _ h => h) (Or.inl ⟨by rfl, ?_⟩) hHeld ?_
        · intro W9 hSW
          (try dsimp only at hSW)
          go_simp
        try simp only [Act.put, List.setIfInBounds_toArray, List.set_cons_zero, List.set_cons_succ]
        refine wpAnyH_take (i := 8) (oi := { dst := some 55, op := _, type := _, pos := _, after := _, guard := _ }) (v := .slice (some ⟨ga, 0, none⟩) d.ats.length ca) rfl (by kernel_rfl) (by kernel_rfl) (by kernel_rfl) (fun _ _ _ h => h) (Or.inl ⟨by rfl, ?_⟩) hHeld ?_
        · intro W9 hSW
          (try dsimp only at hSW)
          go_simp
        try simp only [Act.put, List.setIfInBounds_toArray, List.set_cons_zero, List.set_cons_succ]
        refine wpAnyH_take (i := 9) (oi := { dst := some 56, op := _, type := _, pos := _, after := _, guard := _ }) (v := .int .i64 t) rfl (by kernel_rfl) (by kernel_rfl) (by kernel_rfl) (fun _ _ _ h => h) (Or.inl ⟨by rfl, ?_⟩) hHeld ?_
        · intro W9 hSW
          (try dsimp only at hSW)
          go_simp
        try simp only [Act.put, List.setIfInBounds_toArray, List.set_cons_zero, List.set_cons_succ]
        refine wpAnyH_take (i := 10) (oi := { dst := some 57, op := _, type := _, pos := _, after := _, guard := _ }) (v := .pointer (some ⟨ga, t, none⟩)) rfl (by kernel_rfl) (by kernel_rfl) (by kernel_rfl) (fun _ _ _ h => h) (Or.inl ⟨by rfl, ?_⟩) hHeld ?_
        · intro W9 hSW
          (try dsimp only at hSW)
          go_simp
        try simp only [Act.put, List.setIfInBounds_toArray, List.set_cons_zero, List.set_cons_succ]
        refine wpAnyH_take (i := 11) (oi := { dst := some 58, op := _, type := _, pos := _, after := _, guard := _ }) (v := .int .i64 k) rfl (by kernel_rfl) (by kernel_rfl) (by kernel_rfl) (fun _ _ _ h => h) (Or.inl ⟨by rfl, ?_⟩) hHeld ?_
        · intro W9 hSW
          (try dsimp only at hSW)
          go_simp
        try simp only [Act.put, List.setIfInBounds_toArray, List.set_cons_zero, List.set_cons_succ]
        refine wpAnyH_take (i := 12) (oi := { dst := some 59, op := _, type := _, pos := _, after := _, guard := _ }) (v := .slice (some ⟨lb, lo, none⟩) l.length lcap) rfl (by kernel_rfl) (by kernel_rfl) (by kernel_rfl) (fun _ _ _ h => h) (Or.inl ⟨by rfl, ?_⟩) hHeld ?_
        · intro W9 hSW
          (try dsimp only at hSW)
          go_simp
        try simp only [Act.put, List.setIfInBounds_toArray, List.set_cons_zero, List.set_cons_succ]
        refine wpAnyH_take (i := 13) (oi := { dst := some 60, op := _, type := _, pos := _, after := _, guard := _ }) (v := .int .i64 l.length) rfl (by kernel_rfl) (by kernel_rfl) (by kernel_rfl) (fun _ _ _ h => h) (Or.inl ⟨by rfl, ?_⟩) hHeld ?_
        · intro W9 hSW
          (try dsimp only at hSW)
          go_simp
        try simp only [Act.put, List.setIfInBounds_toArray, List.set_cons_zero, List.set_cons_succ]
        refine wpAnyH_take (i := 14) (oi := { dst := some 61, op := _, type := _, pos := _, after := _, guard := _ }) (v := .bool true) rfl (by kernel_rfl) (by kernel_rfl) (by kernel_rfl) (fun _ _ _ h => h) (Or.inl ⟨by rfl, ?_⟩) hHeld ?_
        · intro W9 hSW
          (try dsimp only at hSW)
          go_simp
        try simp only [Act.put, List.setIfInBounds_toArray, List.set_cons_zero, List.set_cons_succ]
        refine wpAnyH_take (i := 15) (oi := { dst := some 62, op := _, type := _, pos := _, after := _, guard := _ }) (v := .bool true) rfl (by kernel_rfl) (by kernel_rfl) (by kernel_rfl) (fun _ _ _ h => h) (Or.inl ⟨by rfl, ?_⟩) hHeld ?_
        · intro W9 hSW
          (try dsimp only at hSW)
          go_simp
        try simp only [Act.put, List.setIfInBounds_toArray, List.set_cons_zero, List.set_cons_succ]
        refine wpAnyH_take (i := 16) (oi := { dst := some 63, op := _, type := _, pos := _, after := _, guard := _ }) (v := .slice (some ⟨lb, lo, none⟩) l.length lcap) rfl (by kernel_rfl) (by kernel_rfl) (by kernel_rfl) (fun _ _ _ h => h) (Or.inl ⟨by rfl, ?_⟩) hHeld ?_
        · intro W9 hSW
          (try dsimp only at hSW)
          go_simp
        try simp only [Act.put, List.setIfInBounds_toArray, List.set_cons_zero, List.set_cons_succ]
        refine wpAnyH_take (i := 17) (oi := { dst := some 64, op := _, type := _, pos := _, after := _, guard := _ }) (v := .pointer (some ⟨pb, 0, none⟩)) rfl (by kernel_rfl) (by kernel_rfl) (by kernel_rfl) (fun _ _ _ h => h) (Or.inl ⟨by rfl, ?_⟩) hHeld ?_
        · intro W9 hSW
          (try dsimp only at hSW)
          go_simp
        try simp only [Act.put, List.setIfInBounds_toArray, List.set_cons_zero, List.set_cons_succ]
        refine wpAnyH_take (i := 18) (oi := { dst := some 65, op := _, type := _, pos := _, after := _, guard := _ }) (v := .pointer (some ⟨pb, 0, none⟩)) rfl (by kernel_rfl) (by kernel_rfl) (by kernel_rfl) (fun _ _ _ h => h) (Or.inl ⟨by rfl, ?_⟩) hHeld ?_
        · intro W9 hSW
          (try dsimp only at hSW)
          go_simp
        try simp only [Act.put, List.setIfInBounds_toArray, List.set_cons_zero, List.set_cons_succ]
        refine wpAnyH_take (i := 19) (oi := { dst := some 66, op := _, type := _, pos := _, after := _, guard := _ }) (v := .pointer (some ⟨pb, 2, none⟩)) rfl (by kernel_rfl) (by kernel_rfl) (by kernel_rfl) (fun _ _ _ h => h) (Or.inl ⟨by rfl, ?_⟩) hHeld ?_
        · intro W9 hSW
          (try dsimp only at hSW)
          go_simp
        try simp only [Act.put, List.setIfInBounds_toArray, List.set_cons_zero, List.set_cons_succ]
        refine wpAnyH_take (i := 20) (oi := { dst := some 67, op := _, type := _, pos := _, after := _, guard := _ }) (v := .slice (some ⟨ga, 0, none⟩) d.ats.length ca) rfl (by kernel_rfl) (by kernel_rfl) (by kernel_rfl) (fun _ _ _ h => h) (Or.inl ⟨by rfl, ?_⟩) hHeld ?_
        · intro W9 hSW
          (try dsimp only at hSW)
          go_simp
        try simp only [Act.put, List.setIfInBounds_toArray, List.set_cons_zero, List.set_cons_succ]
        refine wpAnyH_take (i := 21) (oi := { dst := some 68, op := _, type := _, pos := _, after := _, guard := _ }) (v := .int .i64 t) rfl (by kernel_rfl) (by kernel_rfl) (by kernel_rfl) (fun _ _ _ h => h) (Or.inl ⟨by rfl, ?_⟩) hHeld ?_
        · intro W9 hSW
          (try dsimp only at hSW)
          go_simp
        try simp only [Act.put, List.setIfInBounds_toArray, List.set_cons_zero, List.set_cons_succ]
        refine wpAnyH_take (i := 22) (oi := { dst := some 69, op := _, type := _, pos := _, after := _, guard := _ }) (v := .pointer (some ⟨ga, t, none⟩)) rfl (by kernel_rfl) (by kernel_rfl) (by kernel_rfl) (fun _ _ _ h => h) (Or.inl ⟨by rfl, ?_⟩) hHeld ?_
        · intro W9 hSW
          (try dsimp only at hSW)
          go_simp
        try simp only [Act.put, List.setIfInBounds_toArray, List.set_cons_zero, List.set_cons_succ]
        refine wpAnyH_take (i := 23) (oi := { dst := some 70, op := _, type := _, pos := _, after := _, guard := _ }) (v := .int .i64 k) rfl (by kernel_rfl) (by kernel_rfl) (by kernel_rfl) (fun _ _ _ h => h) (Or.inl ⟨by rfl, ?_⟩) hHeld ?_
        · intro W9 hSW
          (try dsimp only at hSW)
          go_simp
        try simp only [Act.put, List.setIfInBounds_toArray, List.set_cons_zero, List.set_cons_succ]
        refine wpAnyH_take (i := 24) (oi := { dst := some 71, op := _, type := _, pos := _, after := _, guard := _ }) (v := .pointer (some ⟨lb, lo + k * 4, none⟩)) rfl (by kernel_rfl) (by kernel_rfl) (by kernel_rfl) (fun _ _ _ h => h) (Or.inl ⟨by rfl, ?_⟩) hHeld ?_
        · intro W9 hSW
          (try dsimp only at hSW)
          go_simp
        try simp only [Act.put, List.setIfInBounds_toArray, List.set_cons_zero, List.set_cons_succ]
        refine wpAnyH_take (i := 25) (oi := { dst := some 72, op := _, type := _, pos := _, after := _, guard := _ }) (v := .pointer (some ⟨lb, lo + k * 4, none⟩)) rfl (by kernel_rfl) (by kernel_rfl) (by kernel_rfl) (fun _ _ _ h => h) (Or.inl ⟨by rfl, ?_⟩) hHeld ?_
        · intro W9 hSW
          (try dsimp only at hSW)
          go_simp
        try simp only [Act.put, List.setIfInBounds_toArray, List.set_cons_zero, List.set_cons_succ]
        refine wpAnyH_take (i := 26) (oi := { dst := some 73, op := _, type := _, pos := _, after := _, guard := _ }) (v := .int .i64 aw) rfl (by kernel_rfl) (by kernel_rfl) (by kernel_rfl) (fun _ _ _ h => h) (Or.inl ⟨by rfl, ?_⟩) hHeld ?_
        · intro W9 hSW
          (try dsimp only at hSW)
          go_simp
        try simp only [Act.put, List.setIfInBounds_toArray, List.set_cons_zero, List.set_cons_succ]
        refine wpAnyH_take (i := 27) (oi := { dst := some 74, op := _, type := _, pos := _, after := _, guard := _ }) (v := .bool false) rfl (by kernel_rfl) (by kernel_rfl) (by kernel_rfl) (fun _ _ _ h => h) (Or.inl ⟨by rfl, ?_⟩) hHeld ?_
        · intro W9 hSW
          (try dsimp only at hSW)
          go_simp
        try simp only [Act.put, List.setIfInBounds_toArray, List.set_cons_zero, List.set_cons_succ]
        refine wpAnyH_take (i := 28) (oi := { dst := some 75, op := _, type := _, pos := _, after := _, guard := _ }) (v := .bool false) rfl (by kernel_rfl) (by kernel_rfl) (by kernel_rfl) (fun _ _ _ h => h) (Or.inl ⟨by rfl, ?_⟩) hHeld ?_
        · intro W9 hSW
          (try dsimp only at hSW)
          go_simp
        try simp only [Act.put, List.setIfInBounds_toArray, List.set_cons_zero, List.set_cons_succ]
        refine wpAnyH_take (i := 29) (oi := { dst := some 76, op := _, type := _, pos := _, after := _, guard := _ }) (v := .pointer (some ⟨gp, t, none⟩)) rfl (by kernel_rfl) (by kernel_rfl) (by kernel_rfl) (fun _ _ _ h => h) (Or.inl ⟨by rfl, ?_⟩) hHeld ?_
        · intro W9 hSW
          (try dsimp only at hSW)
          go_simp
        try simp only [Act.put, List.setIfInBounds_toArray, List.set_cons_zero, List.set_cons_succ]
        refine wpAnyH_ready (rs := [30]) (by kernel_rfl) (by simp) ?_
        refine AllReadyH.cons (o := { dst := none, op := _, type := _, pos := _, after := _, guard := _ }) rfl (fun K hK => ?_) AllReadyH.nil
        go_simp
        have kg : Keeps (fun b => b = gp) W5.drew (W5.drew.setCell ⟨gp, t, none⟩ (.bool false)) := (Keeps.refl (fun b => b = gp) W5.drew).setCell (p := ⟨gp, t, none⟩) (Or.inl rfl) _
        have hne1 : ¬ ga = gp := fun e => HPA.out e.symm
        have hne2 : ¬ lb = gp := fun e => by have h1 := HLB.out; have h3 := HFF.out _ HPF.out; omega
        have hS7 : (fun V : World => V.cell? ⟨pb, 2, none⟩ = some (.slice (some ⟨ga, 0, none⟩) d.ats.length ca) ∧ V.cell? ⟨pb, 3, none⟩ = some (.slice (some ⟨gp, 0, none⟩) d.paused.length cp) ∧ V.cell? ⟨ga, t, none⟩ = some (.int .i64 (k : Int)) ∧ V.cell? ⟨lb, lo + k * 4, none⟩ = some (.int .i64 aw)) (W5.drew.setCell ⟨gp, t, none⟩ (.bool false)) := ⟨kg.cell_of (w := W5.drew) y2 HNP.out, kg.cell_of (w := W5.drew) y3 HNP.out, kg.cell_of (w := W5.drew) ya hne1, kg.cell_of (w := W5.drew) x0 hne2⟩
        obtain ⟨p7, kp7⟩ := (J5.new (keeps_drew0 W5)).py.setPaused (cap := cp) (g := gp) (J5.new (keeps_drew0 W5)).y3 rfl t false (d.cnt + 1) (Nat.le_refl _)
        have K7 : Keeps (fun b => b = ga ∨ b = gp) w1 (W5.drew.setCell ⟨gp, t, none⟩ (.bool false)) := K5.drew.setCell (p := ⟨gp, t, none⟩) (Or.inl (Or.inr rfl)) _
        have HY7 := Lib.hid (And.intro (kg.cell_of (w := W5.drew) y2 HNP.out) (kg.cell_of (w := W5.drew) ya hne1))
        have KF7 := Lib.hid ((J5.new (keeps_drew0 W5)).kp.trans kp7)
        have P7 := Lib.hid p7
        have HK7 := Lib.hid K7
        dsimp only at hS7
        refine hK.out _ _ hS7 (fun hHeld => ?_)
        clear hK K kg hS7 p7 kp7 hHeld K5 J5 K7 y2 y3 ya yp zp x0
        refine wpAnyH_done (by kernel_rfl) ?_ _
        go_upto_region 7 with fail
        rw [World.setCell_drew] at KF7 P7 HK7 HY7
        generalize (W5.setCell ⟨gp, t, none⟩ (.bool false)).drew = W7 at *
        obtain ⟨y2, ya⟩ := HY7.out
        have hga9 : ¬ (ab = ga ∨ ab = gp) := fun e => by have h1 := HFL.out ga HGL.out.2.2; have h2 := HFL.out gp HPF.out; omega
        have hal : ab < w1.heap.size := by have := HS1.out; omega
        have hr9 : ∀ j, j < 4 → ∃ x, W7.cell? ⟨ab, j, none⟩ = some x ∧ W7.frozen? ⟨ab, j, none⟩ = false := fun j hj => by
          obtain ⟨x9, h5, h6⟩ := HC4.out j hj
          exact ⟨x9, HK7.out.cell_of h5 hga9, (HK7.out.frozen (p := ⟨ab, j, none⟩) hal hga9).trans h6⟩
        have HR9 := Lib.hid hr9
        obtain ⟨_, d0, z0⟩ := hr9 0 (by decide)
        obtain ⟨_, d1, z1⟩ := hr9 1 (by decide)
        obtain ⟨_, d2, z2⟩ := hr9 2 (by decide)
        obtain ⟨_, d3, z3⟩ := hr9 3 (by decide)
        obtain ⟨q0, q1, q2, q3⟩ := HLBA.out _ HK7.out
        clear hr9 hga9 hal
        go_wp2_with fail
        obtain ⟨u0, u1, u2, u3⟩ := get4 (V := W7) (r := ab) (fun i hi => by obtain ⟨x9, h5, _⟩ := HR9.out i hi; exact ⟨x9, h5⟩) (.int .i64 aw) (.int .i64 an) (.slice aa na caa) (.slice ac nc cac)
        have hk8 := set4_keeps W7 ab (.int .i64 aw) (.int .i64 an) (.slice aa na caa) (.slice ac nc cac)
        generalize (((W7.setCell ⟨ab, 0, none⟩ (.int .i64 aw)).setCell ⟨ab, 1, none⟩ (.int .i64 an)).setCell ⟨ab, 2, none⟩ (.slice aa na caa)).setCell ⟨ab, 3, none⟩ (.slice ac nc cac) = W8 at *
        have hnF : ∀ b, F b → ¬ b = ab := fun b hb e => by have := HFL.out b hb; omega
        refine bodyPost_ret (v := .agg #[.int .i64 aw, .int .i64 an, .slice aa na caa, .slice ac nc cac]) (by simp [results, Tryz.results216, go_sem, u0, u1, u2, u3]) rfl ?_
        have hkF : Keeps F w W8 := KF7.out.trans' hk8 fun b hb e => by have := HAB.out; have : b = ab := e; omega
        have hown9 : ∀ b, Held ⟨2, an, args, cases⟩ (Value.slice aa na caa) (Value.slice ac nc cac) b → b < w0.heap.size := HOWN.out
        have hs9 : AskSays w (.slice aa na caa) (.slice ac nc cac) ⟨aw, an, args, cases⟩ := askSays_below HSAY.out HBW.out (Nat.le_refl _)
        exact ⟨_, _, rfl, hs9.keeps hkF fun b hb e => by have h5 := hown9 b hb; have h6 := HFF.out b e; omega, ⟨F, P7.out.keeps hk8 hnF, fun b hb => Or.inl hb, fun b hb => ⟨fun e => by have h5 := hown9 b hb; have h6 := HFF.out b e; omega, Or.inl (hown9 b hb)⟩⟩, hkF⟩
    · have hnx : pyNext Sc d t = (⟨d.fns, d.ats.set t k, d.paused.set t false, d.cnt + 1⟩, pyEnd) := by
        have h9 : pyAt d t = k := by unfold pyAt; rw [HX9.out, HP9.out, hk]; rfl
        unfold pyNext
        rw [h9, HL9.out, List.getElem?_eq_none (by omega)]
        rfl
      rw [hnx]
      simp only
      clear hnx
      go_enter Tryz.func216, Tryz.ntmps216
      go_upto_region 1 with fail
      rw [← hw1]
      clear hw1
      generalize hab : w.heap.size = ab at *
      have HAB := Lib.hid hab
      clear hab
      go_upto_region 5 with fail
      generalize hq : w1.setCell ⟨ga, t, none⟩ (.int .i64 ((x : Int) + 1)) = W
      obtain ⟨J, hkW⟩ := HJ.out W k (Or.inr ⟨rfl, hk, hq.symm⟩)
      have J5 := J.new (keeps_drew0 W)
      have K5 : Keeps (fun b => b = ga ∨ b = gp) w1 W.drew := (hkW.mono fun _ _ e => Or.inl e).drew
      have y0 := J.y0
      have y1 := J.y1
      have yf := J.yf
      have ys := J.ys
      have HKP := Lib.hid J.kp
      have HKX := Lib.hid hk
      clear c0 c1 c2 c3 qf qa qp hq zga hkW J hk
      refine wp_region_held_drew (S := (fun V : World => V.cell? ⟨pb, 0, none⟩ = some (.slice (some ⟨sb, so, none⟩) Sc.length scap) ∧ V.cell? ⟨pb, 1, none⟩ = some (.slice (some ⟨gf, 0, none⟩) d.fns.length cf) ∧ V.cell? ⟨gf, t, none⟩ = some (.int .i64 (f : Int)) ∧ V.cell? ⟨sb, so + f, none⟩ = some (.slice lao l.length lcap))) (by kernel_rfl) ⟨by simp only [World.cell?_drew]; assumption, by simp only [World.cell?_drew]; assumption, by simp only [World.cell?_drew]; assumption, by simp only [World.cell?_drew]; assumption⟩ (fun hHeld => ?_)
      refine wpAnyH_take (i := 0) (oi := { dst := some 34, op := _, type := _, pos := _, after := _, guard := _ }) (v := .pointer (some ⟨pb, 0, none⟩)) rfl (by kernel_rfl) (by kernel_rfl) (by kernel_rfl) (fun _ _ _ h => h) (Or.inl ⟨by rfl, ?_⟩) hHeld ?_
      · intro W9 hSW
        (try dsimp only at hSW)
        go_simp
      try simp only [Act.put, List.setIfInBounds_toArray, List.set_cons_zero, List.set_cons_succ]
      refine wpAnyH_take (i := 1) (oi := { dst := some 35, op := _, type := _, pos := _, after := _, guard := _ }) (v := .pointer (some ⟨pb, 0, none⟩)) rfl (by kernel_rfl) (by kernel_rfl) (by kernel_rfl) (fun _ _ _ h => h) (Or.inl ⟨by rfl, ?_⟩) hHeld ?_
      · intro W9 hSW
        (try dsimp only at hSW)
        go_simp
      try simp only [Act.put, List.setIfInBounds_toArray, List.set_cons_zero, List.set_cons_succ]
      refine wpAnyH_take (i := 2) (oi := { dst := some 36, op := _, type := _, pos := _, after := _, guard := _ }) (v := .pointer (some ⟨pb, 0, none⟩)) rfl (by kernel_rfl) (by kernel_rfl) (by kernel_rfl) (fun _ _ _ h => h) (Or.inl ⟨by rfl, ?_⟩) hHeld ?_
      · intro W9 hSW
        (try dsimp only at hSW)
        go_simp
      try simp only [Act.put, List.setIfInBounds_toArray, List.set_cons_zero, List.set_cons_succ]
      refine wpAnyH_take (i := 3) (oi := { dst := some 37, op := _, type := _, pos := _, after := _, guard := _ }) (v := .slice (some ⟨sb, so, none⟩) Sc.length scap) rfl (by kernel_rfl) (by kernel_rfl) (by kernel_rfl) (fun _ _ _ h => h) (Or.inl ⟨by rfl, ?_⟩) hHeld ?_
      · intro W9 hSW
        (try dsimp only at hSW)
        go_simp
      try simp only [Act.put, List.setIfInBounds_toArray, List.set_cons_zero, List.set_cons_succ]
      refine wpAnyH_take (i := 4) (oi := { dst := some 38, op := _, type := _, pos := _, after := _, guard := _ }) (v := .pointer (some ⟨pb, 0, none⟩)) rfl (by kernel_rfl) (by kernel_rfl) (by kernel_rfl) (fun _ _ _ h => h) (Or.inl ⟨by rfl, ?_⟩) hHeld ?_
      · intro W9 hSW
        (try dsimp only at hSW)
        go_simp
      try simp only [Act.put, List.setIfInBounds_toArray, List.set_cons_zero, List.set_cons_succ]
      refine wpAnyH_take (i := 5) (oi := { dst := some 39, op := _, type := _, pos := _, after := _, guard := _ }) (v := .pointer (some ⟨pb, 0, none⟩)) rfl (by kernel_rfl) (by kernel_rfl) (by kernel_rfl) (fun _ _ _ h => h) (Or.inl ⟨by rfl, ?_⟩) hHeld ?_
      · intro W9 hSW
        (try dsimp only at hSW)
        go_simp
      try simp only [Act.put, List.setIfInBounds_toArray, List.set_cons_zero, List.set_cons_succ]
      refine wpAnyH_take (i := 6) (oi := { dst := some 40, op := _, type := _, pos := _, after := _, guard := _ }) (v := .pointer (some ⟨pb, 1, none⟩)) rfl (by kernel_rfl) (by kernel_rfl) (by kernel_rfl) (fun _ _ _ h => h) (Or.inl ⟨by rfl, ?_⟩) hHeld ?_
      · intro W9 hSW
        (try dsimp only at hSW)
        go_simp
      try simp only [Act.put, List.setIfInBounds_toArray, List.set_cons_zero, List.set_cons_succ]
      refine wpAnyH_take (i := 7) (oi := { dst := some 41, op := _, type := _, pos := _, after := _, guard := _ }) (v := .slice (some ⟨gf, 0, none⟩) d.fns.length cf) rfl (by kernel_rfl) (by kernel_rfl) (by kernel_rfl) (fun _ _ _ h => h) (Or.inl ⟨by rfl, ?_⟩) hHeld ?_
      · intro W9 hSW
        (try dsimp only at hSW)
        go_simp
      try simp only [Act.put, List.setIfInBounds_toArray, List.set_cons_zero, List.set_cons_succ]
      refine wpAnyH_take (i := 8) (oi := { dst := some 42, op := _, type := _, pos := _, after := _, guard := _ }) (v := .int .i64 t) rfl (by kernel_rfl) (by kernel_rfl) (by kernel_rfl) (fun _ _ _ h => h) (Or.inl ⟨by rfl, ?_⟩) hHeld ?_
      · intro W9 hSW
        (try dsimp only at hSW)
        go_simp
      try simp only [Act.put, List.setIfInBounds_toArray, List.set_cons_zero, List.set_cons_succ]
      refine wpAnyH_take (i := 9) (oi := { dst := some 43, op := _, type := _, pos := _, after := _, guard := _ }) (v := .pointer (some ⟨gf, t, none⟩)) rfl (by kernel_rfl) (by kernel_rfl) (by kernel_rfl) (fun _ _ _ h => h) (Or.inl ⟨by rfl, ?_⟩) hHeld ?_
      · intro W9 hSW
        (try dsimp only at hSW)
        go_simp
      try simp only [Act.put, List.setIfInBounds_toArray, List.set_cons_zero, List.set_cons_succ]
      refine wpAnyH_take (i := 10) (oi := { dst := some 44, op := _, type := _, pos := _, after := _, guard := _ }) (v := .int .i64 f) rfl (by kernel_rfl) (by kernel_rfl) (by kernel_rfl) (fun _ _ _ h => h) (Or.inl ⟨by rfl, ?_⟩) hHeld ?_
      · intro W9 hSW
        (try dsimp only at hSW)
        go_simp
      try simp only [Act.put, List.setIfInBounds_toArray, List.set_cons_zero, List.set_cons_succ]
      refine wpAnyH_take (i := 11) (oi := { dst := some 45, op := _, type := _, pos := _, after := _, guard := _ }) (v := .pointer (some ⟨sb, so + f, none⟩)) rfl (by kernel_rfl) (by kernel_rfl) (by kernel_rfl) (fun _ _ _ h => h) (Or.inl ⟨by rfl, ?_⟩) hHeld ?_
      · intro W9 hSW
        (try dsimp only at hSW)
        go_simp
      try simp only [Act.put, List.setIfInBounds_toArray, List.set_cons_zero, List.set_cons_succ]
      refine wpAnyH_take (i := 12) (oi := { dst := some 46, op := _, type := _, pos := _, after := _, guard := _ }) (v := .slice lao l.length lcap) rfl (by kernel_rfl) (by kernel_rfl) (by kernel_rfl) (fun _ _ _ h => h) (Or.inl ⟨by rfl, ?_⟩) hHeld ?_
      · intro W9 hSW
        (try dsimp only at hSW)
        go_simp
      try simp only [Act.put, List.setIfInBounds_toArray, List.set_cons_zero, List.set_cons_succ]
      refine wpAnyH_take (i := 13) (oi := { dst := some 5, op := _, type := _, pos := _, after := _, guard := _ }) (v := .slice lao l.length lcap) rfl (by kernel_rfl) (by kernel_rfl) (by kernel_rfl) (fun _ _ _ h => h) (Or.inl ⟨by rfl, ?_⟩) hHeld ?_
      · intro W9 hSW
        (try dsimp only at hSW)
        go_simp
      try simp only [Act.put, List.setIfInBounds_toArray, List.set_cons_zero, List.set_cons_succ]
      refine wpAnyH_done (by kernel_rfl) ?_ _
      generalize hW5 : W.drew = W5 at *
      clear hW5 y0 y1 yf ys hHeld
      go_upto_region 6 with fail
      have y2 := J5.y2
      have y3 := J5.y3
      have ya := J5.ya
      have yp := J5.yp
      have zp := J5.zp
      have hkl1 : ¬ (k : Int) < (l.length : Int) := by omega
      refine wp_region_held_drew (S := (fun V : World => V.cell? ⟨pb, 2, none⟩ = some (.slice (some ⟨ga, 0, none⟩) d.ats.length ca) ∧ V.cell? ⟨pb, 3, none⟩ = some (.slice (some ⟨gp, 0, none⟩) d.paused.length cp) ∧ V.cell? ⟨ga, t, none⟩ = some (.int .i64 (k : Int)))) (by kernel_rfl) ⟨by simp only [World.cell?_drew]; assumption, by simp only [World.cell?_drew]; assumption, by simp only [World.cell?_drew]; assumption⟩ (fun hHeld => ?_)
      refine wpAnyH_take (i := 0) (oi := { dst := some 47, op := _, type := _, pos := _, after := _, guard := _ }) (v := .pointer (some ⟨pb, 0, none⟩)) rfl (by kernel_rfl) (by kernel_rfl) (by kernel_rfl) (fun _ _ _ h => h) (Or.inl ⟨by rfl, ?_⟩) hHeld ?_
      · intro W9 hSW
        (try dsimp only at hSW)
        go_simp
      try simp only [Act.put, List.setIfInBounds_toArray, List.set_cons_zero, List.set_cons_succ]
      refine wpAnyH_take (i := 1) (oi := { dst := some 48, op := _, type := _, pos := _, after := _, guard := _ }) (v := .pointer (some ⟨pb, 0, none⟩)) rfl (by kernel_rfl) (by kernel_rfl) (by kernel_rfl) (fun _ _ _ h => h) (Or.inl ⟨by rfl, ?_⟩) hHeld ?_
      · intro W9 hSW
        (try dsimp only at hSW)
        go_simp
      try simp only [Act.put, List.setIfInBounds_toArray, List.set_cons_zero, List.set_cons_succ]
      refine wpAnyH_take (i := 2) (oi := { dst := some 49, op := _, type := _, pos := _, after := _, guard := _ }) (v := .pointer (some ⟨pb, 3, none⟩)) rfl (by kernel_rfl) (by kernel_rfl) (by kernel_rfl) (fun _ _ _ h => h) (Or.inl ⟨by rfl, ?_⟩) hHeld ?_
      · intro W9 hSW
        (try dsimp only at hSW)
        go_simp
      try simp only [Act.put, List.setIfInBounds_toArray, List.set_cons_zero, List.set_cons_succ]
      refine wpAnyH_take (i := 3) (oi := { dst := some 50, op := _, type := _, pos := _, after := _, guard := _ }) (v := .slice (some ⟨gp, 0, none⟩) d.paused.length cp) rfl (by kernel_rfl) (by kernel_rfl) (by kernel_rfl) (fun _ _ _ h => h) (Or.inl ⟨by rfl, ?_⟩) hHeld ?_
      · intro W9 hSW
        (try dsimp only at hSW)
        go_simp
      try simp only [Act.put, List.setIfInBounds_toArray, List.set_cons_zero, List.set_cons_succ]
      refine wpAnyH_take (i := 4) (oi := { dst := some 51, op := _, type := _, pos := _, after := _, guard := _ }) (v := .int .i64 t) rfl (by kernel_rfl) (by kernel_rfl) (by kernel_rfl) (fun _ _ _ h => h) (Or.inl ⟨by rfl, ?_⟩) hHeld ?_
      · intro W9 hSW
        (try dsimp only at hSW)
        go_simp
      try simp only [Act.put, List.setIfInBounds_toArray, List.set_cons_zero, List.set_cons_succ]
      refine wpAnyH_take (i := 5) (oi := { dst := some 52, op := _, type := _, pos := _, after := _, guard := _ }) (v := .pointer (some ⟨pb, 0, none⟩)) rfl (by kernel_rfl) (by kernel_rfl) (by kernel_rfl) (fun _ _ _ h => h) (Or.inl ⟨by rfl, ?_⟩) hHeld ?_
      · intro W9 hSW
        (try dsimp only at hSW)
        go_simp
      try simp only [Act.put, List.setIfInBounds_toArray, List.set_cons_zero, List.set_cons_succ]
      refine wpAnyH_take (i := 6) (oi := { dst := some 53, op := _, type := _, pos := _, after := _, guard := _ }) (v := .pointer (some ⟨pb, 0, none⟩)) rfl (by kernel_rfl) (by kernel_rfl) (by kernel_rfl) (fun _ _ _ h => h) (Or.inl ⟨by rfl, ?_⟩) hHeld ?_
      · intro W9 hSW
        (try dsimp only at hSW)
        go_simp
      try simp only [Act.put, List.setIfInBounds_toArray, List.set_cons_zero, List.set_cons_succ]
      refine wpAnyH_take (i := 7) (oi := { dst := some 54, op := _, type := _, pos := _, after := _, guard := _ }) (v := .pointer (some ⟨pb, 2, none⟩)) rfl (by kernel_rfl) (by kernel_rfl) (by kernel_rfl) (fun _ _ _ h => h) (Or.inl ⟨by rfl, ?_⟩) hHeld ?_
      · intro W9 hSW
        (try dsimp only at hSW)
        go_simp
      try simp only [Act.put, List.setIfInBounds_toArray, List.set_cons_zero, List.set_cons_succ]
      refine wpAnyH_take (i := 8) (oi := { dst := some 55, op := _, type := _, pos := _, after := _, guard := _ }) (v := .slice (some ⟨ga, 0, none⟩) d.ats.length ca) rfl (by kernel_rfl) (by kernel_rfl) (by kernel_rfl) (fun _ _ _ h => h) (Or.inl ⟨by rfl, ?_⟩) hHeld ?_
      · intro W9 hSW
        (try dsimp only at hSW)
        go_simp
      try simp only [Act.put, List.setIfInBounds_toArray, List.set_cons_zero, List.set_cons_succ]
      refine wpAnyH_take (i := 9) (oi := { dst := some 56, op := _, type := _, pos := _, after := _, guard := _ }) (v := .int .i64 t) rfl (by kernel_rfl) (by kernel_rfl) (by kernel_rfl) (fun _ _ _ h => h) (Or.inl ⟨by rfl, ?_⟩) hHeld ?_
      · intro W9 hSW
        (try dsimp only at hSW)
        go_simp
      try simp only [Act.put, List.setIfInBounds_toArray, List.set_cons_zero, List.set_cons_succ]
      refine wpAnyH_take (i := 10) (oi := { dst := some 57, op := _, type := _, pos := _, after := _, guard := _ }) (v := .pointer (some ⟨ga, t, none⟩)) rfl (by kernel_rfl) (by kernel_rfl) (by kernel_rfl) (fun _ _ _ h => h) (Or.inl ⟨by rfl, ?_⟩) hHeld ?_
      · intro W9 hSW
        (try dsimp only at hSW)
        go_simp
      try simp only [Act.put, List.setIfInBounds_toArray, List.set_cons_zero, List.set_cons_succ]
      refine wpAnyH_take (i := 11) (oi := { dst := some 58, op := _, type := _, pos := _, after := _, guard := _ }) (v := .int .i64 k) rfl (by kernel_rfl) (by kernel_rfl) (by kernel_rfl) (fun _ _ _ h => h) (Or.inl ⟨by rfl, ?_⟩) hHeld ?_
      · intro W9 hSW
        (try dsimp only at hSW)
        go_simp
      try simp only [Act.put, List.setIfInBounds_toArray, List.set_cons_zero, List.set_cons_succ]
      refine wpAnyH_take (i := 12) (oi := { dst := some 59, op := _, type := _, pos := _, after := _, guard := _ }) (v := .slice lao l.length lcap) rfl (by kernel_rfl) (by kernel_rfl) (by kernel_rfl) (fun _ _ _ h => h) (Or.inl ⟨by rfl, ?_⟩) hHeld ?_
      · intro W9 hSW
        (try dsimp only at hSW)
        go_simp
      try simp only [Act.put, List.setIfInBounds_toArray, List.set_cons_zero, List.set_cons_succ]
      refine wpAnyH_take (i := 13) (oi := { dst := some 60, op := _, type := _, pos := _, after := _, guard := _ }) (v := .int .i64 l.length) rfl (by kernel_rfl) (by kernel_rfl) (by kernel_rfl) (fun _ _ _ h => h) (Or.inl ⟨by rfl, ?_⟩) hHeld ?_
      · intro W9 hSW
        (try dsimp only at hSW)
        go_simp
      try simp only [Act.put, List.setIfInBounds_toArray, List.set_cons_zero, List.set_cons_succ]
      refine wpAnyH_take (i := 14) (oi := { dst := some 61, op := _, type := _, pos := _, after := _, guard := _ }) (v := .bool false) rfl (by kernel_rfl) (by kernel_rfl) (by kernel_rfl) (fun _ _ _ h => h) (Or.inl ⟨by rfl, ?_⟩) hHeld ?_
      · intro W9 hSW
        (try dsimp only at hSW)
        go_simp
      try simp only [Act.put, List.setIfInBounds_toArray, List.set_cons_zero, List.set_cons_succ]
      refine wpAnyH_take (i := 15) (oi := { dst := some 62, op := _, type := _, pos := _, after := _, guard := _ }) (v := .bool false) rfl (by kernel_rfl) (by kernel_rfl) (by kernel_rfl) (fun _ _ _ h => h) (Or.inl ⟨by rfl, ?_⟩) hHeld ?_
      · intro W9 hSW
        (try dsimp only at hSW)
        go_simp
      try simp only [Act.put, List.setIfInBounds_toArray, List.set_cons_zero, List.set_cons_succ]
      refine wpAnyH_take (i := 16) (oi := { dst := some 63, op := _, type := _, pos := _, after := _, guard := _ }) (v := undef) rfl (by kernel_rfl) (by kernel_rfl) (by kernel_rfl) (fun _ _ _ h => h) (Or.inr ⟨by rfl, rfl⟩) hHeld ?_
      try simp only [Act.put, List.setIfInBounds_toArray, List.set_cons_zero, List.set_cons_succ]
      refine wpAnyH_take (i := 17) (oi := { dst := some 64, op := _, type := _, pos := _, after := _, guard := _ }) (v := undef) rfl (by kernel_rfl) (by kernel_rfl) (by kernel_rfl) (fun _ _ _ h => h) (Or.inr ⟨by rfl, rfl⟩) hHeld ?_
      try simp only [Act.put, List.setIfInBounds_toArray, List.set_cons_zero, List.set_cons_succ]
      refine wpAnyH_take (i := 18) (oi := { dst := some 65, op := _, type := _, pos := _, after := _, guard := _ }) (v := undef) rfl (by kernel_rfl) (by kernel_rfl) (by kernel_rfl) (fun _ _ _ h => h) (Or.inr ⟨by rfl, rfl⟩) hHeld ?_
      try simp only [Act.put, List.setIfInBounds_toArray, List.set_cons_zero, List.set_cons_succ]
      refine wpAnyH_take (i := 19) (oi := { dst := some 66, op := _, type := _, pos := _, after := _, guard := _ }) (v := undef) rfl (by kernel_rfl) (by kernel_rfl) (by kernel_rfl) (fun _ _ _ h => h) (Or.inr ⟨by rfl, rfl⟩) hHeld ?_
      try simp only [Act.put, List.setIfInBounds_toArray, List.set_cons_zero, List.set_cons_succ]
      refine wpAnyH_take (i := 20) (oi := { dst := some 67, op := _, type := _, pos := _, after := _, guard := _ }) (v := undef) rfl (by kernel_rfl) (by kernel_rfl) (by kernel_rfl) (fun _ _ _ h => h) (Or.inr ⟨by rfl, rfl⟩) hHeld ?_
      try simp only [Act.put, List.setIfInBounds_toArray, List.set_cons_zero, List.set_cons_succ]
      refine wpAnyH_take (i := 21) (oi := { dst := some 68, op := _, type := _, pos := _, after := _, guard := _ }) (v := undef) rfl (by kernel_rfl) (by kernel_rfl) (by kernel_rfl) (fun _ _ _ h => h) (Or.inr ⟨by rfl, rfl⟩) hHeld ?_
      try simp only [Act.put, List.setIfInBounds_toArray, List.set_cons_zero, List.set_cons_succ]
      refine wpAnyH_take (i := 22) (oi := { dst := some 69, op := _, type := _, pos := _, after := _, guard := _ }) (v := undef) rfl (by kernel_rfl) (by kernel_rfl) (by kernel_rfl) (fun _ _ _ h => h) (Or.inr ⟨by rfl, rfl⟩) hHeld ?_
      try simp only [Act.put, List.setIfInBounds_toArray, List.set_cons_zero, List.set_cons_succ]
      refine wpAnyH_take (i := 23) (oi := { dst := some 70, op := _, type := _, pos := _, after := _, guard := _ }) (v := undef) rfl (by kernel_rfl) (by kernel_rfl) (by kernel_rfl) (fun _ _ _ h => h) (Or.inr ⟨by rfl, rfl⟩) hHeld ?_
      try simp only [Act.put, List.setIfInBounds_toArray, List.set_cons_zero, List.set_cons_succ]
      refine wpAnyH_take (i := 24) (oi := { dst := some 71, op := _, type := _, pos := _, after := _, guard := _ }) (v := undef) rfl (by kernel_rfl) (by kernel_rfl) (by kernel_rfl) (fun _ _ _ h => h) (Or.inr ⟨by rfl, rfl⟩) hHeld ?_
      try simp only [Act.put, List.setIfInBounds_toArray, List.set_cons_zero, List.set_cons_succ]
      refine wpAnyH_take (i := 25) (oi := { dst := some 72, op := _, type := _, pos := _, after := _, guard := _ }) (v := undef) rfl (by kernel_rfl) (by kernel_rfl) (by kernel_rfl) (fun _ _ _ h => h) (Or.inr ⟨by rfl, rfl⟩) hHeld ?_
      try simp only [Act.put, List.setIfInBounds_toArray, List.set_cons_zero, List.set_cons_succ]
      refine wpAnyH_take (i := 26) (oi := { dst := some 73, op := _, type := _, pos := _, after := _, guard := _ }) (v := undef) rfl (by kernel_rfl) (by kernel_rfl) (by kernel_rfl) (fun _ _ _ h => h) (Or.inr ⟨by rfl, rfl⟩) hHeld ?_
      try simp only [Act.put, List.setIfInBounds_toArray, List.set_cons_zero, List.set_cons_succ]
      refine wpAnyH_take (i := 27) (oi := { dst := some 74, op := _, type := _, pos := _, after := _, guard := _ }) (v := undef) rfl (by kernel_rfl) (by kernel_rfl) (by kernel_rfl) (fun _ _ _ h => h) (Or.inr ⟨by rfl, rfl⟩) hHeld ?_
      try simp only [Act.put, List.setIfInBounds_toArray, List.set_cons_zero, List.set_cons_succ]
      refine wpAnyH_take (i := 28) (oi := { dst := some 75, op := _, type := _, pos := _, after := _, guard := _ }) (v := .bool false) rfl (by kernel_rfl) (by kernel_rfl) (by kernel_rfl) (fun _ _ _ h => h) (Or.inl ⟨by rfl, ?_⟩) hHeld ?_
      · intro W9 hSW
        (try dsimp only at hSW)
        go_simp
      try simp only [Act.put, List.setIfInBounds_toArray, List.set_cons_zero, List.set_cons_succ]
      refine wpAnyH_take (i := 29) (oi := { dst := some 76, op := _, type := _, pos := _, after := _, guard := _ }) (v := .pointer (some ⟨gp, t, none⟩)) rfl (by kernel_rfl) (by kernel_rfl) (by kernel_rfl) (fun _ _ _ h => h) (Or.inl ⟨by rfl, ?_⟩) hHeld ?_
      · intro W9 hSW
        (try dsimp only at hSW)
        go_simp
      try simp only [Act.put, List.setIfInBounds_toArray, List.set_cons_zero, List.set_cons_succ]
      refine wpAnyH_ready (rs := [30]) (by kernel_rfl) (by simp) ?_
      refine AllReadyH.cons (o := { dst := none, op := _, type := _, pos := _, after := _, guard := _ }) rfl (fun K hK => ?_) AllReadyH.nil
      go_simp
      have kg : Keeps (fun b => b = gp) W5.drew (W5.drew.setCell ⟨gp, t, none⟩ (.bool false)) := (Keeps.refl (fun b => b = gp) W5.drew).setCell (p := ⟨gp, t, none⟩) (Or.inl rfl) _
      have hne1 : ¬ ga = gp := fun e => HPA.out e.symm
      have hS7 : (fun V : World => V.cell? ⟨pb, 2, none⟩ = some (.slice (some ⟨ga, 0, none⟩) d.ats.length ca) ∧ V.cell? ⟨pb, 3, none⟩ = some (.slice (some ⟨gp, 0, none⟩) d.paused.length cp) ∧ V.cell? ⟨ga, t, none⟩ = some (.int .i64 (k : Int))) (W5.drew.setCell ⟨gp, t, none⟩ (.bool false)) := ⟨kg.cell_of (w := W5.drew) y2 HNP.out, kg.cell_of (w := W5.drew) y3 HNP.out, kg.cell_of (w := W5.drew) ya hne1⟩
      obtain ⟨p7, kp7⟩ := (J5.new (keeps_drew0 W5)).py.setPaused (cap := cp) (g := gp) (J5.new (keeps_drew0 W5)).y3 rfl t false (d.cnt + 1) (Nat.le_refl _)
      have K7 : Keeps (fun b => b = ga ∨ b = gp) w1 (W5.drew.setCell ⟨gp, t, none⟩ (.bool false)) := K5.drew.setCell (p := ⟨gp, t, none⟩) (Or.inl (Or.inr rfl)) _
      have HY7 := Lib.hid (And.intro (kg.cell_of (w := W5.drew) y2 HNP.out) (kg.cell_of (w := W5.drew) ya hne1))
      have KF7 := Lib.hid ((J5.new (keeps_drew0 W5)).kp.trans kp7)
      have P7 := Lib.hid p7
      have HK7 := Lib.hid K7
      dsimp only at hS7
      refine hK.out _ _ hS7 (fun hHeld => ?_)
      clear hK K kg hS7 p7 kp7 hHeld K5 J5 K7 y2 y3 ya yp zp
      refine wpAnyH_done (by kernel_rfl) ?_ _
      go_upto_region 7 with fail
      rw [World.setCell_drew] at KF7 P7 HK7 HY7
      generalize (W5.setCell ⟨gp, t, none⟩ (.bool false)).drew = W7 at *
      obtain ⟨y2, ya⟩ := HY7.out
      have hga9 : ¬ (ab = ga ∨ ab = gp) := fun e => by have h1 := HFL.out ga HGL.out.2.2; have h2 := HFL.out gp HPF.out; omega
      have hal : ab < w1.heap.size := by have := HS1.out; omega
      have hr9 : ∀ j, j < 4 → ∃ x, W7.cell? ⟨ab, j, none⟩ = some x ∧ W7.frozen? ⟨ab, j, none⟩ = false := fun j hj => by
        obtain ⟨x9, h5, h6⟩ := HC4.out j hj
        exact ⟨x9, HK7.out.cell_of h5 hga9, (HK7.out.frozen (p := ⟨ab, j, none⟩) hal hga9).trans h6⟩
      have HR9 := Lib.hid hr9
      obtain ⟨_, d0, z0⟩ := hr9 0 (by decide)
      obtain ⟨_, d1, z1⟩ := hr9 1 (by decide)
      obtain ⟨_, d2, z2⟩ := hr9 2 (by decide)
      obtain ⟨_, d3, z3⟩ := hr9 3 (by decide)
      clear hr9 hga9 hal
      go_wp2_with fail
      obtain ⟨u0, u1, u2, u3⟩ := get4 (V := W7) (r := ab) (fun i hi => by obtain ⟨x9, h5, _⟩ := HR9.out i hi; exact ⟨x9, h5⟩) (.int .i64 1) (.int .i64 0) (.slice none 0 0) (.slice none 0 0)
      have hk8 := set4_keeps W7 ab (.int .i64 1) (.int .i64 0) (.slice none 0 0) (.slice none 0 0)
      generalize (((W7.setCell ⟨ab, 0, none⟩ (.int .i64 1)).setCell ⟨ab, 1, none⟩ (.int .i64 0)).setCell ⟨ab, 2, none⟩ (.slice none 0 0)).setCell ⟨ab, 3, none⟩ (.slice none 0 0) = W8 at *
      have hnF : ∀ b, F b → ¬ b = ab := fun b hb e => by have := HFL.out b hb; omega
      refine bodyPost_ret (v := .agg #[.int .i64 1, .int .i64 0, .slice none 0 0, .slice none 0 0]) (by simp [results, Tryz.results216, go_sem, u0, u1, u2, u3]) rfl ?_
      have hkF : Keeps F w W8 := KF7.out.trans' hk8 fun b hb e => by have := HAB.out; have : b = ab := e; omega
      exact ⟨_, _, rfl, ⟨intsAt_nil _, ⟨none, 0, 0, rfl, rfl, Nat.le_refl _, Nat.zero_le _, fun h => absurd h (Nat.lt_irrefl _)⟩, by decide, by decide, by decide, by decide⟩, ⟨F, P7.out.keeps hk8 hnF, fun b hb => Or.inl hb, fun b hb => by rcases hb with ⟨e, _⟩ | ⟨e, _⟩ <;> exact absurd e (Nat.lt_irrefl 0)⟩, hkF⟩
end Go.Proofs.YtnjdmijcoadidaaGreatDoor

namespace Go.Proofs.YtnjdmijcoadidaaGreatDoor
open Go.RowKit Go.ChangeShapes Go.WideShapes Go.ChangeAt Pp

/-- An ask, to be read, however long its rows are. -/
structure AskRaw (w : World) (va vc : Value) (a : Rm.Ask) : Prop where
  args : IntsAt w va a.args
  cases : TalksAt w vc a.cases
  n0 : -9223372036854775808 ≤ a.n
  n1 : a.n ≤ 9223372036854775807
def AsksRaw (w : World) (v : Value) (l : List Rm.Ask) : Prop :=
  ∃ ao cap, v = .slice ao l.length cap ∧ l.length ≤ cap ∧ cap ≤ maxLen ∧ (0 < l.length → ∃ b o, ao = some ⟨b, o, none⟩ ∧ b < w.heap.size ∧
    ∀ (i : Nat) a, l[i]? = some a → ∃ va vc, w.cell? ⟨b, o + i * 4, none⟩ = some (.int .i64 a.what) ∧ w.cell? ⟨b, o + i * 4 + 1, none⟩ = some (.int .i64 a.n) ∧ w.cell? ⟨b, o + i * 4 + 2, none⟩ = some va ∧ w.cell? ⟨b, o + i * 4 + 3, none⟩ = some vc ∧ AskRaw w va vc a)
def ScRaw (w : World) (sv : Value) (Sc : List (List Rm.Ask)) : Prop :=
  ∃ ao cap, sv = .slice ao Sc.length cap ∧ Sc.length ≤ cap ∧ cap ≤ maxLen ∧ (0 < Sc.length → ∃ b o, ao = some ⟨b, o, none⟩ ∧ b < w.heap.size ∧ ∀ (i : Nat) l, Sc[i]? = some l → ∃ v, w.cell? ⟨b, o + i, none⟩ = some v ∧ AsksRaw w v l)
/-- A script that is not too long to be held. -/
def Held6 (Sc : List (List Rm.Ask)) : Prop := 0 < Sc.length ∧ Sc.length ≤ 6 ∧ ∀ l ∈ Sc, l.length ≤ 30 ∧ ∀ a ∈ l, a.args.length ≤ 6 ∧ a.cases.length ≤ 8
theorem intsAt_lt {w : World} {v : Value} {l : List Int} (h : IntsAt w v l) (h0 : 0 < l.length) : ∀ b, v.ownBlock = some b → b < w.heap.size := by
  obtain ⟨ao, n, cap, rfl, hn, _, _, hx⟩ := h
  obtain ⟨b, o, rfl, h2, _⟩ := hx (by omega)
  intro b' e
  injection e with e
  rw [← e]; exact h2
theorem talksAt_lt {w : World} {v : Value} {l : List Tk} (h : TalksAt w v l) (h0 : 0 < l.length) : ∀ b, v.ownBlock = some b → b < w.heap.size := by
  obtain ⟨ao, n, cap, rfl, hn, _, _, hx⟩ := h
  obtain ⟨b, o, rfl, h2, _⟩ := hx (by omega)
  intro b' e
  injection e with e
  rw [← e]; exact h2
theorem AsksRaw.says {w : World} {v : Value} {l : List Rm.Ask} (h : AsksRaw w v l) (hl : ∀ a ∈ l, a.args.length ≤ 6 ∧ a.cases.length ≤ 8) : AsksAt w v l := by
  obtain ⟨ao, cap, h1, h2, h3, h4⟩ := h
  refine ⟨ao, cap, h1, h2, h3, fun h0 => ?_⟩
  obtain ⟨b, o, h5, h6, h7⟩ := h4 h0
  refine ⟨b, o, h5, h6, fun i a ha => ?_⟩
  obtain ⟨va, vc, c0, c1, c2, c3, hr⟩ := h7 i a ha
  have hs := hl a (List.mem_of_getElem? ha)
  refine ⟨va, vc, c0, c1, c2, c3, ⟨hr.args, hr.cases, hr.n0, hr.n1, by omega, by omega⟩, fun g hg => ?_⟩
  rcases hg with ⟨e1, e2⟩ | ⟨e1, e2⟩
  · exact intsAt_lt hr.args e1 g e2
  · exact talksAt_lt hr.cases e1 g e2
theorem ScRaw.says {w : World} {sv : Value} {Sc : List (List Rm.Ask)} (h : ScRaw w sv Sc) (hl : Held6 Sc) : ScAt w sv Sc := by
  obtain ⟨ao, cap, h1, h2, h3, h4⟩ := h
  refine ⟨ao, cap, h1, h2, h3, fun h0 => ?_⟩
  obtain ⟨b, o, h5, h6, h7⟩ := h4 h0
  refine ⟨b, o, h5, h6, fun i l hi => ?_⟩
  obtain ⟨v, c0, hr⟩ := h7 i l hi
  exact ⟨v, c0, hr.says (hl.2.2 l (List.mem_of_getElem? hi)).2⟩
theorem AskRaw.below {w w' : World} {va vc : Value} {a : Rm.Ask} (h : AskRaw w va vc a) (hb : Below w.heap.size w w') : AskRaw w' va vc a :=
  ⟨h.args.below hb, h.cases.keeps (Keeps.of_new (S := fun _ => False) hb) fun _ _ => id, h.n0, h.n1⟩
theorem AsksRaw.below {w w' : World} {v : Value} {l : List Rm.Ask} (h : AsksRaw w v l) (hb : Below w.heap.size w w') : AsksRaw w' v l := by
  obtain ⟨ao, cap, h1, h2, h3, h4⟩ := h
  refine ⟨ao, cap, h1, h2, h3, fun h0 => ?_⟩
  obtain ⟨b, o, h5, h6, h7⟩ := h4 h0
  refine ⟨b, o, h5, Nat.lt_of_lt_of_le h6 hb.size, fun i a ha => ?_⟩
  obtain ⟨va, vc, c0, c1, c2, c3, hs⟩ := h7 i a ha
  exact ⟨va, vc, (hb.cell (p := ⟨b, _, none⟩) h6).trans c0, (hb.cell (p := ⟨b, _, none⟩) h6).trans c1, (hb.cell (p := ⟨b, _, none⟩) h6).trans c2, (hb.cell (p := ⟨b, _, none⟩) h6).trans c3, hs.below hb⟩
theorem ScRaw.below {w w' : World} {sv : Value} {Sc : List (List Rm.Ask)} (h : ScRaw w sv Sc) (hb : Below w.heap.size w w') : ScRaw w' sv Sc := by
  obtain ⟨ao, cap, h1, h2, h3, h4⟩ := h
  refine ⟨ao, cap, h1, h2, h3, fun h0 => ?_⟩
  obtain ⟨b, o, h5, h6, h7⟩ := h4 h0
  refine ⟨b, o, h5, Nat.lt_of_lt_of_le h6 hb.size, fun i l hl => ?_⟩
  obtain ⟨v, c0, hs⟩ := h7 i l hl
  exact ⟨v, (hb.cell (p := ⟨b, _, none⟩) h6).trans c0, hs.below hb⟩
theorem PicksAt.below {w w' : World} {v : Value} {l : List (Int × Int)} (h : PicksAt w v l) (hb : Below w.heap.size w w') : PicksAt w' v l := h.keeps (Keeps.of_new (S := fun _ => False) hb) fun _ _ _ _ => id
instance : Inhabited Tk := ⟨⟨0, 0, 0⟩⟩
instance : Inhabited Rm.Ask := ⟨⟨0, 0, [], []⟩⟩
set_option maxRecDepth 100000 in
theorem intsC_open {H : Type} {enc : TypeId × Value → H} {W : World} {base : Nat} {spare : Nat → Bool} {held : Bool} {fuel : Nat} {cs : List Value} {x : DataW H × List MemPlace}
    (hf : DataW.trod enc Tryz.prog W base spare held fuel 26 cs = some x) : ∃ v l, cs = [v] ∧ IntsAt W v l := by
  have ci : Tryz.prog.cellsOf 3 = 1 := by kernel_rfl
  rcases Go.Deep.open_slice1 Tryz.underlying26 ci hf with ⟨hcs, _⟩ | ⟨a, len, cap, m, n, V, D, Pl, hcs, _, hl, hm, hmm, _, hx⟩
  · exact ⟨_, [], hcs, intsAt_nil _⟩
  · have hlm : len ≤ m := by rw [hmm]; split <;> omega
    have key : ∀ i, i < len → ∃ q : Int, W.cell? (a.add i) = some (.int .i64 q) := by
      intro i hi
      obtain ⟨h1, h2⟩ := hx i (by omega)
      obtain ⟨n0, f0, _, w0⟩ := DataW.trod_int Tryz.underlying3 h2
      have f0' : V i = .int .i64 n0 := by simpa using f0
      exact ⟨n0, by rw [← f0']; exact h1⟩
    obtain ⟨q, hq⟩ := Go.Deep.choose_lt key
    refine ⟨_, (List.range len).map q, hcs, some a, len, cap, rfl, by simp, hl, hm, fun h0 => ?_⟩
    obtain ⟨b, o, sp⟩ := a
    have h1 := hq 0 (by omega)
    have hspot : sp = none := by simpa [Addr.add] using World.cell?_spot h1
    subst hspot
    refine ⟨b, o, rfl, World.block_lt_of_cell? _ _ h1, fun i hi => ?_⟩
    have g0 := hq i hi
    rw [add_plain] at g0
    rw [g0, List.getD_eq_getElem?_getD, List.getElem?_map, List.getElem?_range hi]
    rfl
set_option maxRecDepth 100000 in
theorem talksC_open {H : Type} {enc : TypeId × Value → H} {W : World} {base : Nat} {spare : Nat → Bool} {held : Bool} {fuel : Nat} {cs : List Value} {x : DataW H × List MemPlace}
    (hf : DataW.trod enc Tryz.prog W base spare held fuel 86 cs = some x) : ∃ v tk, cs = [v] ∧ TalksAt W v tk := by
  have ce : Tryz.prog.cellsOf 132 = 3 := by kernel_rfl
  have ci : Tryz.prog.cellsOf 3 = 1 := by kernel_rfl
  rcases Go.Deep.open_slice Tryz.underlying86 hf with ⟨hcs, _⟩ | ⟨a, len, cap, m, n, D, Pl, hcs, _, hl, hm, hmm, _, hx⟩
  · exact ⟨_, [], hcs, none, 0, 0, rfl, rfl, Nat.le_refl _, Nat.zero_le _, fun h => absurd h (Nat.lt_irrefl _)⟩
  · have hlm : len ≤ m := by rw [hmm]; split <;> omega
    have key : ∀ i, i < len → ∃ q : Tk, W.cell? (a.add (i * 3)) = some (.int .i64 q.what) ∧ W.cell? (a.add (i * 3 + 1)) = some (.int .i64 q.chan) ∧ W.cell? (a.add (i * 3 + 2)) = some (.int .i64 q.n) := by
      intro i hi
      obtain ⟨cs', h1, h2⟩ := hx i (by omega)
      rw [ce] at h1
      obtain ⟨_, hlen, hcell⟩ := World.cells?_some h1
      obtain ⟨xs, k, hk, hxy, _, hxl, hfs⟩ := DataW.trod_struct Tryz.underlying132 h2
      match xs, hxl, cs', hlen with
      | [y0, y1, y2], _, [v0, v1, v2], _ =>
        have g0 := hfs 0 _ rfl
        have g1 := hfs 1 _ rfl
        have g2 := hfs 2 _ rfl
        simp [ci] at g0 g1 g2
        have e0 := hcell 0 (by omega)
        have e1 := hcell 1 (by omega)
        have e2 := hcell 2 (by omega)
        rw [Go.Deep.add_add] at e0 e1 e2
        obtain ⟨n0, f0, _, w0⟩ := DataW.trod_int Tryz.underlying3 g0
        obtain ⟨n1, f1, _, w1⟩ := DataW.trod_int Tryz.underlying3 g1
        obtain ⟨n2, f2, _, w2⟩ := DataW.trod_int Tryz.underlying3 g2
        have f0' : v0 = .int .i64 n0 := by simpa using f0
        have f1' : v1 = .int .i64 n1 := by simpa using f1
        have f2' : v2 = .int .i64 n2 := by simpa using f2
        subst f0' f1' f2'
        exact ⟨⟨n0, n1, n2⟩, by simpa using e0, by simpa using e1, by simpa using e2⟩
    obtain ⟨q, hq⟩ := Go.Deep.choose_lt key
    refine ⟨_, (List.range len).map q, hcs, some a, len, cap, rfl, by simp, hl, hm, fun h0 => ?_⟩
    obtain ⟨b, o, sp⟩ := a
    have h1 := (hq 0 (by omega)).1
    have hspot : sp = none := by simpa [Addr.add] using World.cell?_spot h1
    subst hspot
    refine ⟨b, o, rfl, World.block_lt_of_cell? _ _ h1, fun i x hi => ?_⟩
    rw [List.getElem?_map] at hi
    obtain ⟨j, hj, rfl⟩ := Option.map_eq_some_iff.1 hi
    have hil := (List.getElem?_eq_some_iff.1 hj).1
    rw [List.length_range] at hil
    rw [List.getElem?_range hil] at hj
    cases hj
    obtain ⟨g0, g1, g2⟩ := hq i hil
    rw [add_plain] at g0 g1 g2
    exact ⟨g0, by rw [Nat.add_assoc]; exact g1, by rw [Nat.add_assoc]; exact g2⟩
set_option maxRecDepth 100000 in
theorem asksC_open {H : Type} {enc : TypeId × Value → H} {W : World} {base : Nat} {spare : Nat → Bool} {held : Bool} {fuel : Nat} {cs : List Value} {x : DataW H × List MemPlace}
    (hf : DataW.trod enc Tryz.prog W base spare held fuel 85 cs = some x) : ∃ v l, cs = [v] ∧ AsksRaw W v l := by
  have ce : Tryz.prog.cellsOf 88 = 4 := by kernel_rfl
  have ci : Tryz.prog.cellsOf 3 = 1 := by kernel_rfl
  have ct : Tryz.prog.cellsOf 26 = 1 := by kernel_rfl
  have cu : Tryz.prog.cellsOf 86 = 1 := by kernel_rfl
  rcases Go.Deep.open_slice Tryz.underlying85 hf with ⟨hcs, _⟩ | ⟨a, len, cap, m, n, D, Pl, hcs, _, hl, hm, hmm, _, hx⟩
  · exact ⟨_, [], hcs, none, 0, rfl, Nat.le_refl _, Nat.zero_le _, fun h => absurd h (Nat.lt_irrefl _)⟩
  · have hlm : len ≤ m := by rw [hmm]; split <;> omega
    have key : ∀ i, i < len → ∃ q : Rm.Ask, ∃ va vc, W.cell? (a.add (i * 4)) = some (.int .i64 q.what) ∧ W.cell? (a.add (i * 4 + 1)) = some (.int .i64 q.n) ∧ W.cell? (a.add (i * 4 + 2)) = some va ∧ W.cell? (a.add (i * 4 + 3)) = some vc ∧ AskRaw W va vc q := by
      intro i hi
      obtain ⟨cs', h1, h2⟩ := hx i (by omega)
      rw [ce] at h1
      obtain ⟨_, hlen, hcell⟩ := World.cells?_some h1
      obtain ⟨xs, k, hk, hxy, _, hxl, hfs⟩ := DataW.trod_struct Tryz.underlying88 h2
      match xs, hxl, cs', hlen with
      | [y0, y1, y2, y3], _, [v0, v1, v2, v3], _ =>
        have g0 := hfs 0 _ rfl
        have g1 := hfs 1 _ rfl
        have g2 := hfs 2 _ rfl
        have g3 := hfs 3 _ rfl
        simp [ci, ct, cu] at g0 g1 g2 g3
        have e0 := hcell 0 (by omega)
        have e1 := hcell 1 (by omega)
        have e2 := hcell 2 (by omega)
        have e3 := hcell 3 (by omega)
        rw [Go.Deep.add_add] at e0 e1 e2 e3
        obtain ⟨n0, f0, _, w0⟩ := DataW.trod_int Tryz.underlying3 g0
        obtain ⟨n1, f1, _, w1⟩ := DataW.trod_int Tryz.underlying3 g1
        obtain ⟨va, args, f2, ha⟩ := intsC_open g2
        obtain ⟨vc, tks, f3, ht⟩ := talksC_open g3
        have f0' : v0 = .int .i64 n0 := by simpa using f0
        have f1' : v1 = .int .i64 n1 := by simpa using f1
        have f2' : v2 = va := by simpa using f2
        have f3' : v3 = vc := by simpa using f3
        subst f0' f1' f2' f3'
        exact ⟨⟨n0, n1, args, tks⟩, v2, v3, by simpa using e0, by simpa using e1, by simpa using e2, by simpa using e3, ha, ht, (bounds_i64 w1).1, (bounds_i64 w1).2⟩
    obtain ⟨q, hq⟩ := Go.Deep.choose_lt key
    refine ⟨_, (List.range len).map q, hcs, some a, cap, by simp, by simpa using hl, hm, fun h0 => ?_⟩
    rw [List.length_map, List.length_range] at h0
    obtain ⟨b, o, sp⟩ := a
    obtain ⟨_, _, h1, _⟩ := hq 0 (by omega)
    have hspot : sp = none := by simpa [Addr.add] using World.cell?_spot h1
    subst hspot
    refine ⟨b, o, rfl, World.block_lt_of_cell? _ _ h1, fun i x hi => ?_⟩
    rw [List.getElem?_map] at hi
    obtain ⟨j, hj, rfl⟩ := Option.map_eq_some_iff.1 hi
    have hil := (List.getElem?_eq_some_iff.1 hj).1
    rw [List.length_range] at hil
    rw [List.getElem?_range hil] at hj
    cases hj
    obtain ⟨va, vc, g0, g1, g2, g3, g4⟩ := hq i hil
    rw [add_plain] at g0 g1 g2 g3
    exact ⟨va, vc, g0, by rw [Nat.add_assoc]; exact g1, by rw [Nat.add_assoc]; exact g2, by rw [Nat.add_assoc]; exact g3, g4⟩
instance : Inhabited (List Rm.Ask) := ⟨[]⟩
set_option maxRecDepth 100000 in
theorem scRaw_open {H : Type} {enc : TypeId × Value → H} {W : World} {base : Nat} {spare : Nat → Bool} {held : Bool} {ao : Option Addr} {len cap : Nat} {d : DataW H} {p : List MemPlace}
    (h : DataW.Trod enc Tryz.prog W base spare held 22 (.slice ao len cap) d p) : ∃ l, ScRaw W (.slice ao len cap) l := by
  obtain ⟨fuel, hf⟩ := h
  have ct : Tryz.prog.cellsOf 85 = 1 := by kernel_rfl
  rcases Go.Deep.open_slice1 Tryz.underlying22 ct hf with ⟨hcs, _⟩ | ⟨a, l, c, m, n, V, D, Pl, hcs, _, hl, hm, hmm, _, hx⟩
  · simp [Value.cells] at hcs
    obtain ⟨rfl, rfl, rfl⟩ := hcs
    exact ⟨[], none, 0, rfl, Nat.le_refl _, Nat.zero_le _, fun h => absurd h (Nat.lt_irrefl _)⟩
  · simp [Value.cells] at hcs
    obtain ⟨rfl, rfl, rfl⟩ := hcs
    have hlm : len ≤ m := by rw [hmm]; split <;> omega
    have key : ∀ i, i < len → ∃ q : List Rm.Ask, ∃ v, W.cell? (a.add i) = some v ∧ AsksRaw W v q := by
      intro i hi
      obtain ⟨h1, h2⟩ := hx i (by omega)
      obtain ⟨v, q, hv, hq⟩ := asksC_open h2
      have hv' : V i = v := by simpa using hv
      exact ⟨q, v, by rw [← hv']; exact h1, hq⟩
    obtain ⟨q, hq⟩ := Go.Deep.choose_lt key
    refine ⟨(List.range len).map q, some a, cap, by simp, by simpa using hl, hm, fun h0 => ?_⟩
    rw [List.length_map, List.length_range] at h0
    obtain ⟨b, o, sp⟩ := a
    obtain ⟨_, h1, _⟩ := hq 0 (by omega)
    have hspot : sp = none := by simpa [Addr.add] using World.cell?_spot h1
    subst hspot
    refine ⟨b, o, rfl, World.block_lt_of_cell? _ _ h1, fun i x hi => ?_⟩
    rw [List.getElem?_map] at hi
    obtain ⟨j, hj, rfl⟩ := Option.map_eq_some_iff.1 hi
    have hil := (List.getElem?_eq_some_iff.1 hj).1
    rw [List.length_range] at hil
    rw [List.getElem?_range hil] at hj
    cases hj
    obtain ⟨v, g0, g1⟩ := hq i hil
    rw [add_plain] at g0
    exact ⟨v, g0, g1⟩
def PicksWf (l : List (Int × Int)) : Prop := ∀ p ∈ l, (-9223372036854775808 ≤ p.1 ∧ p.1 ≤ 9223372036854775807) ∧ -9223372036854775808 ≤ p.2 ∧ p.2 ≤ 9223372036854775807
set_option maxRecDepth 100000 in
theorem picksAt_open {H : Type} {enc : TypeId × Value → H} {W : World} {base : Nat} {spare : Nat → Bool} {held : Bool} {ao : Option Addr} {len cap : Nat} {d : DataW H} {p : List MemPlace}
    (h : DataW.Trod enc Tryz.prog W base spare held 23 (.slice ao len cap) d p) : ∃ l, PicksAt W (.slice ao len cap) l ∧ PicksWf l := by
  obtain ⟨fuel, hf⟩ := h
  have ce : Tryz.prog.cellsOf 43 = 2 := by kernel_rfl
  have ci : Tryz.prog.cellsOf 3 = 1 := by kernel_rfl
  rcases Go.Deep.open_slice Tryz.underlying23 hf with ⟨hcs, _⟩ | ⟨a, l, c, m, n, D, Pl, hcs, _, hl, hm, hmm, _, hx⟩
  · simp [Value.cells] at hcs
    obtain ⟨rfl, rfl, rfl⟩ := hcs
    exact ⟨[], ⟨none, 0, rfl, Nat.le_refl _, Nat.zero_le _, fun h => absurd h (Nat.lt_irrefl _)⟩, fun p hp => by cases hp⟩
  · simp [Value.cells] at hcs
    obtain ⟨rfl, rfl, rfl⟩ := hcs
    have hlm : len ≤ m := by rw [hmm]; split <;> omega
    have key : ∀ i, i < len → ∃ q : Int × Int, W.cell? (a.add (i * 2)) = some (.int .i64 q.1) ∧ W.cell? (a.add (i * 2 + 1)) = some (.int .i64 q.2) ∧ (Lit.int .i64 q.1).wf = true ∧ (Lit.int .i64 q.2).wf = true := by
      intro i hi
      obtain ⟨cs', h1, h2⟩ := hx i (by omega)
      rw [ce] at h1
      obtain ⟨_, hlen, hcell⟩ := World.cells?_some h1
      obtain ⟨xs, k, hk, hxy, _, hxl, hfs⟩ := DataW.trod_struct Tryz.underlying43 h2
      match xs, hxl, cs', hlen with
      | [y0, y1], _, [v0, v1], _ =>
        have g0 := hfs 0 _ rfl
        have g1 := hfs 1 _ rfl
        simp [ci] at g0 g1
        have e0 := hcell 0 (by omega)
        have e1 := hcell 1 (by omega)
        rw [Go.Deep.add_add] at e0 e1
        obtain ⟨n0, f0, _, w0⟩ := DataW.trod_int Tryz.underlying3 g0
        obtain ⟨n1, f1, _, w1⟩ := DataW.trod_int Tryz.underlying3 g1
        have f0' : v0 = .int .i64 n0 := by simpa using f0
        have f1' : v1 = .int .i64 n1 := by simpa using f1
        subst f0' f1'
        exact ⟨(n0, n1), by simpa using e0, by simpa using e1, w0, w1⟩
    obtain ⟨q, hq⟩ := Go.Deep.choose_lt key
    refine ⟨(List.range len).map q, ⟨some a, cap, by simp, by simpa using hl, hm, fun h0 => ?_⟩, fun p hp => ?_⟩
    · rw [List.length_map, List.length_range] at h0
      obtain ⟨b, o, sp⟩ := a
      obtain ⟨h1, _⟩ := hq 0 (by omega)
      have hspot : sp = none := by simpa [Addr.add] using World.cell?_spot h1
      subst hspot
      refine ⟨b, o, rfl, World.block_lt_of_cell? _ _ h1, fun i x hi => ?_⟩
      rw [List.getElem?_map] at hi
      obtain ⟨j, hj, rfl⟩ := Option.map_eq_some_iff.1 hi
      have hil := (List.getElem?_eq_some_iff.1 hj).1
      rw [List.length_range] at hil
      rw [List.getElem?_range hil] at hj
      cases hj
      obtain ⟨g0, g1, _⟩ := hq i hil
      rw [add_plain] at g0 g1
      exact ⟨g0, by rw [Nat.add_assoc]; exact g1⟩
    · obtain ⟨i, hi, rfl⟩ := List.mem_map.1 hp
      obtain ⟨_, _, h1, h2⟩ := hq i (List.mem_range.1 hi)
      exact ⟨bounds_i64 h1, bounds_i64 h2⟩
end Go.Proofs.YtnjdmijcoadidaaGreatDoor

namespace Go.Proofs.YtnjdmijcoadidaaGreatDoor
open Go.RowKit Go.Maps Pp

section
variable {α : Type} {w0 : World} {C : DoerW α w0} {s : Rm.S α}
theorem DoerW.bd (C : DoerW α w0) : Rm.Bd C.D C.num C.big := ⟨C.num_begins, C.num_next, C.num_give, C.big_begins, C.big_next, C.big_give⟩
theorem inv_in {p : List Int} (h : Rm.Inv p s) {x : Int} (hx : x ∈ p) : 0 ≤ x ∧ x < (s.tasks.length : Int) := by
  have h1 := h.pend x hx
  obtain ⟨h2, h3⟩ := Rm.st_lt (s := s) (x := x) (by omega)
  omega
theorem turnOk {n : Nat} (h : Rm.At C.num C.big n s) (hn : n ≤ 1000) (draw : Int) (hd : -9223372036854775808 ≤ draw ∧ draw ≤ 9223372036854775807) : TurnOk C s draw := by
  have hi := h.inv
  have hb := h.big
  have htl := h.tasks
  have hev := h.events
  have hnow := h.now
  have hf : Fits C s := ⟨h.num, by omega, by have := hi.few; omega, by omega, by omega, by have := hi.out; omega⟩
  have hck : ∀ e ∈ s.clock, Rm.st s e.2 = 2 := fun e he => ((hi.clk e.2).1 (List.mem_map.2 ⟨e, he, rfl⟩)).1
  have hcl := hi.clock_le
  have hf2 : ∀ t, Fits C { s with d := (C.D.next s.d t).1 } := fun t => by
    have := C.big_next s.d t
    exact ⟨by show C.num (C.D.next s.d t).1 = s.tasks.length; rw [C.num_next]; exact h.num, hf.tasks, hf.live, by show C.big (C.D.next s.d t).1 ≤ _; omega, hf.events, hf.out⟩
  have hdo : ∀ t ∈ Rm.ready s, Rm.Inv [] (Rm.doA C.D { s with d := (C.D.next s.d t).1 } t (C.D.next s.d t).2 draw) := fun t ht => (hi.d (C.D.next s.d t).1).doA (hi.ready ht).2 _ _
  refine ⟨hf, fun t ht => (hi.lt ht).1, fun e he => ?_, by omega, fun t _ => hf2 t, fun t ht => ?_, fun t ht i hi2 => ((hdo t ht).lt hi2).1, fun t ht => by have := (hdo t ht).few; omega, fun t ht => ?_⟩
  · obtain ⟨h1, h2⟩ := Rm.st_lt (s := s) (x := e.2) (by have := hck e he; omega)
    omega
  · obtain ⟨ht1, ht2⟩ := hi.ready ht
    have hw : ∀ x ∈ (Pp.talk s.pipes t (C.D.next s.d t).2.cases draw).wakes, Rm.st s x.task = 1 := fun x hx => by
      by_cases e : (Pp.talk s.pipes t (C.D.next s.d t).2.cases draw).err = 0
      · rcases talk_once hi.ok (t : Int) _ draw e with ⟨_, h2, _⟩ | ⟨_, h3⟩
        · rw [h2] at hx; cases hx
        · rcases h3 with ⟨h4, _⟩ | ⟨w, h4, h5, _⟩
          · rw [h4] at hx; cases hx
          · rw [h4, List.mem_singleton] at hx
            rw [hx]
            exact ((hi.asks _).1 h5).1
      · rw [(talk_err _ _ _ e).2] at hx; cases hx
    have hwl : (Pp.talk s.pipes t (C.D.next s.d t).2.cases draw).wakes.length ≤ 1 := by
      by_cases e : (Pp.talk s.pipes t (C.D.next s.d t).2.cases draw).err = 0
      · rcases talk_once hi.ok (t : Int) _ draw e with ⟨_, h2, _⟩ | ⟨_, h3⟩
        · rw [h2]; exact Nat.zero_le _
        · rcases h3 with ⟨h4, _⟩ | ⟨w, h4, _⟩
          · rw [h4]; exact Nat.zero_le _
          · rw [h4]; exact Nat.le_refl _
      · rw [(talk_err _ _ _ e).2]; exact Nat.zero_le _
    obtain ⟨c1, c2, c3, _⟩ := close_once s.pipes (C.D.next s.d t).2.n
    have hcp := (hi.piped (hi.ok.close (C.D.next s.d t).2.n) c1 c2 c3).pend_le
    rw [List.length_map] at hcp
    refine ⟨ht1, hd, fun x hx => ?_, by show (Pp.talk s.pipes t _ draw).wakes.length ≤ _; omega, fun x hx => ?_, by show (Pp.close s.pipes _).wakes.length ≤ _; omega, fun e he e2 => ?_, by show s.clock.length < 1000; omega, hi.now, by show s.now ≤ _; omega⟩
    · obtain ⟨h1, h2⟩ := Rm.st_lt (s := s) (x := x.task) (by have := hw x hx; omega)
      show 0 ≤ x.task ∧ x.task < (s.tasks.length : Int)
      omega
    · have h5 := ((hi.asks _).1 (c2 x.task (List.mem_map.2 ⟨x, hx, rfl⟩))).1
      obtain ⟨h1, h2⟩ := Rm.st_lt (s := s) (x := x.task) (by omega)
      show 0 ≤ x.task ∧ x.task < (s.tasks.length : Int)
      omega
    · have h5 := hck e he
      rw [e2] at h5
      omega
  · have h6 := (Rm.Step.doA (E := fun _ => True) C.bd (hi.d (C.D.next s.d t).1) (t := t) (hi.ready ht).2 (C.D.next s.d t).2 draw fun _ => trivial).tk
    have h7 : ({ s with d := (C.D.next s.d t).1 } : Rm.S α).tasks.length = s.tasks.length := rfl
    omega
end
end Go.Proofs.YtnjdmijcoadidaaGreatDoor

namespace Go.Proofs.YtnjdmijcoadidaaGreatDoor
open Go.RowKit Go.Maps Pp

theorem pl_nB (a : Addr) (w : World) : (nilAhead 471 77 (.pointer (some a)) "Begin").run Tryz.prog w = .ok (some false) w := by kernel_rfl
theorem pl_mB (a : Addr) (w : World) : (Go.method 471 77 (.pointer (some a)) "Begin").run Tryz.prog w = .ok (214, .pointer (some a)) w := by kernel_rfl
theorem pl_nN (a : Addr) (w : World) : (nilAhead 471 77 (.pointer (some a)) "Next").run Tryz.prog w = .ok (some false) w := by kernel_rfl
theorem pl_mN (a : Addr) (w : World) : (Go.method 471 77 (.pointer (some a)) "Next").run Tryz.prog w = .ok (216, .pointer (some a)) w := by kernel_rfl
theorem pl_nG (a : Addr) (w : World) : (nilAhead 471 77 (.pointer (some a)) "Give").run Tryz.prog w = .ok (some false) w := by kernel_rfl
theorem pl_mG (a : Addr) (w : World) : (Go.method 471 77 (.pointer (some a)) "Give").run Tryz.prog w = .ok (215, .pointer (some a)) w := by kernel_rfl
theorem pl_eB (args : Array Value) (w : World) : (callFunc 214 args).run Tryz.prog w = .ok (.enter 214 args) w := by kernel_rfl
theorem pl_eN (args : Array Value) (w : World) : (callFunc 216 args).run Tryz.prog w = .ok (.enter 216 args) w := by kernel_rfl
theorem pl_eG (args : Array Value) (w : World) : (callFunc 215 args).run Tryz.prog w = .ok (.enter 215 args) w := by kernel_rfl
theorem pyNum_begins (Sc : List (List Rm.Ask)) (d : Py) (fn : Int) (args : List Int) : (pyBegins Sc d fn args).fns.length = d.fns.length + 1 := by unfold pyBegins; simp
/-- The player of a script, in the block pb. -/
def pyW (w0 : World) (Sc : List (List Rm.Ask)) (so : Option Addr) (scap pb : Nat) (hsc : ScAt w0 (.slice so Sc.length scap) Sc) (hs0 : 0 < Sc.length) (hs1 : Sc.length ≤ 1000) : DoerW Py w0 where
  D := pyDoer Sc
  dt := 77
  dp := .pointer (some ⟨pb, 0, none⟩)
  num := fun d => d.fns.length
  big := fun d => d.cnt
  At := fun w F d => PyAt Sc pb (.slice so Sc.length scap) w F d
  lt := fun h => h.fl
  keeps := fun h hk hS => h.keeps hk hS
  mono := fun h hF hG => h.mono hF hG
  fB := 214
  fN := 216
  fG := 215
  nB := pl_nB _
  mB := pl_mB _
  nN := pl_nN _
  mN := pl_mN _
  nG := pl_nG _
  mG := pl_mG _
  eB := pl_eB
  eN := pl_eN
  eG := pl_eG
  begins := fun {_ _ _ va args} fn h _ _ _ hn _ _ => pyBegin_any h hs0 hs1 fn va args hn
  next := fun t h ht hl hb hbel hF => pyNext_any h hsc hbel hF t ht hl hb
  give := fun t c n h ht hl hb _ _ => pyGive_any h t ht hl hb c n
  num_begins := pyNum_begins Sc
  num_next := fun _ _ => rfl
  num_give := fun _ _ _ _ => rfl
  big_begins := fun _ _ _ => Nat.le_refl _
  big_next := fun _ _ => Nat.le_refl _
  big_give := fun _ _ _ _ => Nat.le_refl _
def py0 : Py := ⟨[], [], [], 0⟩
/-- A player that has begun no task. -/
theorem pyAt_zero {w : World} {Sc : List (List Rm.Ask)} {sv : Value} (t : TypeId) : PyAt Sc w.heap.size sv (w.alloc (.cells #[sv, .slice none 0 0, .slice none 0 0, .slice none 0 0] t)) (fun b => b = w.heap.size) py0 := by
  have hc : ∀ j u, (#[sv, .slice none 0 0, .slice none 0 0, .slice none 0 0] : Array Value)[j]? = some u → (w.alloc (.cells #[sv, .slice none 0 0, .slice none 0 0, .slice none 0 0] t)).cell? ⟨w.heap.size, j, none⟩ = some u := fun j u hu => by
    rw [World.cell?_alloc_at _ _ _ _ rfl]; exact hu
  refine ⟨hc 0 _ rfl, ⟨.slice none 0 0, .slice none 0 0, .slice none 0 0, hc 1 _ rfl, hc 2 _ rfl, hc 3 _ rfl, World.ownsRow_nil _ _ _ _, World.ownsRow_nil _ _ _ _, World.ownsRow_nil _ _ _ _, fun b hb => (by cases hb), fun b hb => (by cases hb), fun b hb => (by cases hb), fun b hb => (by cases hb)⟩, fun j => by rw [World.frozen?_alloc_at _ _ _ _ rfl], rfl, fun b hb => by rw [hb]; simp, rfl, rfl, fun f hf => absurd hf List.not_mem_nil, fun a ha => absurd ha List.not_mem_nil⟩
section
variable {w0 : World} {Sc : List (List Rm.Ask)} {so : Option Addr} {scap pb : Nat} {hsc : ScAt w0 (.slice so Sc.length scap) Sc} {hs0 : 0 < Sc.length} {hs1 : Sc.length ≤ 1000}
theorem py_start (g : Nat) (hg : g ≤ 8) : Rm.At (pyW w0 Sc so scap pb hsc hs0 hs1).num (pyW w0 Sc so scap pb hsc hs0 hs1).big 0 (Rm.start (pyDoer Sc) g py0) :=
  Rm.At.start (pyW w0 Sc so scap pb hsc hs0 hs1).bd hg rfl rfl
end
end Go.Proofs.YtnjdmijcoadidaaGreatDoor

namespace Go.Proofs.YtnjdmijcoadidaaGreatDoor
open Go.RowKit

set_option maxRecDepth 100000 in
set_option maxHeartbeats 1600000 in
theorem equalI_any (v u : Value) (l : List Int) (w : World) (hv : IntsAt w v l) (hu : IntsAt w u l) :
    Calls Tryz.prog 33 #[v, u] w fun e w' => e = .returned (.bool true) ∧ ∃ n, w' = w.drewN n := by
  obtain ⟨ao, n, cap, rfl, hn, hnc, hcm, hx⟩ := hv
  obtain ⟨ao2, n2, cap2, rfl, hn2, hnc2, hcm2, hx2⟩ := hu
  obtain rfl : n2 = n := by omega
  unfold maxLen at hcm hcm2
  have HX := Lib.hid hx
  have HX2 := Lib.hid hx2
  clear hx hx2 hn hn2
  go_enter Tryz.func33, Tryz.ntmps33
  go_wp2_with fail
  go_loopw [13] (fun i wr => ∃ (k m : Nat), k ≤ n2 ∧ i = .int .i64 k ∧ wr = w.drewN m) (fun i _ => n2 - (intOf i).toNat)
  case atStart => exact ⟨0, 0, Nat.zero_le _, rfl, rfl⟩
  case round =>
    obtain ⟨k, m, hk, rfl, rfl⟩ := hrel
    by_cases hkn : k < n2
    · obtain ⟨b, o, rfl, hbl, hcell⟩ := HX.out (by omega)
      obtain ⟨b2, o2, rfl, hbl2, hcell2⟩ := HX2.out (by omega)
      have hc1 := hcell k hkn
      have hd1 := hcell2 k hkn
      have hi1 : (0 : Int) ≤ (k : Int) ∧ (k : Int) < (n2 : Int) := by omega
      have hi2 : (k : Int) < (n2 : Int) := by omega
      clear hcell hcell2
      generalize l.getD k 0 = x at *
      go_wp2_with fail
      go_quiet (fail)
      go_wp2_with fail
      go_roundw
      case rel => exact ⟨k + 1, _, by omega, by go_num, rfl⟩
      case measure => simp [intOf]; omega
    · obtain rfl : k = n2 := by omega
      go_wp2_with fail
      go_ret
      exact ⟨rfl, _, rfl⟩
end Go.Proofs.YtnjdmijcoadidaaGreatDoor

namespace Go.Proofs.YtnjdmijcoadidaaGreatDoor
open Go.RowKit Go.Maps Pp

theorem below_drewN (w : World) (n : Nat) : Below w.heap.size w (w.drewN n) := ⟨rfl, rfl, rfl, Nat.le_refl _, fun _ _ => rfl⟩
theorem bel_then {w V V' : World} {B : Nat} (h : Below B w V) (hV : Below V.heap.size V V') (hB : B ≤ V.heap.size) : Below B w V' := h.trans (hV.mono hB)
set_option maxRecDepth 100000 in
set_option maxHeartbeats 3200000 in
theorem equalW_any {w : World} {v1 v2 : Value} {r : List (Int × Nat)} (h1 : RowW w v1 r) (h2 : RowW w v2 r) :
    Calls Tryz.prog 97 #[v1, v2] w fun e w' => e = .returned (.bool true) ∧ ∃ n, w' = w.drewN n := by
  obtain ⟨a1, k1, rfl, hc1, hm1⟩ := h1.slice
  obtain ⟨a2, k2, rfl, hc2, hm2⟩ := h2.slice
  have H1 := Lib.hid h1
  have H2 := Lib.hid h2
  obtain ⟨n, hn⟩ : ∃ n, n = r.length := ⟨_, rfl⟩
  have HN := Lib.hid hn
  rw [← hn] at hc1 hc2 H1 H2 ⊢
  unfold maxLen at hm1
  clear h1 h2 hn hm2
  go_enter Tryz.func97, Tryz.ntmps97
  go_wp2_with fail
  go_loopw [13] (fun i wr => ∃ (k m : Nat), k ≤ n ∧ i = .int .i64 k ∧ wr = w.drewN m) (fun i _ => n - (intOf i).toNat)
  case atStart => exact ⟨0, 0, Nat.zero_le _, rfl, rfl⟩
  case round =>
    obtain ⟨i, m, hi, rfl, rfl⟩ := hrel
    by_cases hin : i < n
    · obtain ⟨⟨xt, xk⟩, hx⟩ : ∃ x, r[i]? = some x := ⟨_, List.getElem?_eq_getElem (by rw [← HN.out]; exact hin)⟩
      obtain ⟨b1, rfl, -, -, -, hb1, -⟩ := H1.out.addr (by rw [← HN.out]; omega)
      obtain ⟨b2, rfl, -, -, -, hb2, -⟩ := H2.out.addr (by rw [← HN.out]; omega)
      obtain ⟨g1, g2⟩ := H1.out.cell hx
      obtain ⟨g3, g4⟩ := H2.out.cell hx
      simp only at g1 g2 g3 g4
      have hii : (0 : Int) ≤ (i : Int) ∧ (i : Int) < (n : Int) := by omega
      clear hx hb1 hb2
      go_wp2_with fail
      go_quiet (fail)
      go_wp2_with fail
      go_roundw
      case rel => exact ⟨i + 1, _, by omega, by go_num, rfl⟩
      case measure => simp [intOf]; omega
    · obtain rfl : i = n := by omega
      have hnn : ¬ (i : Int) < (i : Int) := by omega
      go_wp2_with fail
      go_ret
      exact ⟨rfl, _, rfl⟩
theorem cellsP_at : ∀ (l : List Sn) (i : Nat) (x : Sn), l[i]? = some x → (cellsP l)[i * 5]? = some (.int .i64 (x.c.size : Int)) ∧ (cellsP l)[i * 5 + 1]? = some x.vn ∧ (cellsP l)[i * 5 + 2]? = some (.bool x.c.shut) ∧ (cellsP l)[i * 5 + 3]? = some x.u1 ∧ (cellsP l)[i * 5 + 4]? = some x.u2 := by
  intro l
  induction l with
  | nil => intro i x h; cases h
  | cons p r ih =>
    intro i x h
    have e : cellsP (p :: r) = .int .i64 (p.c.size : Int) :: p.vn :: .bool p.c.shut :: p.u1 :: p.u2 :: cellsP r := rfl
    cases i with
    | zero => cases h; exact ⟨rfl, rfl, rfl, rfl, rfl⟩
    | succ i =>
      have := ih i x (by simpa using h)
      rw [e]
      refine ⟨?_, ?_, ?_, ?_, ?_⟩
      · rw [show (i + 1) * 5 = i * 5 + 1 + 1 + 1 + 1 + 1 by omega]; simpa using this.1
      · rw [show (i + 1) * 5 + 1 = i * 5 + 1 + 1 + 1 + 1 + 1 + 1 by omega]; simpa using this.2.1
      · rw [show (i + 1) * 5 + 2 = i * 5 + 2 + 1 + 1 + 1 + 1 + 1 by omega]; simpa using this.2.2.1
      · rw [show (i + 1) * 5 + 3 = i * 5 + 3 + 1 + 1 + 1 + 1 + 1 by omega]; simpa using this.2.2.2.1
      · rw [show (i + 1) * 5 + 4 = i * 5 + 4 + 1 + 1 + 1 + 1 + 1 by omega]; simpa using this.2.2.2.2
/-- What is to be seen of a channel, to be read. -/
structure ReadC (w : World) (a0 a1 a2 : Option Addr) (k0 k1 k2 : Nat) (c : Ch) : Prop where
  nums : IntsAt w (.slice a0 c.nums.length k0) c.nums
  sends : RowW w (.slice a1 c.sends.length k1) c.sends
  recvs : RowW w (.slice a2 c.recvs.length k2) c.recvs
theorem ReadC.below {w w' : World} {a0 a1 a2 : Option Addr} {k0 k1 k2 : Nat} {c : Ch} (h : ReadC w a0 a1 a2 k0 k1 k2 c) (hb : Below w.heap.size w w') : ReadC w' a0 a1 a2 k0 k1 k2 c := by
  have hk := Keeps.of_new (S := fun _ => False) hb
  exact ⟨h.nums.keeps hk fun _ _ => id, h.sends.keeps hk fun _ _ => id, h.recvs.keeps hk fun _ _ => id⟩
def aggC (a0 a1 a2 : Option Addr) (k0 k1 k2 : Nat) (c : Ch) : Array Value := #[.int .i64 (c.size : Int), .slice a0 c.nums.length k0, .bool c.shut, .slice a1 c.sends.length k1, .slice a2 c.recvs.length k2]
/-- All that was looked at, to be read whole. -/
def ReadP (w : World) (v : Value) (chs : List Ch) : Prop :=
  ∃ ao cap, v = .slice ao chs.length cap ∧ chs.length ≤ cap ∧ cap ≤ maxLen ∧ (0 < chs.length → ∃ g, ao = some ⟨g, 0, none⟩ ∧ g < w.heap.size ∧ ∀ (i : Nat) c, chs[i]? = some c → ∃ a0 k0 a1 k1 a2 k2, (∀ j u, (aggC a0 a1 a2 k0 k1 k2 c)[j]? = some u → w.cell? ⟨g, i * 5 + j, none⟩ = some u) ∧ ReadC w a0 a1 a2 k0 k1 k2 c)
theorem readP_of {w : World} {B : Nat} {v : Value} {L : List Sn} {chs : List Ch} (hm : L.map Sn.c = chs) (h : Looked w B v L) : ReadP w v chs := by
  have hr := h.row
  have hl : L.length = chs.length := by rw [← hm, List.length_map]
  rcases h.row.2 with ⟨rfl, h0⟩ | ⟨g, cap, cur, rfl, hb, hg, h3, h4, h5, h6⟩
  · exact ⟨none, 0, by rw [← hl, h0], by omega, Nat.zero_le _, fun h => by omega⟩
  · refine ⟨_, _, by rw [hl], by omega, h4, fun _ => ⟨g, rfl, (Array.getElem?_eq_some_iff.1 hg).1, fun i c hc => ?_⟩⟩
    rw [← hm, List.getElem?_map] at hc
    obtain ⟨x, hx, rfl⟩ := Option.map_eq_some_iff.1 hc
    obtain ⟨e1, e2, e5, e3, e4⟩ := cellsP_at L i x hx
    have hs := h.seen x (List.mem_of_getElem? hx)
    obtain ⟨a0, k0, e0⟩ := OwnI.slice hs.nums
    obtain ⟨a1, k1, u1⟩ := own_slice hs.sends
    obtain ⟨a2, k2, u2⟩ := own_slice hs.recvs
    have f1 := World.ownsRow.cells hr (g := g) rfl _ _ e1
    have f2 := World.ownsRow.cells hr (g := g) rfl _ _ e2
    have f5 := World.ownsRow.cells hr (g := g) rfl _ _ e5
    have f3 := World.ownsRow.cells hr (g := g) rfl _ _ e3
    have f4 := World.ownsRow.cells hr (g := g) rfl _ _ e4
    rw [addr_addP, Nat.zero_add] at f1 f2 f3 f4 f5
    have hn := hs.nums.ints
    have h1 := own_lower hs.sends (Nat.zero_le _)
    have h2 := own_lower hs.recvs (Nat.zero_le _)
    rw [e0] at f2 hn
    rw [u1] at f3 h1
    rw [u2] at f4 h2
    refine ⟨a0, k0, a1, k1, a2, k2, fun j u hu => ?_, hn, h1, h2⟩
    rcases j with _ | _ | _ | _ | _ | j
    · cases hu; exact f1
    · cases hu; exact f2
    · cases hu; exact f5
    · cases hu; exact f3
    · cases hu; exact f4
    · simp [aggC] at hu
theorem ReadP.below {w w' : World} {v : Value} {chs : List Ch} (h : ReadP w v chs) (hb : Below w.heap.size w w') : ReadP w' v chs := by
  obtain ⟨ao, cap, hv, h1, h2, h3⟩ := h
  refine ⟨ao, cap, hv, h1, h2, fun h0 => ?_⟩
  obtain ⟨g, h4, h5, h6⟩ := h3 h0
  refine ⟨g, h4, Nat.lt_of_lt_of_le h5 hb.size, fun i c hc => ?_⟩
  obtain ⟨a0, k0, a1, k1, a2, k2, e1, e2⟩ := h6 i c hc
  exact ⟨a0, k0, a1, k1, a2, k2, fun j u hu => (hb.cell (p := ⟨g, i * 5 + j, none⟩) h5).trans (e1 j u hu), e2.below hb⟩
theorem alloc_cells (w : World) (arr : Array Value) (t : TypeId) : ∀ (j : Nat) (u : Value), arr[j]? = some u → (w.alloc (.cells arr t)).cell? ⟨w.heap.size, j, none⟩ = some u := fun j u hu => by
  rw [World.cell?_alloc_at _ _ _ _ rfl]; exact hu
set_option maxRecDepth 100000 in
set_option maxHeartbeats 6400000 in
theorem samePipe_any {w : World} {a0 a1 a2 b0 b1 b2 : Option Addr} {k0 k1 k2 l0 l1 l2 : Nat} {c : Ch} (h1 : ReadC w a0 a1 a2 k0 k1 k2 c) (h2 : ReadC w b0 b1 b2 l0 l1 l2 c) :
    Calls Tryz.prog 64 #[.agg (aggC a0 a1 a2 k0 k1 k2 c), .agg (aggC b0 b1 b2 l0 l1 l2 c)] w fun e w' => e = .returned (.bool true) ∧ Below w.heap.size w w' := by
  obtain ⟨sz, nums, sh, ss, rs⟩ := c
  unfold aggC
  simp only
  obtain ⟨w1, hw1⟩ : ∃ w1, w1 = w.alloc (.cells #[.int .i64 (sz : Int), .slice a0 nums.length k0, .bool sh, .slice a1 ss.length k1, .slice a2 rs.length k2] 76) := ⟨_, rfl⟩
  obtain ⟨w2, hw2⟩ : ∃ w2, w2 = w1.alloc (.cells #[.int .i64 (sz : Int), .slice b0 nums.length l0, .bool sh, .slice b1 ss.length l1, .slice b2 rs.length l2] 76) := ⟨_, rfl⟩
  have hs1 : w1.heap.size = w.heap.size + 1 := by rw [hw1]; simp
  have hb2 : Below w.heap.size w w2 := by rw [hw2, hw1]; exact ((Below.refl _ w).alloc (Nat.le_refl _) _).alloc (by simp) _
  have hx : ∀ (j : Nat) (u : Value), (#[.int .i64 (sz : Int), .slice a0 nums.length k0, .bool sh, .slice a1 ss.length k1, .slice a2 rs.length k2] : Array Value)[j]? = some u → w2.cell? ⟨w.heap.size, j, none⟩ = some u := fun j u hu => by
    rw [hw2, World.cell?_alloc_past _ _ _ (by show w.heap.size < w1.heap.size; omega), hw1]; exact alloc_cells _ _ _ j u hu
  have hy : ∀ (j : Nat) (u : Value), (#[.int .i64 (sz : Int), .slice b0 nums.length l0, .bool sh, .slice b1 ss.length l1, .slice b2 rs.length l2] : Array Value)[j]? = some u → w2.cell? ⟨w1.heap.size, j, none⟩ = some u := fun j u hu => by
    rw [hw2]; exact alloc_cells _ _ _ j u hu
  have x0 := hx 0 _ rfl
  have x1 := hx 1 _ rfl
  have x2 := hx 2 _ rfl
  have x3 := hx 3 _ rfl
  have x4 := hx 4 _ rfl
  have y0 := hy 0 _ rfl
  have y1 := hy 1 _ rfl
  have y2 := hy 2 _ rfl
  have y3 := hy 3 _ rfl
  have y4 := hy 4 _ rfl
  rw [hs1] at y0 y1 y2 y3 y4
  have hr1 := h1.below hb2
  have hr2 := h2.below hb2
  have HX : Hid (∀ V, Below w2.heap.size w2 V → (V.cell? ⟨w.heap.size, 1, none⟩ = some (.slice a0 nums.length k0) ∧ V.cell? ⟨w.heap.size, 3, none⟩ = some (.slice a1 ss.length k1) ∧ V.cell? ⟨w.heap.size, 4, none⟩ = some (.slice a2 rs.length k2)) ∧ V.cell? ⟨w.heap.size + 1, 1, none⟩ = some (.slice b0 nums.length l0) ∧ V.cell? ⟨w.heap.size + 1, 3, none⟩ = some (.slice b1 ss.length l1) ∧ V.cell? ⟨w.heap.size + 1, 4, none⟩ = some (.slice b2 rs.length l2)) := Lib.hid fun V hV => by
    have hs2 : w2.heap.size = w.heap.size + 2 := by rw [hw2]; simp [hs1]
    have hl : w.heap.size < w2.heap.size := by omega
    have hl' : w.heap.size + 1 < w2.heap.size := by omega
    exact ⟨⟨(hV.cell (p := ⟨w.heap.size, 1, none⟩) hl).trans x1, (hV.cell (p := ⟨w.heap.size, 3, none⟩) hl).trans x3, (hV.cell (p := ⟨w.heap.size, 4, none⟩) hl).trans x4⟩, (hV.cell (p := ⟨w.heap.size + 1, 1, none⟩) hl').trans y1, (hV.cell (p := ⟨w.heap.size + 1, 3, none⟩) hl').trans y3, (hV.cell (p := ⟨w.heap.size + 1, 4, none⟩) hl').trans y4⟩
  have HE : Hid (∀ V, Below w2.heap.size w2 V → Calls Tryz.prog 33 #[.slice a0 nums.length k0, .slice b0 nums.length l0] V fun e V' => e = .returned (.bool true) ∧ Below w2.heap.size w2 V') := Lib.hid fun V hV =>
    (equalI_any _ _ nums V (hr1.below hV).nums (hr2.below hV).nums).mono fun e V' ⟨h5, n, h6⟩ => ⟨h5, by rw [h6]; exact hV.trans ((below_drewN V n).mono hV.size)⟩
  have HSE : Hid (∀ V, Below w2.heap.size w2 V → Calls Tryz.prog 97 #[.slice a1 ss.length k1, .slice b1 ss.length l1] V fun e V' => e = .returned (.bool true) ∧ Below w2.heap.size w2 V') := Lib.hid fun V hV =>
    (equalW_any (hr1.below hV).sends (hr2.below hV).sends).mono fun e V' ⟨h5, n, h6⟩ => ⟨h5, by rw [h6]; exact hV.trans ((below_drewN V n).mono hV.size)⟩
  have HRE : Hid (∀ V, Below w2.heap.size w2 V → Calls Tryz.prog 97 #[.slice a2 rs.length k2, .slice b2 rs.length l2] V fun e V' => e = .returned (.bool true) ∧ Below w2.heap.size w2 V') := Lib.hid fun V hV =>
    (equalW_any (hr1.below hV).recvs (hr2.below hV).recvs).mono fun e V' ⟨h5, n, h6⟩ => ⟨h5, by rw [h6]; exact hV.trans ((below_drewN V n).mono hV.size)⟩
  have HB20 : Hid (Below w2.heap.size w2 w2) := Lib.hid (Below.refl _ _)
  have HB2 : Hid (∀ V, Below w2.heap.size w2 V → Below w.heap.size w V) := Lib.hid fun V hV => hb2.trans (hV.mono hb2.size)
  have z1 : ((sz : Int) == (sz : Int)) = true := by simp
  have z2 : (sh == sh) = true := by simp
  have hw2' := hw2
  rw [hw1] at hw2'
  clear h1 h2 hx hy hr1 hr2 hb2 hw1 hw2 hs1
  go_enter Tryz.func64, Tryz.ntmps64
  go_upto_region 1 with fail
  rw [← hw2']
  clear hw2'
  generalize hab : w.heap.size = ab at *
  have HAB := Lib.hid hab
  clear hab
  go_wp2_with fail
  refine (HE.out _ HB20.out).mono ?_
  rintro e V3 ⟨rfl, hv3⟩
  clear x0 x1 x2 x3 x4 y0 y1 y2 y3 y4
  have HV3 := Lib.hid hv3
  obtain ⟨⟨x1, x3, x4⟩, y1, y3, y4⟩ := HX.out _ hv3
  clear hv3
  go_wp2_with fail
  refine (HSE.out _ HV3.out).mono ?_
  rintro e V4 ⟨rfl, hv4⟩
  clear x1 x3 x4 y1 y3 y4
  have HV4 := Lib.hid hv4
  obtain ⟨⟨x1, x3, x4⟩, y1, y3, y4⟩ := HX.out _ hv4
  clear hv4
  go_wp2_with fail
  refine (HRE.out _ HV4.out).mono ?_
  rintro e V5 ⟨rfl, hv5⟩
  have HV5 := Lib.hid (HB2.out _ hv5)
  clear hv5
  go_wp2_with fail
  go_ret
  exact ⟨rfl, by rw [HAB.out]; exact HV5.out⟩
end Go.Proofs.YtnjdmijcoadidaaGreatDoor
