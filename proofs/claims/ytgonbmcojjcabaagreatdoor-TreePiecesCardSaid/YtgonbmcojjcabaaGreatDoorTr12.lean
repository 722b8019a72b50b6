/-
  Texts of one proof, in build order: What chapter 8's laws share: what they want of the tables, long, read. | append(own, other...) of rows of any size, where the other row is somebody's own too (nil, too), as one step of a region that draws. Of no chapter. | Two programs' rows, put one behind the other: what holds at each step. | What the laws hold up of one program: its tree, and how it is written. | Two programs as they lie where they are put together. | The walk of the law TreePieces. | What the variables that chapter 7's laws list give their walks. | What the variables that chapter 8's laws list give their walks.
-/
import Derived.Test.YtgonbmcojjcabaaGreatDoorTr11
import Derived.Deep.RegionHeld
import Derived.Deep.DeepCutAuto
import Derived.Deep.CutRange
import Derived.Deep.CutBlock
import Derived.Test.YtgonbmcojjcabaaGreatDoorTie
import Derived.PinnedBridge
import Derived.LaidMore
import Derived.Lib.LaidTab
import Derived.Lib.LaidU8
import Derived.MakeChecks
namespace Go.Proofs.YtgonbmcojjcabaaGreatDoor
open Go.RowKit Lx Tr
variable {w w' : World}

/-- What the laws want of the tables. -/
structure LawEnv (w : World) : Prop where
  tree : TreeEnv w
  pow : PowT w
  pb : 9 < w.heap.size
theorem LawEnv.penv (h : LawEnv w) : PEnv w.heap.size w := ⟨h.tree.signs, h.tree.b1, h.pow, h.pb, h.tree.kinds, h.tree.b2⟩
theorem LawEnv.below (h : LawEnv w) (hb : Below w.heap.size w w') : LawEnv w' := by
  have hl := h.tree.lex.below hb (Nat.le_refl _)
  have hp := h.penv.below hb
  have hz := hb.size
  exact ⟨⟨⟨hl.tabs, hl.errR, hl.sgs, by have := hl.b1; omega, by have := hl.b2; omega, by have := hl.b3; omega, by have := hl.b4; omega⟩, hp.signs, hp.kinds, by have := hp.b1; omega, by have := hp.b3; omega⟩, hp.pow, by have := hp.b2; omega⟩
theorem err_isNone (w : World) : (binOp BinOp.eql 33 .nilIface .nilIface).run Tryz.prog w = .ok (.bool true) w := by kernel_rfl
theorem err_isAt (p : Addr) (w : World) : (binOp BinOp.eql 33 (.iface 107 (.pointer (some p))) .nilIface).run Tryz.prog w = .ok (.bool false) w := by kernel_rfl

theorem longT_any (s : ByteArray) (w : World) : Calls Tryz.prog 39 #[.string s] w fun e w' => e = .returned (.bool (decide (1500 < s.size))) ∧ w = w' := by
  go_enter Tryz.func39, Tryz.ntmps39
  go_wp2_with fail
  go_ret
  refine ⟨?_, rfl⟩
  have e : ((1500 : Int) < (s.size : Int)) ↔ 1500 < s.size := by omega
  show Ending.returned (Value.bool (decide ((1500 : Int) < (s.size : Int)))) = _
  rw [decide_eq_decide.2 e]

/-- What read answers. -/
def ReadSays (w w' : World) (s : ByteArray) (e : Ending) : Prop :=
  (∃ ts src m gv fv, s.size ≤ 1500 ∧ lx s.data.toList 0 false = (ts, none) ∧ Ev (fun f => Tr.program ⟨ts, s.size⟩ f ⟨[], []⟩ 0) (.ok src m) ∧ e = .returned (.tuple #[.agg #[gv, fv], .bool true]) ∧ SrcO w' w.heap.size src gv fv) ∨ e = .returned (.tuple #[.agg #[.slice none 0 0, .slice none 0 0], .bool false])

/-- What Parse answers, of a text that is not too long: in two forms. -/
theorem parse_two {s : ByteArray} {e : Ending} (hs : s.size ≤ 4000) (h : ParseSays w w' s e) : (∃ ts src m gv fv, lx s.data.toList 0 false = (ts, none) ∧ Ev (fun f => Tr.program ⟨ts, s.size⟩ f ⟨[], []⟩ 0) (.ok src m) ∧ e = .returned (.tuple #[.agg #[gv, fv], .nilIface]) ∧ SrcO w' w.heap.size src gv fv) ∨
    ∃ b, e = .returned (.tuple #[.agg #[.slice none 0 0, .slice none 0 0], .iface 107 (.pointer (some ⟨b, 0, none⟩))]) := by
  unfold ParseSays at h
  rw [if_neg (by omega)] at h
  split at h
  · obtain ⟨x, rfl, b, rfl, _⟩ := h
    exact Or.inr ⟨b, rfl⟩
  · rename_i ts hts
    obtain ⟨r, hev, hr⟩ := h
    cases r with
    | out => exact hr.elim
    | bad k a =>
      obtain ⟨x, rfl, b, rfl, _⟩ := hr
      exact Or.inr ⟨b, rfl⟩
    | ok src m =>
      obtain ⟨gv, fv, rfl, hs⟩ := hr
      exact Or.inl ⟨ts, src, m, gv, fv, hts, hev, rfl, hs⟩

set_option maxRecDepth 100000 in
set_option maxHeartbeats 3200000 in
theorem read_any (s : ByteArray) (w : World) (hE : LawEnv w) : Calls Tryz.prog 17 #[.string s] w fun e w' => ReadSays w w' s e ∧ Below w.heap.size w w' := by
  have hb0 := fresh_alloc w #[.slice none 0 0, .slice none 0 0] 26
  have HL := Lib.hid (longT_any s (w.alloc (.cells #[.slice none 0 0, .slice none 0 0] 26)))
  have HP := Lib.hid (treeParse_any s (w.alloc (.cells #[.slice none 0 0, .slice none 0 0] 26)) (hE.below hb0).tree)
  have HB0 := Lib.hid hb0
  clear hE hb0
  go_enter Tryz.func17, Tryz.ntmps17
  go_wp2_with fail
  refine HL.out.mono ?_
  rintro e w1 ⟨rfl, rfl⟩
  by_cases hs : 1500 < s.size
  · rw [decide_eq_true hs]
    clear hs
    go_wp2_with fail
    refine bodyPost_ret (v := .tuple #[noSrc, .bool false]) (by simp [results, Tryz.results17, go_sem]; rfl) rfl ?_
    exact ⟨Or.inr rfl, HB0.out⟩
  · rw [decide_eq_false hs]
    have HS : Hid (s.size ≤ 1500) := Lib.hid (by omega)
    clear hs
    go_wp2_with fail
    refine HP.out.mono ?_
    rintro e w2 ⟨hsay, hb2⟩
    have hz : w.heap.size < w2.heap.size := Nat.lt_of_lt_of_le (by simp) hb2.size
    have c0 : w2.cell? ⟨w.heap.size, 0, none⟩ = some (.slice none 0 0) := by rw [hb2.cell (p := ⟨w.heap.size, 0, none⟩) (by simp)]; exact cell_new _ _ _ 0 _ rfl (by simp)
    have c1 : w2.cell? ⟨w.heap.size, 1, none⟩ = some (.slice none 0 0) := by rw [hb2.cell (p := ⟨w.heap.size, 1, none⟩) (by simp)]; exact cell_new _ _ _ 1 _ rfl (by simp)
    have z0 : w2.frozen? ⟨w.heap.size, 0, none⟩ = false := by rw [hb2.frozen (p := ⟨w.heap.size, 0, none⟩) (by simp)]; exact World.frozen?_alloc_new _ _ _ _
    have z1 : w2.frozen? ⟨w.heap.size, 1, none⟩ = false := by rw [hb2.frozen (p := ⟨w.heap.size, 1, none⟩) (by simp)]; exact World.frozen?_alloc_new _ _ _ _
    have HB2 := Lib.hid (HB0.out.trans (hb2.mono HB0.out.size))
    have HZ := Lib.hid hz
    rcases parse_two (by have := HS.out; omega) hsay with ⟨ts, src, m, gv, fv, hts, hev, rfl, hsrc⟩ | ⟨b, rfl⟩
    · obtain ⟨⟨ga, gl, gc, rfl⟩, fa, fl, fc, rfl⟩ := hsrc.form
      have HTS := Lib.hid hts
      have HEV := Lib.hid hev
      have HSRC := Lib.hid hsrc
      clear hsay hb2 hts hev hsrc
      have hE1 := err_isNone
      go_wp2_with fail
      go_region
      go_wp2_with fail
      try simp only [Exit.inBlock, Exit.then]
      have hks : Keeps (fun k => k = w.heap.size) w2 ((((w2.setCell ⟨w.heap.size, 0, none⟩ (.slice ga gl gc)).setCell ⟨w.heap.size, 1, none⟩ (.slice fa fl fc)).alloc (.cells #[.slice ga gl gc, .slice fa fl fc] 26)).drew) := ((own2 (w := w2)).alloc _).drew
      have e0 : (((w2.setCell ⟨w.heap.size, 0, none⟩ (.slice ga gl gc)).setCell ⟨w.heap.size, 1, none⟩ (.slice fa fl fc)).alloc (.cells #[.slice ga gl gc, .slice fa fl fc] 26)).cell? ⟨w.heap.size, 0, none⟩ = some (.slice ga gl gc) := cell_more (by rw [World.cell?_setCell_other _ _ _ _ (fun e => by injection e with _ e _; cases e)]; exact World.cell?_setCell_same _ _ _ c0)
      have e1 : (((w2.setCell ⟨w.heap.size, 0, none⟩ (.slice ga gl gc)).setCell ⟨w.heap.size, 1, none⟩ (.slice fa fl fc)).alloc (.cells #[.slice ga gl gc, .slice fa fl fc] 26)).cell? ⟨w.heap.size, 1, none⟩ = some (.slice fa fl fc) := cell_more (World.cell?_setCell_same _ _ _ (by rw [World.cell?_setCell_other _ _ _ _ (fun e => by injection e with _ e _; cases e)]; exact c1))
      refine bodyPost_ret (v := .tuple #[.agg #[.slice ga gl gc, .slice fa fl fc], .bool true]) (by simp [results, Tryz.results17, go_sem, e0, e1]) rfl ?_
      have hz0 := HZ.out
      exact ⟨Or.inl ⟨ts, src, m, _, _, HS.out, HTS.out, HEV.out, rfl, SrcO.mono (B := (w.alloc (.cells #[.slice none 0 0, .slice none 0 0] 26)).heap.size) (by simp) (HSRC.out.keeps hks (fun b e e2 => by have h9 : b = w.heap.size := e2; have h8 : w.heap.size + 1 ≤ b := (by simpa using e); omega))⟩, HB2.out.trans (hks.below (by omega) (fun k _ e => by have h9 : k = w.heap.size := e; omega))⟩
    · clear hsay hb2
      have hE1 := err_isAt ⟨b, 0, none⟩
      go_wp2_with fail
      go_region
      go_wp2_with fail
      try simp only [Exit.inBlock, Exit.then]
      have hks : Keeps (fun k => k = w.heap.size) w2 ((((w2.setCell ⟨w.heap.size, 0, none⟩ (.slice none 0 0)).setCell ⟨w.heap.size, 1, none⟩ (.slice none 0 0)).alloc (.cells #[.slice none 0 0, .slice none 0 0] 26)).drew) := ((own2 (w := w2)).alloc _).drew
      have e0 : (((w2.setCell ⟨w.heap.size, 0, none⟩ (.slice none 0 0)).setCell ⟨w.heap.size, 1, none⟩ (.slice none 0 0)).alloc (.cells #[.slice none 0 0, .slice none 0 0] 26)).cell? ⟨w.heap.size, 0, none⟩ = some (.slice none 0 0) := cell_more (by rw [World.cell?_setCell_other _ _ _ _ (fun e => by injection e with _ e _; cases e)]; exact World.cell?_setCell_same _ _ _ c0)
      have e1 : (((w2.setCell ⟨w.heap.size, 0, none⟩ (.slice none 0 0)).setCell ⟨w.heap.size, 1, none⟩ (.slice none 0 0)).alloc (.cells #[.slice none 0 0, .slice none 0 0] 26)).cell? ⟨w.heap.size, 1, none⟩ = some (.slice none 0 0) := cell_more (World.cell?_setCell_same _ _ _ (by rw [World.cell?_setCell_other _ _ _ _ (fun e => by injection e with _ e _; cases e)]; exact c1))
      refine bodyPost_ret (v := .tuple #[.agg #[.slice none 0 0, .slice none 0 0], .bool false]) (by simp [results, Tryz.results17, go_sem, e0, e1]) rfl ?_
      have hz0 := HZ.out
      exact ⟨Or.inr rfl, HB2.out.trans (hks.below (by omega) (fun k _ e => by have h9 : k = w.heap.size := e; omega))⟩
end Go.Proofs.YtgonbmcojjcabaaGreatDoor

namespace Go.Proofs.YtgonbmcojjcabaaGreatDoor
open Go.RowKit

theorem ownsRow_form {w : World} {base : Nat} {e : TypeId} {size : Nat} {v : Value} {n : Nat} {xs : List Value} (h : w.ownsRow base e size v n xs) : ∃ ao cap, v = .slice ao n cap := by
  rcases h.2 with ⟨e1, e2⟩ | ⟨g, cap, cur, e1, _⟩
  · exact ⟨none, 0, by rw [e1, e2]⟩
  · exact ⟨_, _, e1⟩
theorem step_appendR {P : Program} {ops : Array Oper} {o : Oper} {a : Act} {w : World} {K : Act → World → Prop} {Q : Exit → Act → World → Prop} {F : Prop}
    (hg : o.guard = none) (s x : Operand) (t e : TypeId) (hop : o.op = Op.call { callee := Callee.builtin Builtin.append, args := #[s, x], argTypes := #[t, t] })
    (i : TypeInfo) (z : Value) (size bytes : Nat) (h1 : P.underlying t = some (.slice e)) (h2 : P.info? e = some i) (h3 : i.zero = some z) (h4 : i.size = size) (h5 : i.bytes = bytes) (h6 : z.cells.size = size) (h7 : 0 < size)
    (base base2 : Nat) (v : Value) (n : Nat) (xs : List Value) (hown : w.ownsRow base e size v n xs) (u : Value) (m : Nat) (ys : List Value) (hu : w.ownsRow base2 e size u m ys) (h1c : ∀ y ∈ ys, y.oneCell' = true)
    (hn : n + m ≤ maxLen) (hbytes : (n + m) * bytes ≤ 140737488355328) (hbase : base ≤ w.heap.size) (hs : a.eval s = v) (hx : a.eval x = u) (hnil : n = 0 → v = .slice none 0 0)
    (hK : ∀ ao' cap' w', w'.ownsRow base e size (.slice ao' (n + m) cap') (n + m) (xs ++ ys) → w.grownBy w' v.ownBlock → ((Value.slice ao' (n + m) cap').ownBlock = v.ownBlock ∨ (Value.slice ao' (n + m) cap').ownBlock = some w.heap.size) → (n + m = 0 → Value.slice ao' (n + m) cap' = .slice none 0 0) → K (a.put o.dst (.slice ao' (n + m) cap')) w') :
    if Region.wanted o (yielded ops a.tmps) = true then Oper.wp P o a w K Q else F := by
  have hw : Region.wanted o (yielded ops a.tmps) = true := by simp [Region.wanted, hg]
  rw [if_pos hw]
  rcases hu.2 with ⟨rfl, h0⟩ | ⟨g, cap, cur, rfl, _⟩
  · subst h0
    have hy : ys = [] := List.eq_nil_of_length_eq_zero (by have := hu.1; simpa using this)
    subst hy
    obtain ⟨ao', cap', e0⟩ := ownsRow_form hown
    have hr := run_append_owned_none (P := P) (w := w) base t o.type e i size h1 h2 v n xs hown
    unfold Oper.wp
    simp [execOp, hop, resolve, invoke, builtin, hs, hx, hr, Result.andThen]
    subst e0
    exact hK ao' cap' w (by rw [List.append_nil]; exact hown) ⟨rfl, rfl, rfl, Nat.le_refl _, fun _ _ _ => rfl⟩ (Or.inl rfl) hnil
  · obtain ⟨v', w', hrun, r1, r2, r3, r4⟩ := run_append_own_at (P := P) w base t o.type e i z size bytes h1 h2 h3 h4 h5 h6 h7 v n xs hown ⟨g, 0, none⟩ m cap ys hu.1 (World.ownsRow.cells hu (g := g) rfl) h1c hn hbytes hbase
    obtain ⟨ao', cap', rfl⟩ := ownsRow_form r1
    unfold Oper.wp
    simp [execOp, hop, resolve, invoke, builtin, hs, hx, hrun, Result.andThen]
    exact hK _ _ _ r1 r2 r4 (fun h0 => r3.2 ⟨hnil (by omega), by omega⟩)
end Go.Proofs.YtgonbmcojjcabaaGreatDoor

namespace Go.Proofs.YtgonbmcojjcabaaGreatDoor
open Go.RowKit Lx Tr
variable {w w' : World}

theorem SrcO.toG {B : Nat} {G : Nat → Prop} {src : Src} {gv fv : Value} (h : SrcO w B src gv fv) (hG : ∀ b, b < w.heap.size → B ≤ b → G b) : SrcF w G src gv fv := by
  obtain ⟨fvals, h2, h3, h4, h5, h6, h7⟩ := h
  refine ⟨?_, ?_⟩
  · by_cases hz : src.globals = []
    · exact Or.inl ⟨h5 hz, hz⟩
    · have hpos : 0 < src.globals.length := List.length_pos_iff.2 hz
      rcases h2.2 with ⟨_, e⟩ | ⟨g, cap, cur, e1, e2, e5, e3, e4, _⟩
      · omega
      · refine Or.inr ⟨g, cap, e1, e3, e4, hG g (Array.getElem?_eq_some_iff.1 e5).1 e2, hpos, fun i p hi => ?_⟩
        obtain ⟨a1, a2⟩ := glCells_at src.globals i p hi
        have hin := (List.getElem?_eq_some_iff.1 hi).1
        subst e1
        rw [World.ownsRow.cellAt h2 (i * 2) (by omega), World.ownsRow.cellAt h2 (i * 2 + 1) (by omega)]
        exact ⟨a1, a2⟩
  · by_cases hz : src.funcs = []
    · exact Or.inl ⟨h6 hz, hz⟩
    · have hpos : 0 < src.funcs.length := List.length_pos_iff.2 hz
      rcases h3.2 with ⟨_, e⟩ | ⟨g, cap, cur, e1, e2, e5, e3, e4, _⟩
      · omega
      · refine Or.inr ⟨g, cap, e1, e3, e4, hG g (Array.getElem?_eq_some_iff.1 e5).1 e2, hpos, fun i p hi => ?_⟩
        subst e1
        have h8 := RowF.lies src.funcs fvals 0 (g := g) (fun j v hj => by
          rw [show 0 * 5 + j = j by omega, World.ownsRow.cellAt h3 j (by have := (List.getElem?_eq_some_iff.1 hj).1; have := h3.1; omega)]
          exact hj) (RowF.mono (fun b hb e => hG b hb e.1) _ _ h4) i p hi
        rw [Nat.zero_add] at h8
        exact h8
theorem glCells_app : ∀ (l m : List Gl), glCells (l ++ m) = glCells l ++ glCells m
  | [], _ => rfl
  | p :: l, m => by show _ ++ glCells (l ++ m) = (_ ++ glCells l) ++ glCells m; rw [glCells_app l m, List.append_assoc]
theorem RowF.app {F : Nat → Prop} : ∀ (l m : List Fu) (cs ds : List Value), RowF w F cs l → RowF w F ds m → RowF w F (cs ++ ds) (l ++ m)
  | [], m, cs, ds, h, h2 => by
    have : cs = [] := h
    subst this
    exact h2
  | s :: l, m, cs, ds, h, h2 => by
    obtain ⟨us, rest, e, h3, h4⟩ := h
    exact ⟨us, rest ++ ds, by rw [e, List.append_assoc], h3, RowF.app l m rest ds h4 h2⟩

/-- Two programs, as they lie ahead of it: x in the block b, in cells 0 and 1. -/
structure Two (W0 : World) (b B : Nat) (sx sy : Src) (gx fx gy fy : Value) (xs ys : List Value) : Prop where
  qgx : W0.ownsRow B 64 2 gx sx.globals.length (glCells sx.globals)
  qfx : W0.ownsRow B 45 5 fx sx.funcs.length xs
  qgy : W0.ownsRow B 64 2 gy sy.globals.length (glCells sy.globals)
  qfy : W0.ownsRow B 45 5 fy sy.funcs.length ys
  rx : RowF W0 (fun k => B ≤ k ∧ k ≠ b ∧ k < W0.heap.size ∧ gx.ownBlock ≠ some k ∧ fx.ownBlock ≠ some k) xs sx.funcs
  ry : RowF W0 (fun k => B ≤ k ∧ k ≠ b ∧ k < W0.heap.size ∧ gx.ownBlock ≠ some k ∧ fx.ownBlock ≠ some k) ys sy.funcs
  ng : sx.globals.length = 0 → gx = .slice none 0 0
  nf : sx.funcs.length = 0 → fx = .slice none 0 0
  dx : ∀ k, gx.ownBlock = some k → k ≠ b ∧ fx.ownBlock ≠ some k ∧ gy.ownBlock ≠ some k ∧ fy.ownBlock ≠ some k
  df : ∀ k, fx.ownBlock = some k → k ≠ b ∧ gy.ownBlock ≠ some k ∧ fy.ownBlock ≠ some k
  dy : gy.ownBlock ≠ some b ∧ fy.ownBlock ≠ some b
  lt : b < W0.heap.size ∧ B ≤ W0.heap.size
  lg : sx.globals.length + sy.globals.length ≤ 8
  lf : sx.funcs.length + sy.funcs.length ≤ 12
/-- The rows at a step: rg, rf as they are by now, cg, cf what the cells hold; have the others been put behind? -/
structure RegJ (W0 : World) (b B : Nat) (sx sy : Src) (gx fx : Value) (xs ys : List Value) (pg pf : Bool) (rg rf cg cf : Value) (W : World) : Prop where
  kp : Keeps (fun k => k = b ∨ gx.ownBlock = some k ∨ fx.ownBlock = some k) W0 W
  c0 : W.cell? ⟨b, 0, none⟩ = some cg
  c1 : W.cell? ⟨b, 1, none⟩ = some cf
  z0 : W.frozen? ⟨b, 0, none⟩ = false
  z1 : W.frozen? ⟨b, 1, none⟩ = false
  og : W.ownsRow B 64 2 rg (sx.globals.length + if pg then sy.globals.length else 0) (glCells sx.globals ++ if pg then glCells sy.globals else [])
  of : W.ownsRow B 45 5 rf (sx.funcs.length + if pf then sy.funcs.length else 0) (xs ++ if pf then ys else [])
  eg : pg = false → rg = gx
  ef : pf = false → rf = fx
  hg : rg.ownBlock = gx.ownBlock ∨ ∃ k, rg.ownBlock = some k ∧ W0.heap.size ≤ k
  hf : rf.ownBlock = fx.ownBlock ∨ ∃ k, rf.ownBlock = some k ∧ W0.heap.size ≤ k
  ne : ∀ k, rg.ownBlock = some k → rf.ownBlock ≠ some k
  ng : (sx.globals.length + if pg then sy.globals.length else 0) = 0 → rg = .slice none 0 0
  nf : (sx.funcs.length + if pf then sy.funcs.length else 0) = 0 → rf = .slice none 0 0

variable {W0 W W' : World} {b B : Nat} {sx sy : Src} {gx fx gy fy rg rf cg cf : Value} {xs ys : List Value} {pg pf : Bool}
theorem Two.start (h : Two W0 b B sx sy gx fx gy fy xs ys) (c0 : W0.cell? ⟨b, 0, none⟩ = some gx) (c1 : W0.cell? ⟨b, 1, none⟩ = some fx) (z0 : W0.frozen? ⟨b, 0, none⟩ = false) (z1 : W0.frozen? ⟨b, 1, none⟩ = false) : RegJ W0 b B sx sy gx fx xs ys false false gx fx gx fx W0 :=
  ⟨Keeps.refl _ _, c0, c1, z0, z1, by simpa using h.qgx, by simpa using h.qfx, fun _ => rfl, fun _ => rfl, Or.inl rfl, Or.inl rfl, fun k e => (h.dx k e).2.1, by simpa using h.ng, by simpa using h.nf⟩
theorem RegJ.rowG (j : RegJ W0 b B sx sy gx fx xs ys pg pf rg rf cg cf W) (h : Two W0 b B sx sy gx fx gy fy xs ys) : W.ownsRow B 64 2 gy sy.globals.length (glCells sy.globals) :=
  j.kp.row h.qgy (fun k e s => by
    rcases s with rfl | s | s
    · exact h.dy.1 e
    · exact (h.dx k s).2.2.1 e
    · exact (h.df k s).2.1 e)
theorem RegJ.rowH (j : RegJ W0 b B sx sy gx fx xs ys pg pf rg rf cg cf W) (h : Two W0 b B sx sy gx fx gy fy xs ys) : W.ownsRow B 45 5 fy sy.funcs.length ys :=
  j.kp.row h.qfy (fun k e s => by
    rcases s with rfl | s | s
    · exact h.dy.2 e
    · exact (h.dx k s).2.2.2 e
    · exact (h.df k s).2.2 e)
theorem RegJ.bg (j : RegJ W0 b B sx sy gx fx xs ys pg pf rg rf cg cf W) (h : Two W0 b B sx sy gx fx gy fy xs ys) : ∀ k, rg.ownBlock = some k → k ≠ b := fun k e => by
  rcases j.hg with h1 | ⟨q, h1, h2⟩
  · exact (h.dx k (by rw [← h1]; exact e)).1
  · have := h.lt.1
    rw [h1] at e
    have := Option.some.inj e
    omega
theorem RegJ.bf (j : RegJ W0 b B sx sy gx fx xs ys pg pf rg rf cg cf W) (h : Two W0 b B sx sy gx fx gy fy xs ys) : ∀ k, rf.ownBlock = some k → k ≠ b := fun k e => by
  rcases j.hf with h1 | ⟨q, h1, h2⟩
  · exact (h.df k (by rw [← h1]; exact e)).1
  · have := h.lt.1
    rw [h1] at e
    have := Option.some.inj e
    omega
theorem RegJ.appG {v' : Value} (j : RegJ W0 b B sx sy gx fx xs ys false pf rg rf cg cf W) (h : Two W0 b B sx sy gx fx gy fy xs ys) (ho : W'.ownsRow B 64 2 v' (sx.globals.length + sy.globals.length) (glCells sx.globals ++ glCells sy.globals)) (hgr : W.grownBy W' rg.ownBlock)
    (hnew : v'.ownBlock = rg.ownBlock ∨ v'.ownBlock = some W.heap.size) (hnil : sx.globals.length + sy.globals.length = 0 → v' = .slice none 0 0) : RegJ W0 b B sx sy gx fx xs ys true pf v' rf cg cf W' := by
  have e0 := j.eg rfl
  have hk : Keeps (fun k => rg.ownBlock = some k) W W' := Keeps.of_grownBy hgr (fun k _ e => e)
  have hnb : ¬ rg.ownBlock = some b := fun e => j.bg h b e rfl
  have hs := j.kp.size
  have hlt := Nat.lt_of_lt_of_le h.lt.1 hs
  refine ⟨j.kp.trans (hk.mono (fun k _ e => Or.inr (Or.inl (by rw [← e0]; exact e)))), hk.cell_of j.c0 hnb, hk.cell_of j.c1 hnb, by rw [hk.frozen (p := ⟨b, 0, none⟩) hlt hnb]; exact j.z0, by rw [hk.frozen (p := ⟨b, 1, none⟩) hlt hnb]; exact j.z1, by simpa using ho, hk.row j.of (fun k e e2 => j.ne k e2 e), fun e => Bool.noConfusion e, j.ef, ?_, j.hf, ?_, by simpa using hnil, j.nf⟩
  · rcases hnew with e | e
    · rw [e, e0]; exact Or.inl rfl
    · exact Or.inr ⟨_, e, hs⟩
  · intro k e e2
    rcases hnew with e3 | e3
    · exact j.ne k (by rw [← e3]; exact e) e2
    · rw [e3] at e
      have := Option.some.inj e
      have := (own_ge j.of k e2).2
      omega
theorem RegJ.appF {v' : Value} (j : RegJ W0 b B sx sy gx fx xs ys pg false rg rf cg cf W) (h : Two W0 b B sx sy gx fx gy fy xs ys) (ho : W'.ownsRow B 45 5 v' (sx.funcs.length + sy.funcs.length) (xs ++ ys)) (hgr : W.grownBy W' rf.ownBlock)
    (hnew : v'.ownBlock = rf.ownBlock ∨ v'.ownBlock = some W.heap.size) (hnil : sx.funcs.length + sy.funcs.length = 0 → v' = .slice none 0 0) : RegJ W0 b B sx sy gx fx xs ys pg true rg v' cg cf W' := by
  have e0 := j.ef rfl
  have hk : Keeps (fun k => rf.ownBlock = some k) W W' := Keeps.of_grownBy hgr (fun k _ e => e)
  have hnb : ¬ rf.ownBlock = some b := fun e => j.bf h b e rfl
  have hs := j.kp.size
  have hlt := Nat.lt_of_lt_of_le h.lt.1 hs
  refine ⟨j.kp.trans (hk.mono (fun k _ e => Or.inr (Or.inr (by rw [← e0]; exact e)))), hk.cell_of j.c0 hnb, hk.cell_of j.c1 hnb, by rw [hk.frozen (p := ⟨b, 0, none⟩) hlt hnb]; exact j.z0, by rw [hk.frozen (p := ⟨b, 1, none⟩) hlt hnb]; exact j.z1, hk.row j.og (fun k e e2 => j.ne k e e2), by simpa using ho, j.eg, fun e => Bool.noConfusion e, j.hg, ?_, ?_, j.ng, by simpa using hnil⟩
  · rcases hnew with e | e
    · rw [e, e0]; exact Or.inl rfl
    · exact Or.inr ⟨_, e, hs⟩
  · intro k e e2
    rcases hnew with e3 | e3
    · exact j.ne k e (by rw [← e3]; exact e2)
    · rw [e3] at e2
      have := Option.some.inj e2
      have := (own_ge j.og k e).2
      omega
theorem RegJ.stoG (j : RegJ W0 b B sx sy gx fx xs ys pg pf rg rf cg cf W) (h : Two W0 b B sx sy gx fx gy fy xs ys) (v : Value) : RegJ W0 b B sx sy gx fx xs ys pg pf rg rf v cf (W.setCell ⟨b, 0, none⟩ v) := by
  have hk : Keeps (fun k => k = b) W (W.setCell ⟨b, 0, none⟩ v) := (Keeps.refl (fun k => k = b) W).setCell (p := ⟨b, 0, none⟩) (Or.inl rfl) _
  refine ⟨j.kp.trans (hk.mono (fun k _ e => Or.inl e)), World.cell?_setCell_same _ _ _ j.c0, by rw [World.cell?_setCell_other _ _ _ _ (fun e => by injection e with _ e _; cases e)]; exact j.c1, by rw [World.frozen?_setCell]; exact j.z0, by rw [World.frozen?_setCell]; exact j.z1, hk.row j.og (fun k e e2 => j.bg h k e e2), hk.row j.of (fun k e e2 => j.bf h k e e2), j.eg, j.ef, j.hg, j.hf, j.ne, j.ng, j.nf⟩
theorem RegJ.stoF (j : RegJ W0 b B sx sy gx fx xs ys pg pf rg rf cg cf W) (h : Two W0 b B sx sy gx fx gy fy xs ys) (v : Value) : RegJ W0 b B sx sy gx fx xs ys pg pf rg rf cg v (W.setCell ⟨b, 1, none⟩ v) := by
  have hk : Keeps (fun k => k = b) W (W.setCell ⟨b, 1, none⟩ v) := (Keeps.refl (fun k => k = b) W).setCell (p := ⟨b, 1, none⟩) (Or.inl rfl) _
  refine ⟨j.kp.trans (hk.mono (fun k _ e => Or.inl e)), by rw [World.cell?_setCell_other _ _ _ _ (fun e => by injection e with _ e _; cases e)]; exact j.c0, World.cell?_setCell_same _ _ _ j.c1, by rw [World.frozen?_setCell]; exact j.z0, by rw [World.frozen?_setCell]; exact j.z1, hk.row j.og (fun k e e2 => j.bg h k e e2), hk.row j.of (fun k e e2 => j.bf h k e e2), j.eg, j.ef, j.hg, j.hf, j.ne, j.ng, j.nf⟩
/-- In the end both programs are one. -/
theorem RegJ.src (j : RegJ W0 b B sx sy gx fx xs ys true true rg rf cg cf W) (h : Two W0 b B sx sy gx fx gy fy xs ys) : SrcO W B ⟨sx.globals ++ sy.globals, sx.funcs ++ sy.funcs⟩ rg rf := by
  have og := j.og
  have of := j.of
  have ng := j.ng
  have nf := j.nf
  simp only [reduceIte] at og of ng nf
  have hkeep : ∀ (l : List Fu) (cs : List Value), RowF W0 (fun k => B ≤ k ∧ k ≠ b ∧ k < W0.heap.size ∧ gx.ownBlock ≠ some k ∧ fx.ownBlock ≠ some k) cs l → RowF W (fun k => B ≤ k ∧ some k ≠ rg.ownBlock ∧ some k ≠ rf.ownBlock) cs l := fun l cs hr => by
    refine RowF.mono (fun k _ e => ⟨e.1, fun e2 => ?_, fun e2 => ?_⟩) _ _ (RowF.keeps j.kp (fun k e s => by
      rcases s with s | s | s
      · exact e.2.1 s
      · exact e.2.2.2.1 s
      · exact e.2.2.2.2 s) _ _ hr)
    · rcases j.hg with h1 | ⟨q, h1, h2⟩
      · exact e.2.2.2.1 (by rw [← h1]; exact e2.symm)
      · rw [h1] at e2
        have := Option.some.inj e2
        have := e.2.2.1
        omega
    · rcases j.hf with h1 | ⟨q, h1, h2⟩
      · exact e.2.2.2.2 (by rw [← h1]; exact e2.symm)
      · rw [h1] at e2
        have := Option.some.inj e2
        have := e.2.2.1
        omega
  refine ⟨xs ++ ys, ?_, ?_, RowF.app _ _ _ _ (hkeep _ _ h.rx) (hkeep _ _ h.ry), fun e => ng ?_, fun e => nf ?_, j.ne⟩
  · rw [glCells_app, List.length_append]; exact og
  · rw [List.length_append]; exact of
  · have := congrArg List.length e; simpa using this
  · have := congrArg List.length e; simpa using this
end Go.Proofs.YtgonbmcojjcabaaGreatDoor

namespace Go.Proofs.YtgonbmcojjcabaaGreatDoor
open Go.RowKit Lx Tr
variable {w w' : World}

theorem small_parse {s : ByteArray} {e : Ending} (hs : s.size = 145) (hl : s.data.toList = smallL) (h : ParseSays w w' s e) : ∃ src gv fv, e = .returned (.tuple #[.agg #[gv, fv], .nilIface]) ∧ SrcO w' w.heap.size src gv fv ∧ SrcOk src ∧ src.globals.length = 1 ∧ src.funcs.length = 2 ∧ (src.funcs.headD ⟨[], 0, [], 0, .nil⟩).body.len = 3 ∧ printV src = smallL := by
  obtain ⟨ts0, s0, m0, h1, _, _⟩ := small_has
  unfold ParseSays at h
  rw [if_neg (by omega), hl, hs] at h
  rw [h1] at h
  simp only at h
  obtain ⟨r, hev, hr⟩ := h
  obtain ⟨src, m, rfl, a1, a2, a3, a4⟩ := small_says h1 hev
  obtain ⟨gv, fv, rfl, hso⟩ := hr
  exact ⟨src, gv, fv, rfl, hso, (text_len h1 hev).1, a1, a2, a3, a4⟩
theorem mkT_of {s : ByteArray} {l : Lx.B} (h : s.data.toList = l) : mkT l = s := by
  subst h
  apply ByteArray.ext
  simp [mkT]

set_option maxRecDepth 100000 in
set_option maxHeartbeats 6400000 in
theorem grown_any (w : World) (hE : LawEnv w) : Calls Tryz.prog 16 #[] w fun e w' => e = .returned (.bool true) ∧ Below w.heap.size w w' := by
  have HE := Lib.hid hE
  clear hE
  go_enter Tryz.func16, Tryz.ntmps16
  go_wp2_with fail
  refine (treeParse_any _ _ HE.out.tree).mono ?_
  rintro e w1 ⟨hsay, hb1⟩
  obtain ⟨src, gv, fv, rfl, hso, hok, hg1, hf2, hb3, hpr⟩ := small_parse (by kernel_rfl) (by kernel_rfl) hsay
  clear hsay
  obtain ⟨ga, gc, rfl⟩ := ownsRow_form hso.choose_spec.1
  obtain ⟨fa, fc, rfl⟩ := ownsRow_form hso.choose_spec.2.1
  obtain ⟨fu, rest, hfu⟩ : ∃ fu rest, src.funcs = fu :: rest := by
    cases hq : src.funcs with
    | nil => rw [hq] at hf2; cases hf2
    | cons x xs => exact ⟨x, xs, rfl⟩
  have hso2 : SrcO (w1.alloc (.cells #[.slice ga src.globals.length gc, .slice fa src.funcs.length fc] 26)) w.heap.size src (.slice ga src.globals.length gc) (.slice fa src.funcs.length fc) := hso.keeps (S := fun _ => False) ((Keeps.refl _ _).alloc _) (fun _ _ e => e)
  have hbx := hb1.trans ((fresh_alloc w1 #[.slice ga src.globals.length gc, .slice fa src.funcs.length fc] 26).mono hb1.size)
  have HPR := Lib.hid (print_any (w1.alloc (.cells #[.slice ga src.globals.length gc, .slice fa src.funcs.length fc] 26)) (hso2.toG (fun b h1 _ => h1)) (HE.out.below hbx).penv hok (by rw [hpr]; decide))
  rw [hpr] at HPR
  unfold Tells at HPR
  have HBX := Lib.hid hbx
  rcases hso2.toF.2 with ⟨_, e2⟩ | ⟨fg, cap, e, _, _, _, _, h6⟩
  · rw [hfu] at e2; cases e2
  injection e with e1 _ e3
  subst e1
  subst e3
  obtain ⟨pv, bv, _, _, _, _, c4, _, hst⟩ := h6 0 fu (by rw [hfu]; rfl)
  have hbl : fu.body.len = 3 := by rw [hfu] at hb3; exact hb3
  obtain ⟨bo, bn, bc, rfl⟩ := slAt_form hst.1
  have hbn := slAt_len hst.1
  rw [hbl] at hbn
  subst hbn
  rw [hg1, hf2] at HPR HBX c4
  rw [hg1, hf2]
  have hEN := err_isNone
  clear hso hso2 hok hpr hb3 hfu h6 hst hbl hbx hb1
  clear hg1 hf2
  go_wp2_with fail
  refine HPR.out.mono ?_
  rintro e w2 ⟨rfl, hb2⟩
  have HB2 := Lib.hid (HBX.out.trans (hb2.mono HBX.out.size))
  clear hb2
  go_wp2_with fail
  go_ret
  have hq : ((mkT smallL).toList == smallL) = true := by rw [ByteArray.toList_eq]; exact beq_self_eq_true _
  refine ⟨?_, HB2.out⟩
  show Ending.returned (.bool ((mkT smallL).toList == smallL)) = _
  rw [hq]
end Go.Proofs.YtgonbmcojjcabaaGreatDoor

namespace Go.Proofs.YtgonbmcojjcabaaGreatDoor
open Go.RowKit Lx Tr

theorem Two.make {w2 w3 W0 : World} {B C : Nat} {sx sy : Src} {gx fx gy fy : Value} (hx : SrcO w2 B sx gx fx) (hxk : Below w2.heap.size w2 W0) (hy : SrcO w3 C sy gy fy) (hyk : Below w3.heap.size w3 W0) (hB : B ≤ w2.heap.size) (hC : w2.heap.size < C) (hz : w2.heap.size < W0.heap.size)
    (lg : sx.globals.length + sy.globals.length ≤ 8) (lf : sx.funcs.length + sy.funcs.length ≤ 12) : ∃ xs ys, Two W0 w2.heap.size B sx sy gx fx gy fy xs ys := by
  obtain ⟨xs, a1, a2, a3, a4, a5, a6⟩ := hx
  obtain ⟨ys, c1, c2, c3, _, _, c6⟩ := hy
  have k2 : Keeps (fun k => w2.heap.size ≤ k) w2 W0 := Keeps.of_below (S := fun k => w2.heap.size ≤ k) hxk (fun _ _ e => e)
  have k3 : Keeps (fun k => w3.heap.size ≤ k) w3 W0 := Keeps.of_below (S := fun k => w3.heap.size ≤ k) hyk (fun _ _ e => e)
  have s2 := hxk.size
  have s3 := hyk.size
  have l1 := own_ge a1
  have l2 := own_ge a2
  have l3 := own_ge c1
  have l4 := own_ge c2
  have up : ∀ {e : TypeId} {size : Nat} {v : Value} {k : Nat} {xs : List Value}, W0.ownsRow C e size v k xs → W0.ownsRow B e size v k xs := fun h => by
    refine ⟨h.1, ?_⟩
    rcases h.2 with h | ⟨g, cap, cur, d1, d2, d3⟩
    · exact Or.inl h
    · exact Or.inr ⟨g, cap, cur, d1, by omega, d3⟩
  refine ⟨xs, ys, k2.row a1 (fun b e e2 => by have := (l1 b e).2; have h9 : w2.heap.size ≤ b := e2; omega), k2.row a2 (fun b e e2 => by have := (l2 b e).2; have h9 : w2.heap.size ≤ b := e2; omega), up (k3.row c1 (fun b e e2 => by have := (l3 b e).2; have h9 : w3.heap.size ≤ b := e2; omega)), up (k3.row c2 (fun b e e2 => by have := (l4 b e).2; have h9 : w3.heap.size ≤ b := e2; omega)), ?_, ?_, fun e => a4 (List.eq_nil_of_length_eq_zero e), fun e => a5 (List.eq_nil_of_length_eq_zero e), fun k e => ⟨?_, a6 k e, fun e2 => ?_, fun e2 => ?_⟩, fun k e => ⟨?_, fun e2 => ?_, fun e2 => ?_⟩, ⟨fun e => ?_, fun e => ?_⟩, ⟨hz, by omega⟩, lg, lf⟩
  · refine RowF.keeps k2 (F := fun k => B ≤ k ∧ k ≠ w2.heap.size ∧ k < W0.heap.size ∧ gx.ownBlock ≠ some k ∧ fx.ownBlock ≠ some k ∧ k < w2.heap.size) (fun b e e2 => by have h9 : w2.heap.size ≤ b := e2; have := e.2.2.2.2.2; omega) _ _ (RowF.mono (fun b hb e => ⟨e.1, by omega, by omega, fun h => e.2.1 h.symm, fun h => e.2.2 h.symm, hb⟩) _ _ a3) |> RowF.mono (fun b _ e => ⟨e.1, e.2.1, e.2.2.1, e.2.2.2.1, e.2.2.2.2.1⟩) _ _
  · refine RowF.keeps k3 (F := fun k => B ≤ k ∧ k ≠ w2.heap.size ∧ k < W0.heap.size ∧ gx.ownBlock ≠ some k ∧ fx.ownBlock ≠ some k ∧ k < w3.heap.size) (fun b e e2 => by have h9 : w3.heap.size ≤ b := e2; have := e.2.2.2.2.2; omega) _ _ (RowF.mono (fun b hb e => ⟨by omega, by omega, by omega, fun h => by have := (l1 b h).2; omega, fun h => by have := (l2 b h).2; omega, hb⟩) _ _ c3) |> RowF.mono (fun b _ e => ⟨e.1, e.2.1, e.2.2.1, e.2.2.2.1, e.2.2.2.2.1⟩) _ _
  · have := (l1 k e).2; omega
  · have := (l1 k e).2; have := (l3 k e2).1; omega
  · have := (l1 k e).2; have := (l4 k e2).1; omega
  · have := (l2 k e).2; omega
  · have := (l2 k e).2; have := (l3 k e2).1; omega
  · have := (l2 k e).2; have := (l4 k e2).1; omega
  · have := (l3 _ e).1; omega
  · have := (l4 _ e).1; omega
theorem RegJ.other {W0 W : World} {b B : Nat} {sx sy : Src} {gx fx rg rf cg cf v : Value} {xs ys : List Value} {pg pf : Bool} (j : RegJ W0 b B sx sy gx fx xs ys pg pf rg rf cg cf W) {q o : Nat} (hq : ¬ (q = b ∨ gx.ownBlock = some q ∨ fx.ownBlock = some q)) (h : W0.cell? ⟨q, o, none⟩ = some v) : W.cell? ⟨q, o, none⟩ = some v := j.kp.cell_of h hq
theorem one_cell_gl : ∀ (l : List Gl), ∀ y ∈ glCells l, y.oneCell' = true
  | [], y, h => by cases h
  | p :: l, y, h => by
    have h' : y ∈ [Value.string (mkT p.name), .int .i64 (p.at_ : Nat)] ++ glCells l := h
    rcases List.mem_append.1 h' with h | h
    · simp at h; rcases h with rfl | rfl <;> rfl
    · exact one_cell_gl l y h
theorem RowF.one_cell {w : World} {F : Nat → Prop} : ∀ (l : List Fu) (cs : List Value), RowF w F cs l → ∀ y ∈ cs, y.oneCell' = true
  | [], cs, h, y, hy => by
    have : cs = [] := h
    rw [this] at hy; cases hy
  | s :: l, cs, h, y, hy => by
    obtain ⟨us, rest, e, ⟨pv, bv, e2, hp, hs⟩, h4⟩ := h
    rw [e] at hy
    rcases List.mem_append.1 hy with h | h
    · have e3 : ∃ o n c, pv = .slice o n c := by
        rcases hp with ⟨e, _⟩ | ⟨_, _, e, _⟩
        · exact ⟨_, _, _, e⟩
        · exact ⟨_, _, _, e⟩
      obtain ⟨_, _, _, rfl⟩ := e3
      have e4 : ∃ o n c, bv = .slice o n c := by
        rcases hs.1 with ⟨e, _⟩ | ⟨_, _, e, _⟩
        · exact ⟨_, _, _, e⟩
        · exact ⟨_, _, _, e⟩
      obtain ⟨_, _, _, rfl⟩ := e4
      rw [e2] at h
      unfold fu1 at h
      simp at h
      rcases h with rfl | rfl | rfl | rfl | rfl <;> rfl
    · exact RowF.one_cell l rest h4 y h
end Go.Proofs.YtgonbmcojjcabaaGreatDoor

namespace Go.Proofs.YtgonbmcojjcabaaGreatDoor
open Go.RowKit Lx Tr
variable {w w' : World}

/-- What Parse says of two programs in one text. -/
theorem pieces_parse {a b : ByteArray} {tx ty : List Lx.Tok} {sx sy : Src} {mx my : Nat} {e : Ending} (ha : a.size ≤ 1500) (hb : b.size ≤ 1500) (htx : lx a.data.toList 0 false = (tx, none)) (hty : lx b.data.toList 0 false = (ty, none))
    (hvx : Ev (fun f => Tr.program ⟨tx, a.size⟩ f ⟨[], []⟩ 0) (.ok sx mx)) (hvy : Ev (fun f => Tr.program ⟨ty, b.size⟩ f ⟨[], []⟩ 0) (.ok sy my)) (lg : sx.globals.length + sy.globals.length ≤ 8) (lf : sx.funcs.length + sy.funcs.length ≤ 12) (h : ParseSays w w' (a ++ ⟨#[10]⟩ ++ b) e) :
    ∃ sz gv fv, e = .returned (.tuple #[.agg #[gv, fv], .nilIface]) ∧ SrcO w' w.heap.size sz gv fv ∧ SrcOk sz ∧ (printV sz).length ≤ 1000000 ∧ printV sz = printV ⟨sx.globals ++ sy.globals, sx.funcs ++ sy.funcs⟩ ∧ SrcOk ⟨sx.globals ++ sy.globals, sx.funcs ++ sy.funcs⟩ := by
  have hcs : (a ++ ⟨#[10]⟩ ++ b).size = a.size + 1 + b.size := by
    have h1 : (⟨#[10]⟩ : ByteArray).size = 1 := rfl
    rw [ByteArray.size_append, ByteArray.size_append, h1]
  have hz : lx (a ++ ⟨#[10]⟩ ++ b).data.toList 0 false = (fixL tx ++ shiftT (0 + a.data.toList.length + 1) ty, none) := by
    have h1 := lx_pieces b.data.toList ty hty a.data.toList 0 false tx htx
    rw [← h1]
    simp
  unfold ParseSays at h
  rw [if_neg (by omega), hz] at h
  simp only at h
  obtain ⟨r, hev, hr⟩ := h
  obtain ⟨sz, m, rfl, e1, e2⟩ := pieces (toks_empty _ _ _ _ htx) hvx hvy lg lf hev
  obtain ⟨gv, fv, rfl, hso⟩ := hr
  obtain ⟨t1, t2⟩ := text_len hz hev
  have hl : (a ++ ⟨#[10]⟩ ++ b).data.toList.length = a.size + 1 + b.size := by rw [← hcs]; exact Array.length_toList
  rw [hl] at t2
  refine ⟨sz, gv, fv, rfl, hso, t1, by omega, printV_E e1 e2, fun g hg => ?_⟩
  rcases List.mem_append.1 hg with h | h
  · exact (text_len htx hvx).1 g h
  · exact (text_len hty hvy).1 g h
theorem program_caps {E : Env} : ∀ (f : Nat) (src : Src) (n : Nat) (x : Src) (m : Nat), Tr.program E f src n = .ok x m → src.globals.length ≤ 8 → src.funcs.length ≤ 12 → x.globals.length ≤ 8 ∧ x.funcs.length ≤ 12
  | 0, _, _, _, _, h, _, _ => by rw [Tr.program] at h; cases h
  | f + 1, src, n, x, m, h, hg, hf => by
    rw [programQ_eq] at h
    by_cases c0 : E.toks.length ≤ n
    · rw [if_pos c0] at h
      cases h
      exact ⟨hg, hf⟩
    rw [if_neg c0] at h
    by_cases c1 : (pk E n).text = tVar
    · rw [if_pos c1] at h
      by_cases c2 : 8 ≤ src.globals.length
      · rw [if_pos c2] at h; exact (fail_ok h).elim
      rw [if_neg c2] at h
      obtain ⟨t, n1, h1, h⟩ := bind_ok h
      obtain ⟨_, n2, h2, h⟩ := bind_ok h
      exact program_caps f _ _ _ _ h (by simp; omega) hf
    rw [if_neg c1] at h
    by_cases c2 : (pk E n).text = tFunc
    · rw [if_pos c2] at h
      by_cases c3 : 12 ≤ src.funcs.length
      · rw [if_pos c3] at h; exact (fail_ok h).elim
      rw [if_neg c3] at h
      obtain ⟨g, n1, h1, h⟩ := bind_ok h
      obtain ⟨_, n2, h2, h⟩ := bind_ok h
      exact program_caps f _ _ _ _ h hg (by simp; omega)
    rw [if_neg c2] at h
    exact (fail_ok h).elim
theorem ev_caps {E : Env} {s : Src} {m : Nat} (h : Ev (fun f => Tr.program E f ⟨[], []⟩ 0) (.ok s m)) : s.globals.length ≤ 8 ∧ s.funcs.length ≤ 12 := by
  obtain ⟨_, f0, h⟩ := h
  exact program_caps f0 _ _ _ _ (h f0 (Nat.le_refl _)) (Nat.zero_le _) (Nat.zero_le _)

set_option maxRecDepth 100000 in
set_option maxHeartbeats 25600000 in
theorem treePieces_any (a b : ByteArray) (w : World) (hE : LawEnv w) : Calls Tryz.prog 7 #[.string a, .string b] w fun e w' => e = .returned (.bool true) ∧ Below w.heap.size w w' := by
  have HG := Lib.hid (grown_any w hE)
  have HE := Lib.hid hE
  clear hE
  go_enter Tryz.func7, Tryz.ntmps7
  go_wp2_with fail
  refine HG.out.mono ?_
  rintro e w1 ⟨rfl, hb1⟩
  have HE1 := Lib.hid (HE.out.below hb1)
  have HB1 := Lib.hid hb1
  clear hb1
  go_wp2_with fail
  refine (read_any a w1 HE1.out).mono ?_
  rintro e w2 ⟨hra, hb2⟩
  have HB2 := Lib.hid (HB1.out.trans (hb2.mono HB1.out.size))
  have HE2 := Lib.hid (HE1.out.below hb2)
  have HB12 := Lib.hid hb2
  clear hb2
  rcases hra with ⟨tx, sx, mx, gxv, fxv, hsa, htx, hevx, rfl, hox⟩ | rfl
  · obtain ⟨ga, gc, rfl⟩ := ownsRow_form hox.choose_spec.1
    obtain ⟨fa, fc, rfl⟩ := ownsRow_form hox.choose_spec.2.1
    have hbx := fresh_alloc w2 #[.slice ga sx.globals.length gc, .slice fa sx.funcs.length fc] 26
    have HSA := Lib.hid hsa
    have HTX := Lib.hid htx
    have HVX := Lib.hid hevx
    have HOX := Lib.hid hox
    have HEX := Lib.hid (HE2.out.below hbx)
    have HBX := Lib.hid hbx
    clear hsa htx hevx hox hbx
    go_wp2_with fail
    refine (read_any b _ HEX.out).mono ?_
    rintro e w3 ⟨hrb, hb3⟩
    have HB3 := Lib.hid (HBX.out.trans (hb3.mono HBX.out.size))
    have HE3 := Lib.hid (HEX.out.below hb3)
    have HBY3 := Lib.hid hb3
    have HBF := Lib.hid (HB2.out.trans ((HBX.out.trans (hb3.mono HBX.out.size)).mono HB2.out.size))
    have hcx : w3.cell? ⟨w2.heap.size, 0, none⟩ = some (.slice ga sx.globals.length gc) := by rw [hb3.cell (p := ⟨w2.heap.size, 0, none⟩) (by simp)]; exact cell_new _ _ _ 0 _ rfl (by simp)
    have hcf : w3.cell? ⟨w2.heap.size, 1, none⟩ = some (.slice fa sx.funcs.length fc) := by rw [hb3.cell (p := ⟨w2.heap.size, 1, none⟩) (by simp)]; exact cell_new _ _ _ 1 _ rfl (by simp)
    have HFR : Hid (∀ j, w3.frozen? ⟨w2.heap.size, j, none⟩ = false) := Lib.hid fun j => by rw [hb3.frozen (p := ⟨w2.heap.size, j, none⟩) (by simp)]; exact World.frozen?_alloc_new _ _ _ _
    clear hb3
    rcases hrb with ⟨ty, sy, my, gyv, fyv, hsb, hty, hevy, rfl, hoy⟩ | rfl
    · obtain ⟨ka, kc, rfl⟩ := ownsRow_form hoy.choose_spec.1
      obtain ⟨ha, hc, rfl⟩ := ownsRow_form hoy.choose_spec.2.1
      have hbyy := fresh_alloc w3 #[.slice ka sy.globals.length kc, .slice ha sy.funcs.length hc] 26
      have HSB := Lib.hid hsb
      have HTY := Lib.hid hty
      have HVY := Lib.hid hevy
      have HOY := Lib.hid hoy
      have HEY := Lib.hid (HE3.out.below hbyy)
      have HBY := Lib.hid hbyy
      obtain ⟨q1, q2⟩ := ev_caps HVX.out
      obtain ⟨q3, q4⟩ := ev_caps HVY.out
      have hwg : IntKind.i64.wrap ((sx.globals.length : Int) + (sy.globals.length : Int)) = (sx.globals.length : Int) + (sy.globals.length : Int) := IntWalk.i64_in _ (by omega)
      have hwf : IntKind.i64.wrap ((sx.funcs.length : Int) + (sy.funcs.length : Int)) = (sx.funcs.length : Int) + (sy.funcs.length : Int) := IntWalk.i64_in _ (by omega)
      have dcx : (w3.alloc (.cells #[.slice ka sy.globals.length kc, .slice ha sy.funcs.length hc] 26)).cell? ⟨w2.heap.size, 0, none⟩ = some (.slice ga sx.globals.length gc) := cell_more hcx
      have dcf : (w3.alloc (.cells #[.slice ka sy.globals.length kc, .slice ha sy.funcs.length hc] 26)).cell? ⟨w2.heap.size, 1, none⟩ = some (.slice fa sx.funcs.length fc) := cell_more hcf
      clear hsb hty hevy hoy hbyy q1 q2 q3 q4 hcx hcf
      by_cases h8 : 8 < sx.globals.length + sy.globals.length
      · have h8' : (8 : Int) < (sx.globals.length : Int) + (sy.globals.length : Int) := by omega
        clear h8
        go_wp2_with fail
        go_ret
        exact ⟨rfl, HBF.out.trans ((fresh_alloc _ _ _).mono HBF.out.size)⟩
      have h8' : ¬ (8 : Int) < (sx.globals.length : Int) + (sy.globals.length : Int) := by omega
      by_cases h12 : 12 < sx.funcs.length + sy.funcs.length
      · have h12' : (12 : Int) < (sx.funcs.length : Int) + (sy.funcs.length : Int) := by omega
        clear h8 h12
        go_wp2_with fail
        go_ret
        exact ⟨rfl, HBF.out.trans ((fresh_alloc _ _ _).mono HBF.out.size)⟩
      have h12' : ¬ (12 : Int) < (sx.funcs.length : Int) + (sy.funcs.length : Int) := by omega
      have H8 : Hid (sx.globals.length + sy.globals.length ≤ 8) := Lib.hid (by omega)
      have H12 : Hid (sx.funcs.length + sy.funcs.length ≤ 12) := Lib.hid (by omega)
      have hz1 : ¬ 9223372036854775807 < a.size + 1 := by have := HSA.out; omega
      have hz2 : ¬ 9223372036854775807 < a.size + 1 + b.size := by have := HSA.out; have := HSB.out; omega
      clear h8 h12
      go_wp2_with fail
      refine (treeParse_any _ _ HEY.out.tree).mono ?_
      rintro e w4 ⟨hsay, hb4⟩
      obtain ⟨sz, gzv, fzv, rfl, hoz, hokz, hlz, hpz, hokx⟩ := pieces_parse HSA.out HSB.out HTX.out HTY.out HVX.out HVY.out H8.out H12.out hsay
      obtain ⟨za, zc, rfl⟩ := ownsRow_form hoz.choose_spec.1
      obtain ⟨fza, fzc, rfl⟩ := ownsRow_form hoz.choose_spec.2.1
      clear hsay
      have hw3 : w3.heap.size < (w3.alloc (.cells #[.slice ka sy.globals.length kc, .slice ha sy.funcs.length hc] 26)).heap.size := by simp
      have hw2 : w2.heap.size < w3.heap.size := Nat.lt_of_lt_of_le (by simp) HBY3.out.size
      have hbz := fresh_alloc w4 #[.slice za sz.globals.length zc, .slice fza sz.funcs.length fzc] 26
      have hw4 : w3.heap.size < w4.heap.size := Nat.lt_of_lt_of_le hw3 hb4.size
      have hb34 : Below w3.heap.size w3 (w4.alloc (.cells #[.slice za sz.globals.length zc, .slice fza sz.funcs.length fzc] 26)).drew := (HBY.out.trans (hb4.mono (Nat.le_of_lt hw3))).trans ((hbz.mono (Nat.le_of_lt hw4)).trans (Below.drew (Below.refl _ _)))
      have hb24 : Below w2.heap.size w2 (w4.alloc (.cells #[.slice za sz.globals.length zc, .slice fza sz.funcs.length fzc] 26)).drew := HB3.out.trans (hb34.mono (Nat.le_of_lt hw2))
      have HB4F := Lib.hid (HB2.out.trans (hb24.mono HB2.out.size))
      obtain ⟨xs, ys, htwo⟩ := Two.make HOX.out hb24 HOY.out hb34 HB12.out.size (by simp) (by show w2.heap.size < (w4.alloc (.cells #[.slice za sz.globals.length zc, .slice fza sz.funcs.length fzc] 26)).heap.size; simp; omega) H8.out H12.out
      have e0 : (w4.alloc (.cells #[.slice za sz.globals.length zc, .slice fza sz.funcs.length fzc] 26)).cell? ⟨w2.heap.size, 0, none⟩ = some (.slice ga sx.globals.length gc) := cell_more (by rw [hb4.cell (p := ⟨w2.heap.size, 0, none⟩) (Nat.lt_trans hw2 hw3)]; exact dcx)
      have e1 : (w4.alloc (.cells #[.slice za sz.globals.length zc, .slice fza sz.funcs.length fzc] 26)).cell? ⟨w2.heap.size, 1, none⟩ = some (.slice fa sx.funcs.length fc) := cell_more (by rw [hb4.cell (p := ⟨w2.heap.size, 1, none⟩) (Nat.lt_trans hw2 hw3)]; exact dcf)
      have y0 : (w4.alloc (.cells #[.slice za sz.globals.length zc, .slice fza sz.funcs.length fzc] 26)).cell? ⟨w3.heap.size, 0, none⟩ = some (.slice ka sy.globals.length kc) := cell_more (by rw [hb4.cell (p := ⟨w3.heap.size, 0, none⟩) hw3]; exact cell_new _ _ _ 0 _ rfl (by simp))
      have y1 : (w4.alloc (.cells #[.slice za sz.globals.length zc, .slice fza sz.funcs.length fzc] 26)).cell? ⟨w3.heap.size, 1, none⟩ = some (.slice ha sy.funcs.length hc) := cell_more (by rw [hb4.cell (p := ⟨w3.heap.size, 1, none⟩) hw3]; exact cell_new _ _ _ 1 _ rfl (by simp))
      have z0 : (w4.alloc (.cells #[.slice za sz.globals.length zc, .slice fza sz.funcs.length fzc] 26)).frozen? ⟨w2.heap.size, 0, none⟩ = false := frozen_more (Nat.lt_trans hw2 hw4) (by rw [hb4.frozen (p := ⟨w2.heap.size, 0, none⟩) (Nat.lt_trans hw2 hw3)]; exact frozen_more hw2 (HFR.out 0))
      have z1 : (w4.alloc (.cells #[.slice za sz.globals.length zc, .slice fza sz.funcs.length fzc] 26)).frozen? ⟨w2.heap.size, 1, none⟩ = false := frozen_more (Nat.lt_trans hw2 hw4) (by rw [hb4.frozen (p := ⟨w2.heap.size, 1, none⟩) (Nat.lt_trans hw2 hw3)]; exact frozen_more hw2 (HFR.out 1))
      have hj := htwo.start (W0 := (w4.alloc (.cells #[.slice za sz.globals.length zc, .slice fza sz.funcs.length fzc] 26)).drew) e0 e1 z0 z1
      have HJ := Lib.hid hj
      have HT := Lib.hid htwo
      have HOT : Hid (∀ {pg pf : Bool} {rg rf cg cf : Value} {W : World}, RegJ (w4.alloc (.cells #[.slice za sz.globals.length zc, .slice fza sz.funcs.length fzc] 26)).drew w2.heap.size w1.heap.size sx sy (.slice ga sx.globals.length gc) (.slice fa sx.funcs.length fc) xs ys pg pf rg rf cg cf W → W.cell? ⟨w3.heap.size, 0, none⟩ = some (.slice ka sy.globals.length kc) ∧ W.cell? ⟨w3.heap.size, 1, none⟩ = some (.slice ha sy.funcs.length hc)) := Lib.hid fun j => by
        have hq : ¬ (w3.heap.size = w2.heap.size ∨ Value.ownBlock (.slice ga sx.globals.length gc) = some w3.heap.size ∨ Value.ownBlock (.slice fa sx.funcs.length fc) = some w3.heap.size) := fun e => by
          rcases e with e | e | e
          · omega
          · have := (own_ge HOX.out.choose_spec.1 _ e).2; omega
          · have := (own_ge HOX.out.choose_spec.2.1 _ e).2; omega
        exact ⟨j.other hq y0, j.other hq y1⟩
      obtain ⟨iG, hiG, hzG0, hzG1, hzG2⟩ := info_parts info_global
      obtain ⟨iF, hiF, hzF0, hzF1, hzF2⟩ := info_parts info_func
      have HMG : Hid (sx.globals.length + sy.globals.length ≤ maxLen) := Lib.hid (by have := H8.out; unfold maxLen; omega)
      have HBG : Hid ((sx.globals.length + sy.globals.length) * 24 ≤ 140737488355328) := Lib.hid (by have := H8.out; omega)
      have HMF : Hid (sx.funcs.length + sy.funcs.length ≤ maxLen) := Lib.hid (by have := H12.out; unfold maxLen; omega)
      have HBFU : Hid ((sx.funcs.length + sy.funcs.length) * 80 ≤ 140737488355328) := Lib.hid (by have := H12.out; omega)
      clear hj htwo e0 e1 z0 z1 y0 y1 dcx dcf hwg hwf h8' h12' hz1 hz2
      go_upto_region 8 with fail
      go_cut [] (fun wx => ∃ xs ys rg rf, Two (w4.alloc (.cells #[.slice za sz.globals.length zc, .slice fza sz.funcs.length fzc] 26)).drew w2.heap.size w1.heap.size sx sy (.slice ga sx.globals.length gc) (.slice fa sx.funcs.length fc) (.slice ka sy.globals.length kc) (.slice ha sy.funcs.length hc) xs ys ∧ RegJ (w4.alloc (.cells #[.slice za sz.globals.length zc, .slice fza sz.funcs.length fzc] 26)).drew w2.heap.size w1.heap.size sx sy (.slice ga sx.globals.length gc) (.slice fa sx.funcs.length fc) xs ys true true rg rf rg rf wx)
      case first =>
        refine wp_region_held_drew (S := (fun W' : World => W'.cell? ⟨w3.heap.size, 0, none⟩ = some (.slice ka sy.globals.length kc) ∧ W'.cell? ⟨w3.heap.size, 1, none⟩ = some (.slice ha sy.funcs.length hc))) (by kernel_rfl) (HOT.out HJ.out) (fun hHeld => ?_)
        generalize (w4.alloc (.cells #[.slice za sz.globals.length zc, .slice fza sz.funcs.length fzc] 26)).drew = W0 at *
        refine wpAnyH_take (i := 0) (oi := { dst := some 57, op := _, type := _, pos := _, after := _, guard := _ }) (v := .pointer (some ⟨w2.heap.size, 0, none⟩)) rfl (by kernel_rfl) (by kernel_rfl) (by kernel_rfl) (fun _ _ _ h => h) (Or.inl ⟨by rfl, ?_⟩) hHeld ?_
        · intro W9 hSW
          (try dsimp only at hSW)
          go_simp
        try simp only [Act.put, List.setIfInBounds_toArray, List.set_cons_zero, List.set_cons_succ]
        refine wpAnyH_take (i := 2) (oi := { dst := some 59, op := _, type := _, pos := _, after := _, guard := _ }) (v := .pointer (some ⟨w3.heap.size, 0, none⟩)) rfl (by kernel_rfl) (by kernel_rfl) (by kernel_rfl) (fun _ _ _ h => h) (Or.inl ⟨by rfl, ?_⟩) hHeld ?_
        · intro W9 hSW
          (try dsimp only at hSW)
          go_simp
        try simp only [Act.put, List.setIfInBounds_toArray, List.set_cons_zero, List.set_cons_succ]
        refine wpAnyH_take (i := 3) (oi := { dst := some 60, op := _, type := _, pos := _, after := _, guard := _ }) (v := .slice ka sy.globals.length kc) rfl (by kernel_rfl) (by kernel_rfl) (by kernel_rfl) (fun _ _ _ h => h) (Or.inl ⟨by rfl, ?_⟩) hHeld ?_
        · intro W9 hSW
          (try dsimp only at hSW)
          go_simp
        try simp only [Act.put, List.setIfInBounds_toArray, List.set_cons_zero, List.set_cons_succ]
        refine wpAnyH_take (i := 5) (oi := { dst := some 62, op := _, type := _, pos := _, after := _, guard := _ }) (v := .pointer (some ⟨w2.heap.size, 1, none⟩)) rfl (by kernel_rfl) (by kernel_rfl) (by kernel_rfl) (fun _ _ _ h => h) (Or.inl ⟨by rfl, ?_⟩) hHeld ?_
        · intro W9 hSW
          (try dsimp only at hSW)
          go_simp
        try simp only [Act.put, List.setIfInBounds_toArray, List.set_cons_zero, List.set_cons_succ]
        refine wpAnyH_take (i := 7) (oi := { dst := some 64, op := _, type := _, pos := _, after := _, guard := _ }) (v := .pointer (some ⟨w3.heap.size, 1, none⟩)) rfl (by kernel_rfl) (by kernel_rfl) (by kernel_rfl) (fun _ _ _ h => h) (Or.inl ⟨by rfl, ?_⟩) hHeld ?_
        · intro W9 hSW
          (try dsimp only at hSW)
          go_simp
        try simp only [Act.put, List.setIfInBounds_toArray, List.set_cons_zero, List.set_cons_succ]
        refine wpAnyH_take (i := 8) (oi := { dst := some 65, op := _, type := _, pos := _, after := _, guard := _ }) (v := .slice ha sy.funcs.length hc) rfl (by kernel_rfl) (by kernel_rfl) (by kernel_rfl) (fun _ _ _ h => h) (Or.inl ⟨by rfl, ?_⟩) hHeld ?_
        · intro W9 hSW
          (try dsimp only at hSW)
          go_simp
        try simp only [Act.put, List.setIfInBounds_toArray, List.set_cons_zero, List.set_cons_succ]
        have c01 := HJ.out.c0
        have c11 := HJ.out.c1
        have z01 := HJ.out.z0
        have z11 := HJ.out.z1
        refine wpAnyH_ready (rs := [1, 6]) (by kernel_rfl) (by simp) ?_
        refine AllReadyH.cons (o := { dst := some 58, op := _, type := _, pos := _, after := _, guard := _ }) rfl (fun K hK => ?_) (AllReadyH.cons (o := { dst := some 63, op := _, type := _, pos := _, after := _, guard := _ }) rfl (fun K hK => ?_) AllReadyH.nil)
        · go_simp
          refine hK.out _ _ hHeld (fun hHeld => ?_)
          clear hK K c01 c11 z01 z11
          have c02 := HJ.out.c0
          have c12 := HJ.out.c1
          have z02 := HJ.out.z0
          have z12 := HJ.out.z1
          refine wpAnyH_ready (rs := [4, 6]) (by kernel_rfl) (by simp) ?_
          refine AllReadyH.cons (o := { dst := some 61, op := _, type := _, pos := _, after := _, guard := _ }) rfl (fun K hK => ?_) (AllReadyH.cons (o := { dst := some 63, op := _, type := _, pos := _, after := _, guard := _ }) rfl (fun K hK => ?_) AllReadyH.nil)
          · refine step_appendR rfl (.tmp 58) (.tmp 60) 23 64 rfl iG (.agg #[.string ByteArray.empty, .int .i64 0]) 2 24 Tryz.underlying23 hiG hzG0 hzG1 hzG2 rfl (by decide) w1.heap.size w1.heap.size (.slice ga sx.globals.length gc) sx.globals.length (glCells sx.globals) (by simpa using HJ.out.og) (.slice ka sy.globals.length kc) sy.globals.length (glCells sy.globals) (HJ.out.rowG HT.out) (one_cell_gl _) HMG.out HBG.out (Nat.le_trans HT.out.lt.2 HJ.out.kp.size) (by simp [Act.eval]) (by simp [Act.eval]) HT.out.ng ?_
            intro ao3 cap3 w3 h1 h2 h3 h4
            have J3 := Lib.hid (HJ.out.appG HT.out h1 h2 h3 h4)
            have hS3 := HOT.out J3.out
            clear h1 h2 h3 h4
            refine hK.out _ _ hS3 (fun hHeld => ?_)
            clear hK K c02 c12 z02 z12 hS3
            try simp only [Act.put, List.setIfInBounds_toArray, List.set_cons_zero, List.set_cons_succ]
            have c04 := J3.out.c0
            have c14 := J3.out.c1
            have z04 := J3.out.z0
            have z14 := J3.out.z1
            refine wpAnyH_ready (rs := [6]) (by kernel_rfl) (by simp) ?_
            refine AllReadyH.cons (o := { dst := some 63, op := _, type := _, pos := _, after := _, guard := _ }) rfl (fun K hK => ?_) AllReadyH.nil
            go_simp
            refine hK.out _ _ hHeld (fun hHeld => ?_)
            clear hK K c04 c14 z04 z14
            refine wpAnyH_take (i := 10) (oi := { dst := some 67, op := _, type := _, pos := _, after := _, guard := _ }) (v := .pointer (some ⟨w2.heap.size, 0, none⟩)) rfl (by kernel_rfl) (by kernel_rfl) (by kernel_rfl) (fun _ _ _ h => h) (Or.inl ⟨by rfl, ?_⟩) hHeld ?_
            · intro W9 hSW
              (try dsimp only at hSW)
              go_simp
            try simp only [Act.put, List.setIfInBounds_toArray, List.set_cons_zero, List.set_cons_succ]
            have c05 := J3.out.c0
            have c15 := J3.out.c1
            have z05 := J3.out.z0
            have z15 := J3.out.z1
            refine wpAnyH_ready (rs := [9]) (by kernel_rfl) (by simp) ?_
            refine AllReadyH.cons (o := { dst := some 66, op := _, type := _, pos := _, after := _, guard := _ }) rfl (fun K hK => ?_) AllReadyH.nil
            refine step_appendR rfl (.tmp 63) (.tmp 65) 24 45 rfl iF (.agg #[.string ByteArray.empty, .int .i64 0, .slice none 0 0, .int .i64 0, .slice none 0 0]) 5 80 Tryz.underlying24 hiF hzF0 hzF1 hzF2 rfl (by decide) w1.heap.size w1.heap.size (.slice fa sx.funcs.length fc) sx.funcs.length xs (by simpa using J3.out.of) (.slice ha sy.funcs.length hc) sy.funcs.length ys (J3.out.rowH HT.out) (RowF.one_cell _ _ HT.out.ry) HMF.out HBFU.out (Nat.le_trans HT.out.lt.2 J3.out.kp.size) (by simp [Act.eval]) (by simp [Act.eval]) HT.out.nf ?_
            intro ao6 cap6 w6 h1 h2 h3 h4
            have J6 := Lib.hid (J3.out.appF HT.out h1 h2 h3 h4)
            have hS6 := HOT.out J6.out
            clear h1 h2 h3 h4
            refine hK.out _ _ hS6 (fun hHeld => ?_)
            clear hK K c05 c15 z05 z15 hS6
            try simp only [Act.put, List.setIfInBounds_toArray, List.set_cons_zero, List.set_cons_succ]
            have c07 := J6.out.c0
            have c17 := J6.out.c1
            have z07 := J6.out.z0
            have z17 := J6.out.z1
            refine wpAnyH_ready (rs := [11]) (by kernel_rfl) (by simp) ?_
            refine AllReadyH.cons (o := { dst := none, op := _, type := _, pos := _, after := _, guard := _ }) rfl (fun K hK => ?_) AllReadyH.nil
            go_simp
            have J8 := Lib.hid (J6.out.stoG HT.out (.slice ao3 (sx.globals.length + sy.globals.length) cap3))
            have hS8 := HOT.out J8.out
            refine hK.out _ _ hS8 (fun hHeld => ?_)
            clear hK K c07 c17 z07 z17 hS8
            refine wpAnyH_take (i := 12) (oi := { dst := some 68, op := _, type := _, pos := _, after := _, guard := _ }) (v := .pointer (some ⟨w2.heap.size, 1, none⟩)) rfl (by kernel_rfl) (by kernel_rfl) (by kernel_rfl) (fun _ _ _ h => h) (Or.inl ⟨by rfl, ?_⟩) hHeld ?_
            · intro W9 hSW
              (try dsimp only at hSW)
              go_simp
            try simp only [Act.put, List.setIfInBounds_toArray, List.set_cons_zero, List.set_cons_succ]
            have c09 := J8.out.c0
            have c19 := J8.out.c1
            have z09 := J8.out.z0
            have z19 := J8.out.z1
            refine wpAnyH_ready (rs := [13]) (by kernel_rfl) (by simp) ?_
            refine AllReadyH.cons (o := { dst := none, op := _, type := _, pos := _, after := _, guard := _ }) rfl (fun K hK => ?_) AllReadyH.nil
            go_simp
            have J10 := Lib.hid (J8.out.stoF HT.out (.slice ao6 (sx.funcs.length + sy.funcs.length) cap6))
            have hS10 := HOT.out J10.out
            refine hK.out _ _ hS10 (fun hHeld => ?_)
            clear hK K c09 c19 z09 z19 hS10
            refine wpAnyH_done (by kernel_rfl) ?_ _
            go_wp2_with fail
            go_meet
            exact ⟨xs, ys, _, _, HT.out, J10.out⟩
          · go_simp
            refine hK.out _ _ hHeld (fun hHeld => ?_)
            clear hK K c02 c12 z02 z12
            have c011 := HJ.out.c0
            have c111 := HJ.out.c1
            have z011 := HJ.out.z0
            have z111 := HJ.out.z1
            refine wpAnyH_ready (rs := [4]) (by kernel_rfl) (by simp) ?_
            refine AllReadyH.cons (o := { dst := some 61, op := _, type := _, pos := _, after := _, guard := _ }) rfl (fun K hK => ?_) AllReadyH.nil
            refine step_appendR rfl (.tmp 58) (.tmp 60) 23 64 rfl iG (.agg #[.string ByteArray.empty, .int .i64 0]) 2 24 Tryz.underlying23 hiG hzG0 hzG1 hzG2 rfl (by decide) w1.heap.size w1.heap.size (.slice ga sx.globals.length gc) sx.globals.length (glCells sx.globals) (by simpa using HJ.out.og) (.slice ka sy.globals.length kc) sy.globals.length (glCells sy.globals) (HJ.out.rowG HT.out) (one_cell_gl _) HMG.out HBG.out (Nat.le_trans HT.out.lt.2 HJ.out.kp.size) (by simp [Act.eval]) (by simp [Act.eval]) HT.out.ng ?_
            intro ao12 cap12 w12 h1 h2 h3 h4
            have J12 := Lib.hid (HJ.out.appG HT.out h1 h2 h3 h4)
            have hS12 := HOT.out J12.out
            clear h1 h2 h3 h4
            refine hK.out _ _ hS12 (fun hHeld => ?_)
            clear hK K c011 c111 z011 z111 hS12
            try simp only [Act.put, List.setIfInBounds_toArray, List.set_cons_zero, List.set_cons_succ]
            refine wpAnyH_take (i := 10) (oi := { dst := some 67, op := _, type := _, pos := _, after := _, guard := _ }) (v := .pointer (some ⟨w2.heap.size, 0, none⟩)) rfl (by kernel_rfl) (by kernel_rfl) (by kernel_rfl) (fun _ _ _ h => h) (Or.inl ⟨by rfl, ?_⟩) hHeld ?_
            · intro W9 hSW
              (try dsimp only at hSW)
              go_simp
            try simp only [Act.put, List.setIfInBounds_toArray, List.set_cons_zero, List.set_cons_succ]
            have c013 := J12.out.c0
            have c113 := J12.out.c1
            have z013 := J12.out.z0
            have z113 := J12.out.z1
            refine wpAnyH_ready (rs := [9]) (by kernel_rfl) (by simp) ?_
            refine AllReadyH.cons (o := { dst := some 66, op := _, type := _, pos := _, after := _, guard := _ }) rfl (fun K hK => ?_) AllReadyH.nil
            refine step_appendR rfl (.tmp 63) (.tmp 65) 24 45 rfl iF (.agg #[.string ByteArray.empty, .int .i64 0, .slice none 0 0, .int .i64 0, .slice none 0 0]) 5 80 Tryz.underlying24 hiF hzF0 hzF1 hzF2 rfl (by decide) w1.heap.size w1.heap.size (.slice fa sx.funcs.length fc) sx.funcs.length xs (by simpa using J12.out.of) (.slice ha sy.funcs.length hc) sy.funcs.length ys (J12.out.rowH HT.out) (RowF.one_cell _ _ HT.out.ry) HMF.out HBFU.out (Nat.le_trans HT.out.lt.2 J12.out.kp.size) (by simp [Act.eval]) (by simp [Act.eval]) HT.out.nf ?_
            intro ao14 cap14 w14 h1 h2 h3 h4
            have J14 := Lib.hid (J12.out.appF HT.out h1 h2 h3 h4)
            have hS14 := HOT.out J14.out
            clear h1 h2 h3 h4
            refine hK.out _ _ hS14 (fun hHeld => ?_)
            clear hK K c013 c113 z013 z113 hS14
            try simp only [Act.put, List.setIfInBounds_toArray, List.set_cons_zero, List.set_cons_succ]
            have c015 := J14.out.c0
            have c115 := J14.out.c1
            have z015 := J14.out.z0
            have z115 := J14.out.z1
            refine wpAnyH_ready (rs := [11]) (by kernel_rfl) (by simp) ?_
            refine AllReadyH.cons (o := { dst := none, op := _, type := _, pos := _, after := _, guard := _ }) rfl (fun K hK => ?_) AllReadyH.nil
            go_simp
            have J16 := Lib.hid (J14.out.stoG HT.out (.slice ao12 (sx.globals.length + sy.globals.length) cap12))
            have hS16 := HOT.out J16.out
            refine hK.out _ _ hS16 (fun hHeld => ?_)
            clear hK K c015 c115 z015 z115 hS16
            refine wpAnyH_take (i := 12) (oi := { dst := some 68, op := _, type := _, pos := _, after := _, guard := _ }) (v := .pointer (some ⟨w2.heap.size, 1, none⟩)) rfl (by kernel_rfl) (by kernel_rfl) (by kernel_rfl) (fun _ _ _ h => h) (Or.inl ⟨by rfl, ?_⟩) hHeld ?_
            · intro W9 hSW
              (try dsimp only at hSW)
              go_simp
            try simp only [Act.put, List.setIfInBounds_toArray, List.set_cons_zero, List.set_cons_succ]
            have c017 := J16.out.c0
            have c117 := J16.out.c1
            have z017 := J16.out.z0
            have z117 := J16.out.z1
            refine wpAnyH_ready (rs := [13]) (by kernel_rfl) (by simp) ?_
            refine AllReadyH.cons (o := { dst := none, op := _, type := _, pos := _, after := _, guard := _ }) rfl (fun K hK => ?_) AllReadyH.nil
            go_simp
            have J18 := Lib.hid (J16.out.stoF HT.out (.slice ao14 (sx.funcs.length + sy.funcs.length) cap14))
            have hS18 := HOT.out J18.out
            refine hK.out _ _ hS18 (fun hHeld => ?_)
            clear hK K c017 c117 z017 z117 hS18
            refine wpAnyH_done (by kernel_rfl) ?_ _
            go_wp2_with fail
            go_meet
            exact ⟨xs, ys, _, _, HT.out, J18.out⟩
        · go_simp
          refine hK.out _ _ hHeld (fun hHeld => ?_)
          clear hK K c01 c11 z01 z11
          have c019 := HJ.out.c0
          have c119 := HJ.out.c1
          have z019 := HJ.out.z0
          have z119 := HJ.out.z1
          refine wpAnyH_ready (rs := [1]) (by kernel_rfl) (by simp) ?_
          refine AllReadyH.cons (o := { dst := some 58, op := _, type := _, pos := _, after := _, guard := _ }) rfl (fun K hK => ?_) AllReadyH.nil
          go_simp
          refine hK.out _ _ hHeld (fun hHeld => ?_)
          clear hK K c019 c119 z019 z119
          have c020 := HJ.out.c0
          have c120 := HJ.out.c1
          have z020 := HJ.out.z0
          have z120 := HJ.out.z1
          refine wpAnyH_ready (rs := [4]) (by kernel_rfl) (by simp) ?_
          refine AllReadyH.cons (o := { dst := some 61, op := _, type := _, pos := _, after := _, guard := _ }) rfl (fun K hK => ?_) AllReadyH.nil
          refine step_appendR rfl (.tmp 58) (.tmp 60) 23 64 rfl iG (.agg #[.string ByteArray.empty, .int .i64 0]) 2 24 Tryz.underlying23 hiG hzG0 hzG1 hzG2 rfl (by decide) w1.heap.size w1.heap.size (.slice ga sx.globals.length gc) sx.globals.length (glCells sx.globals) (by simpa using HJ.out.og) (.slice ka sy.globals.length kc) sy.globals.length (glCells sy.globals) (HJ.out.rowG HT.out) (one_cell_gl _) HMG.out HBG.out (Nat.le_trans HT.out.lt.2 HJ.out.kp.size) (by simp [Act.eval]) (by simp [Act.eval]) HT.out.ng ?_
          intro ao21 cap21 w21 h1 h2 h3 h4
          have J21 := Lib.hid (HJ.out.appG HT.out h1 h2 h3 h4)
          have hS21 := HOT.out J21.out
          clear h1 h2 h3 h4
          refine hK.out _ _ hS21 (fun hHeld => ?_)
          clear hK K c020 c120 z020 z120 hS21
          try simp only [Act.put, List.setIfInBounds_toArray, List.set_cons_zero, List.set_cons_succ]
          refine wpAnyH_take (i := 10) (oi := { dst := some 67, op := _, type := _, pos := _, after := _, guard := _ }) (v := .pointer (some ⟨w2.heap.size, 0, none⟩)) rfl (by kernel_rfl) (by kernel_rfl) (by kernel_rfl) (fun _ _ _ h => h) (Or.inl ⟨by rfl, ?_⟩) hHeld ?_
          · intro W9 hSW
            (try dsimp only at hSW)
            go_simp
          try simp only [Act.put, List.setIfInBounds_toArray, List.set_cons_zero, List.set_cons_succ]
          have c022 := J21.out.c0
          have c122 := J21.out.c1
          have z022 := J21.out.z0
          have z122 := J21.out.z1
          refine wpAnyH_ready (rs := [9]) (by kernel_rfl) (by simp) ?_
          refine AllReadyH.cons (o := { dst := some 66, op := _, type := _, pos := _, after := _, guard := _ }) rfl (fun K hK => ?_) AllReadyH.nil
          refine step_appendR rfl (.tmp 63) (.tmp 65) 24 45 rfl iF (.agg #[.string ByteArray.empty, .int .i64 0, .slice none 0 0, .int .i64 0, .slice none 0 0]) 5 80 Tryz.underlying24 hiF hzF0 hzF1 hzF2 rfl (by decide) w1.heap.size w1.heap.size (.slice fa sx.funcs.length fc) sx.funcs.length xs (by simpa using J21.out.of) (.slice ha sy.funcs.length hc) sy.funcs.length ys (J21.out.rowH HT.out) (RowF.one_cell _ _ HT.out.ry) HMF.out HBFU.out (Nat.le_trans HT.out.lt.2 J21.out.kp.size) (by simp [Act.eval]) (by simp [Act.eval]) HT.out.nf ?_
          intro ao23 cap23 w23 h1 h2 h3 h4
          have J23 := Lib.hid (J21.out.appF HT.out h1 h2 h3 h4)
          have hS23 := HOT.out J23.out
          clear h1 h2 h3 h4
          refine hK.out _ _ hS23 (fun hHeld => ?_)
          clear hK K c022 c122 z022 z122 hS23
          try simp only [Act.put, List.setIfInBounds_toArray, List.set_cons_zero, List.set_cons_succ]
          have c024 := J23.out.c0
          have c124 := J23.out.c1
          have z024 := J23.out.z0
          have z124 := J23.out.z1
          refine wpAnyH_ready (rs := [11]) (by kernel_rfl) (by simp) ?_
          refine AllReadyH.cons (o := { dst := none, op := _, type := _, pos := _, after := _, guard := _ }) rfl (fun K hK => ?_) AllReadyH.nil
          go_simp
          have J25 := Lib.hid (J23.out.stoG HT.out (.slice ao21 (sx.globals.length + sy.globals.length) cap21))
          have hS25 := HOT.out J25.out
          refine hK.out _ _ hS25 (fun hHeld => ?_)
          clear hK K c024 c124 z024 z124 hS25
          refine wpAnyH_take (i := 12) (oi := { dst := some 68, op := _, type := _, pos := _, after := _, guard := _ }) (v := .pointer (some ⟨w2.heap.size, 1, none⟩)) rfl (by kernel_rfl) (by kernel_rfl) (by kernel_rfl) (fun _ _ _ h => h) (Or.inl ⟨by rfl, ?_⟩) hHeld ?_
          · intro W9 hSW
            (try dsimp only at hSW)
            go_simp
          try simp only [Act.put, List.setIfInBounds_toArray, List.set_cons_zero, List.set_cons_succ]
          have c026 := J25.out.c0
          have c126 := J25.out.c1
          have z026 := J25.out.z0
          have z126 := J25.out.z1
          refine wpAnyH_ready (rs := [13]) (by kernel_rfl) (by simp) ?_
          refine AllReadyH.cons (o := { dst := none, op := _, type := _, pos := _, after := _, guard := _ }) rfl (fun K hK => ?_) AllReadyH.nil
          go_simp
          have J27 := Lib.hid (J25.out.stoF HT.out (.slice ao23 (sx.funcs.length + sy.funcs.length) cap23))
          have hS27 := HOT.out J27.out
          refine hK.out _ _ hS27 (fun hHeld => ?_)
          clear hK K c026 c126 z026 z126 hS27
          refine wpAnyH_done (by kernel_rfl) ?_ _
          go_wp2_with fail
          go_meet
          exact ⟨xs, ys, _, _, HT.out, J27.out⟩
      case rest =>
        obtain ⟨xs', ys', rg, rf, htw, hjj⟩ := hcut
        have hsx := hjj.src htw
        obtain ⟨ra, rc, hrg⟩ := ownsRow_form hsx.choose_spec.1
        obtain ⟨rfa, rfc, hrf⟩ := ownsRow_form hsx.choose_spec.2.1
        have hrg' : rg = .slice ra (sx.globals.length + sy.globals.length) rc := by rw [hrg]; exact congrArg (fun n => Value.slice ra n rc) List.length_append
        have hrf' : rf = .slice rfa (sx.funcs.length + sy.funcs.length) rfc := by rw [hrf]; exact congrArg (fun n => Value.slice rfa n rfc) List.length_append
        clear hrg hrf
        subst hrg' hrf'
        have hnb : ∀ k, w2.heap.size < k → ¬ (k = w2.heap.size ∨ Value.ownBlock (.slice ga sx.globals.length gc) = some k ∨ Value.ownBlock (.slice fa sx.funcs.length fc) = some k) := fun k h e => by
          rcases e with e | e | e
          · omega
          · have := (own_ge HOX.out.choose_spec.1 _ e).2; omega
          · have := (own_ge HOX.out.choose_spec.2.1 _ e).2; omega
        have hnl : ∀ k, k < w1.heap.size → ¬ (k = w2.heap.size ∨ Value.ownBlock (.slice ga sx.globals.length gc) = some k ∨ Value.ownBlock (.slice fa sx.funcs.length fc) = some k) := fun k h e => by
          have h9 := HB12.out.size
          rcases e with e | e | e
          · omega
          · have := (own_ge HOX.out.choose_spec.1 _ e).1; omega
          · have := (own_ge HOX.out.choose_spec.2.1 _ e).1; omega
        have hbc : Below w.heap.size w wc := HB4F.out.trans (hjj.kp.below HB4F.out.size (fun k _ e => Nat.le_of_not_lt fun h => hnl k (Nat.lt_of_lt_of_le h HB1.out.size) e))
        have hoz2 : SrcO wc (w3.alloc (.cells #[.slice ka sy.globals.length kc, .slice ha sy.funcs.length hc] 26)).heap.size sz (.slice za sz.globals.length zc) (.slice fza sz.funcs.length fzc) := (((hoz.keeps (S := fun _ => False) ((Keeps.refl _ _).alloc _) (fun _ _ e => e)).keeps (S := fun _ => False) ((Keeps.refl _ _).drew) (fun _ _ e => e)).keeps hjj.kp (fun k h => hnb k (by omega)))
        have c0 := hjj.c0
        have c1 := hjj.c1
        have hq4 := hnb w4.heap.size (Nat.lt_trans hw2 hw4)
        have d0 : wc.cell? ⟨w4.heap.size, 0, none⟩ = some (.slice za sz.globals.length zc) := hjj.other hq4 (by show (w4.alloc (.cells #[.slice za sz.globals.length zc, .slice fza sz.funcs.length fzc] 26)).cell? _ = _; exact cell_new _ _ _ 0 _ rfl (by simp))
        have d1 : wc.cell? ⟨w4.heap.size, 1, none⟩ = some (.slice fza sz.funcs.length fzc) := hjj.other hq4 (by show (w4.alloc (.cells #[.slice za sz.globals.length zc, .slice fza sz.funcs.length fzc] 26)).cell? _ = _; exact cell_new _ _ _ 1 _ rfl (by simp))
        have HEC := Lib.hid (HE.out.below hbc)
        have HBC := Lib.hid hbc
        have HSX := Lib.hid hsx
        have HSZ := Lib.hid hoz2
        clear htw hjj hsx hnb hnl hbc hoz2 hq4 hiG hzG0 hzG1 hzG2 hiF hzF0 hzF1 hzF2
        have hEN := err_isNone
        go_upto_region 9 with fail
        have hvd : Below wc.heap.size wc wc.drew := Below.drew (Below.refl _ _)
        have HLT : Hid (w2.heap.size < wc.heap.size ∧ w4.heap.size < wc.heap.size) := Lib.hid ⟨block_lt_of_cell c0, block_lt_of_cell d0⟩
        have HPZ := Lib.hid (print_any wc.drew (SrcO.toG (HSZ.out.keeps (S := fun _ => False) ((Keeps.refl _ _).drew) (fun _ _ e => e)) (fun b h1 _ => h1)) (HEC.out.below hvd).penv hokz hlz)
        have HPX : Hid (∀ V : World, Below wc.drew.heap.size wc.drew V → Tells V 14 #[.agg #[.slice ra (sx.globals.length + sy.globals.length) rc, .slice rfa (sx.funcs.length + sy.funcs.length) rfc]] (printV sz)) := Lib.hid fun V hV => by
          have h1 := print_any V (SrcO.toG (((HSX.out.keeps (S := fun _ => False) ((Keeps.refl _ _).drew) (fun _ _ e => e)).keeps (S := fun _ => False) (Keeps.of_new hV) (fun _ _ e => e))) (fun b h1 _ => h1)) ((HEC.out.below hvd).below hV).penv hokx (by rw [← hpz]; exact hlz)
          rw [← hpz] at h1
          exact h1
        unfold Tells at HPZ HPX
        clear hvd
        refine wp_region_held_drew (S := (fun W' : World => (W'.cell? ⟨w4.heap.size, 0, none⟩ = some (.slice za sz.globals.length zc) ∧ W'.cell? ⟨w4.heap.size, 1, none⟩ = some (.slice fza sz.funcs.length fzc)) ∧ (W'.cell? ⟨w2.heap.size, 0, none⟩ = some (.slice ra (sx.globals.length + sy.globals.length) rc) ∧ W'.cell? ⟨w2.heap.size, 1, none⟩ = some (.slice rfa (sx.funcs.length + sy.funcs.length) rfc)))) (by kernel_rfl) ⟨⟨d0, d1⟩, c0, c1⟩ (fun hHeld => ?_)
        have HBV := Lib.hid (HBC.out.trans (Below.drew (Below.refl _ _)))
        have HLV : Hid (w2.heap.size < wc.drew.heap.size ∧ w4.heap.size < wc.drew.heap.size) := Lib.hid HLT.out
        clear c0 c1 d0 d1 HLT HBC
        generalize wc.drew = V at *
        refine wpAnyH_take (i := 0) (oi := { dst := some 69, op := _, type := _, pos := _, after := _, guard := _ }) (v := .nilIface) rfl (by kernel_rfl) (by kernel_rfl) (by kernel_rfl) (fun _ _ _ h => h) (Or.inl ⟨by rfl, ?_⟩) hHeld ?_
        · intro W9 hSW
          (try dsimp only at hSW)
          go_simp
        try simp only [Act.put, List.setIfInBounds_toArray, List.set_cons_zero, List.set_cons_succ]
        refine wpAnyH_take (i := 1) (oi := { dst := some 70, op := _, type := _, pos := _, after := _, guard := _ }) (v := .bool true) rfl (by kernel_rfl) (by kernel_rfl) (by kernel_rfl) (fun _ _ _ h => h) (Or.inl ⟨by rfl, ?_⟩) hHeld ?_
        · intro W9 hSW
          (try dsimp only at hSW)
          go_simp
        try simp only [Act.put, List.setIfInBounds_toArray, List.set_cons_zero, List.set_cons_succ]
        refine wpAnyH_take (i := 2) (oi := { dst := some 71, op := _, type := _, pos := _, after := _, guard := _ }) (v := .bool true) rfl (by kernel_rfl) (by kernel_rfl) (by kernel_rfl) (fun _ _ _ h => h) (Or.inl ⟨by rfl, ?_⟩) hHeld ?_
        · intro W9 hSW
          (try dsimp only at hSW)
          go_simp
        try simp only [Act.put, List.setIfInBounds_toArray, List.set_cons_zero, List.set_cons_succ]
        refine wpAnyH_take (i := 3) (oi := { dst := some 72, op := _, type := _, pos := _, after := _, guard := _ }) (v := .agg #[.slice za sz.globals.length zc, .slice fza sz.funcs.length fzc]) rfl (by kernel_rfl) (by kernel_rfl) (by kernel_rfl) (fun _ _ _ h => h) (Or.inl ⟨by rfl, ?_⟩) hHeld ?_
        · intro W9 hSW
          (try dsimp only at hSW)
          go_simp
        try simp only [Act.put, List.setIfInBounds_toArray, List.set_cons_zero, List.set_cons_succ]
        refine wpAnyH_take (i := 5) (oi := { dst := some 74, op := _, type := _, pos := _, after := _, guard := _ }) (v := .agg #[.slice ra (sx.globals.length + sy.globals.length) rc, .slice rfa (sx.funcs.length + sy.funcs.length) rfc]) rfl (by kernel_rfl) (by kernel_rfl) (by kernel_rfl) (fun _ _ _ h => h) (Or.inl ⟨by rfl, ?_⟩) hHeld ?_
        · intro W9 hSW
          (try dsimp only at hSW)
          go_simp
        try simp only [Act.put, List.setIfInBounds_toArray, List.set_cons_zero, List.set_cons_succ]
        refine wpAnyH_ready (rs := [4]) (by kernel_rfl) (by simp) ?_
        refine AllReadyH.cons (o := { dst := some 73, op := _, type := _, pos := _, after := _, guard := _ }) rfl (fun K hK => ?_) AllReadyH.nil
        go_simp
        go_at_call 14
        refine HPZ.out.mono ?_
        rintro e w8 ⟨rfl, hb8⟩
        have hS8 : (w8.cell? ⟨w4.heap.size, 0, none⟩ = some (.slice za sz.globals.length zc) ∧ w8.cell? ⟨w4.heap.size, 1, none⟩ = some (.slice fza sz.funcs.length fzc)) ∧ (w8.cell? ⟨w2.heap.size, 0, none⟩ = some (.slice ra (sx.globals.length + sy.globals.length) rc) ∧ w8.cell? ⟨w2.heap.size, 1, none⟩ = some (.slice rfa (sx.funcs.length + sy.funcs.length) rfc)) := by
          rw [hb8.cell (p := ⟨w4.heap.size, 0, none⟩) HLV.out.2, hb8.cell (p := ⟨w4.heap.size, 1, none⟩) HLV.out.2, hb8.cell (p := ⟨w2.heap.size, 0, none⟩) HLV.out.1, hb8.cell (p := ⟨w2.heap.size, 1, none⟩) HLV.out.1]
          exact hHeld
        have HX8 := Lib.hid (HPX.out w8 hb8)
        have HB8 := Lib.hid (HBV.out.trans (hb8.mono HBV.out.size))
        have HLV8 : Hid (w2.heap.size < w8.heap.size ∧ w4.heap.size < w8.heap.size) := Lib.hid ⟨Nat.lt_of_lt_of_le HLV.out.1 hb8.size, Nat.lt_of_lt_of_le HLV.out.2 hb8.size⟩
        clear hb8
        refine hK.out _ _ hS8 (fun hHeld => ?_)
        clear hK K hS8
        refine wpAnyH_ready (rs := [6]) (by kernel_rfl) (by simp) ?_
        refine AllReadyH.cons (o := { dst := some 75, op := _, type := _, pos := _, after := _, guard := _ }) rfl (fun K hK => ?_) AllReadyH.nil
        go_simp
        go_at_call 14
        refine HX8.out.mono ?_
        rintro e w9 ⟨rfl, hb9⟩
        have hS9 : (w9.cell? ⟨w4.heap.size, 0, none⟩ = some (.slice za sz.globals.length zc) ∧ w9.cell? ⟨w4.heap.size, 1, none⟩ = some (.slice fza sz.funcs.length fzc)) ∧ (w9.cell? ⟨w2.heap.size, 0, none⟩ = some (.slice ra (sx.globals.length + sy.globals.length) rc) ∧ w9.cell? ⟨w2.heap.size, 1, none⟩ = some (.slice rfa (sx.funcs.length + sy.funcs.length) rfc)) := by
          rw [hb9.cell (p := ⟨w4.heap.size, 0, none⟩) HLV8.out.2, hb9.cell (p := ⟨w4.heap.size, 1, none⟩) HLV8.out.2, hb9.cell (p := ⟨w2.heap.size, 0, none⟩) HLV8.out.1, hb9.cell (p := ⟨w2.heap.size, 1, none⟩) HLV8.out.1]
          exact hHeld
        have HB9 := Lib.hid (HB8.out.trans (hb9.mono HB8.out.size))
        clear hb9
        refine hK.out _ _ hS9 (fun hHeld => ?_)
        clear hK K hS9
        refine wpAnyH_take (i := 7) (oi := { dst := some 76, op := _, type := _, pos := _, after := _, guard := _ }) (v := .bool true) rfl (by kernel_rfl) (by kernel_rfl) (by kernel_rfl) (fun _ _ _ h => h) (Or.inl ⟨by rfl, ?_⟩) hHeld ?_
        · intro W9 hSW
          (try dsimp only at hSW)
          go_simp
        try simp only [Act.put, List.setIfInBounds_toArray, List.set_cons_zero, List.set_cons_succ]
        refine wpAnyH_take (i := 8) (oi := { dst := some 77, op := _, type := _, pos := _, after := _, guard := _ }) (v := .bool true) rfl (by kernel_rfl) (by kernel_rfl) (by kernel_rfl) (fun _ _ _ h => h) (Or.inl ⟨by rfl, ?_⟩) hHeld ?_
        · intro W9 hSW
          (try dsimp only at hSW)
          go_simp
        try simp only [Act.put, List.setIfInBounds_toArray, List.set_cons_zero, List.set_cons_succ]
        refine wpAnyH_take (i := 9) (oi := { dst := some 4, op := _, type := _, pos := _, after := _, guard := _ }) (v := .bool true) rfl (by kernel_rfl) (by kernel_rfl) (by kernel_rfl) (fun _ _ _ h => h) (Or.inl ⟨by rfl, ?_⟩) hHeld ?_
        · intro W9 hSW
          (try dsimp only at hSW)
          go_simp
        try simp only [Act.put, List.setIfInBounds_toArray, List.set_cons_zero, List.set_cons_succ]
        refine wpAnyH_done (by kernel_rfl) ?_ _
        go_wp2_with fail
        go_ret
        exact ⟨rfl, HB9.out⟩
    · go_wp2_with fail
      go_ret
      exact ⟨rfl, HBF.out.trans ((fresh_alloc _ _ _).mono HBF.out.size)⟩
  · have hbx := fresh_alloc w2 #[.slice none 0 0, .slice none 0 0] 26
    have HEX := Lib.hid (HE2.out.below hbx)
    have HBX := Lib.hid hbx
    clear hbx
    go_wp2_with fail
    refine (read_any b _ HEX.out).mono ?_
    rintro e w3 ⟨hrb, hb3⟩
    have HBF := Lib.hid (HB2.out.trans ((HBX.out.trans (hb3.mono HBX.out.size)).mono HB2.out.size))
    clear hb3
    rcases hrb with ⟨ty, sy, my, gyv, fyv, hsb, hty, hevy, rfl, hoy⟩ | rfl
    · obtain ⟨ka, kc, rfl⟩ := ownsRow_form hoy.choose_spec.1
      obtain ⟨ha, hc, rfl⟩ := ownsRow_form hoy.choose_spec.2.1
      clear hsb hty hevy hoy
      go_wp2_with fail
      go_ret
      exact ⟨rfl, HBF.out.trans ((fresh_alloc _ _ _).mono HBF.out.size)⟩
    · go_wp2_with fail
      go_ret
      exact ⟨rfl, HBF.out.trans ((fresh_alloc _ _ _).mono HBF.out.size)⟩
end Go.Proofs.YtgonbmcojjcabaaGreatDoor

namespace Go.Proofs.YtgonbmcojjcabaaGreatDoor
open Go.RowKit Lx

theorem iface_of_trod {H : Type} {enc : TypeId × Value → H} {P : Program} {w : World} {base : Nat} {sp : Nat → Bool} {fuel : Nat} {t : TypeId} {cs : List Value} {name : String} {d : DataW H} {p : List MemPlace}
    (ht : ∃ ms, P.underlying t = some (.interface ms)) (h : DataW.trod enc P w base sp false fuel t cs = some (.iface name d, p)) : ∃ u v, cs = [.iface u v] := by
  cases fuel with
  | zero => simp [DataW.trod] at h
  | succ fuel =>
    obtain ⟨ms, ht⟩ := ht
    match cs with
    | [] => simp [DataW.trod, ht] at h
    | a :: b :: r => simp [DataW.trod, ht] at h
    | [a] =>
      cases a <;> first | exact ⟨_, _, rfl⟩ | (simp [DataW.trod, ht] at h; done)

theorem xU8 : Go.Proofs.U8Extra Tryz.prog Tryz.lays260_ren := ⟨by kernel_rfl, by kernel_rfl, by kernel_rfl, by kernel_rfl, by kernel_rfl, by kernel_rfl, by kernel_rfl⟩
theorem gSigs : Tryz.prog.globalNamed "sluiceway/lex.signs" = some 3 := by kernel_rfl
theorem tSigs : (Tryz.prog.globals[3]?).map (·.type) = some 181 := by kernel_rfl
theorem cSigs : Tryz.prog.cellsOf 181 = 28 := by kernel_rfl
theorem cStr : Tryz.prog.cellsOf 9 = 1 := by kernel_rfl
theorem gErrR : Tryz.prog.globalNamed "strconv.ErrRange" = some 8 := by kernel_rfl
theorem tErrR : (Tryz.prog.globals[8]?).map (·.type) = some 33 := by kernel_rfl

theorem lexEnv_of {W : World} {l : List (String × DataW Unit)} (h : laidMet Tryz.prog l W) (m1 : ("unicode/utf8.first", Rows.laid_unicode_utf8_first) ∈ l) (m2 : ("unicode/utf8.acceptRanges", Rows.laid_unicode_utf8_acceptRanges) ∈ l)
    (m3 : ("strconv.ErrRange", Rows.laid_strconv_ErrRange) ∈ l) (m4 : ("sluiceway/lex.signs", Rows.laid_sluiceway_lex_signs) ∈ l) : LexEnv W.heap.size W := by
  have r1 := Go.Lib.laidMet.reads h m1
  have r2 := Go.Lib.laidMet.reads h m2
  have r3 := Go.Lib.laidMet.reads h m3
  have r4 := Go.Lib.laidMet.reads h m4
  have hT : Tabs W := Go.Proofs.utf8Tabs_of_reads Tryz.lays260 xU8 (Pinned.utf8First_eq ▸ r1) (show Go.Lib.VarReads Tryz.prog W "unicode/utf8.acceptRanges" Go.Lib.acceptData from r2)
  have hE : ErrR W := by
    obtain ⟨g, t, cs, fuel, p, hg, hty, hvar, hd⟩ := r3
    obtain rfl := Option.some.inj (gErrR.symm.trans hg)
    obtain rfl := Option.some.inj (tErrR.symm.trans hty)
    obtain ⟨u, v, hcs⟩ := iface_of_trod ⟨_, Tryz.underlying33⟩ hd
    refine ⟨u, v, ?_⟩
    have := World.var?_cell gErrR hvar 0
    rw [this, ← Array.getElem?_toList, hcs]
    rfl
  have hS : Sgs W := by
    obtain ⟨g, t, cs, fuel, p, hg, hty, hvar, hd⟩ := r4
    obtain rfl := Option.some.inj (gSigs.symm.trans hg)
    obtain rfl := Option.some.inj (tSigs.symm.trans hty)
    have hcs := cells_of_tabS (zs := sigsL) Tryz.underlying181 Tryz.underlying9 cStr cSigs hd
    intro n hn
    have := World.var?_cell gSigs hvar n
    rw [this, ← Array.getElem?_toList, hcs, List.getElem?_map, List.getD_eq_getElem?_getD]
    have hl : n < sigsL.length := hn
    rw [List.getElem?_eq_getElem hl]
    rfl
  exact ⟨hT, hE, hS, hT.lt.1, hT.lt.2, by obtain ⟨tp, p, hc⟩ := hE; exact block_lt_of_cell hc, block_lt_of_cell (hS 0 (by decide))⟩
end Go.Proofs.YtgonbmcojjcabaaGreatDoor

namespace Go.Proofs.YtgonbmcojjcabaaGreatDoor
open Go.RowKit Lx
theorem tPowT : (Tryz.prog.globals[9]?).map (·.type) = some 241 := by kernel_rfl
theorem cells_u64T : Tryz.prog.cellsOf 202 = 1 := by kernel_rfl
theorem cells_powT : Tryz.prog.cellsOf 241 = 20 := by kernel_rfl
theorem gKindsT : Tryz.prog.globalNamed "sluiceway/tree.kinds" = some 2 := by kernel_rfl
theorem tKindsT : (Tryz.prog.globals[2]?).map (·.type) = some 156 := by kernel_rfl
theorem cells_kindsT : Tryz.prog.cellsOf 156 = 4 := by kernel_rfl
/-- What the row of TreePieces (of TreeAgain, of TreeBrackets) gives. -/
theorem treeLaw_laid {W : World} (h : laidMetH Tryz.prog Rows.treePiecesRow.laid W) : LawEnv W := by
  rw [MakeChecks.laidMetH_plain _ _ _ (by kernel_rfl)] at h
  have hl : LexEnv W.heap.size W := lexEnv_of h (by repeat' first | exact List.mem_cons_self .. | apply List.mem_cons_of_mem) (by repeat' first | exact List.mem_cons_self .. | apply List.mem_cons_of_mem) (by repeat' first | exact List.mem_cons_self .. | apply List.mem_cons_of_mem) (by repeat' first | exact List.mem_cons_self .. | apply List.mem_cons_of_mem)
  have r5 := Go.Lib.laidMet.reads h (show (("sluiceway/arith.signs", Rows.laid_sluiceway_arith_signs) : String × DataW Unit) ∈ Rows.treePiecesRow.laid from by repeat' first | exact List.mem_cons_self .. | apply List.mem_cons_of_mem)
  have r6 := Go.Lib.laidMet.reads h (show (("sluiceway/tree.kinds", Rows.laid_sluiceway_tree_kinds) : String × DataW Unit) ∈ Rows.treePiecesRow.laid from by repeat' first | exact List.mem_cons_self .. | apply List.mem_cons_of_mem)
  have hS : Signs W := by
    obtain ⟨g, t, cs, fuel, p, hg, hty, hvar, hd⟩ := r5
    obtain rfl := Option.some.inj (gSigns.symm.trans hg)
    obtain rfl := Option.some.inj (tSigns.symm.trans hty)
    have hcs := cells_of_tabS (zs := signsL) Tryz.underlying124 Tryz.underlying9 cells_string cells_signs hd
    intro n hn
    have := World.var?_cell gSigns hvar n
    rw [this, ← Array.getElem?_toList, hcs, List.getElem?_map]
    unfold signL
    rw [List.getD_eq_getElem?_getD]
    have hl : n < signsL.length := hn
    rw [List.getElem?_eq_getElem hl]
    rfl
  have hK : KindsT W := by
    obtain ⟨g, t, cs, fuel, p, hg, hty, hvar, hd⟩ := r6
    obtain rfl := Option.some.inj (gKindsT.symm.trans hg)
    obtain rfl := Option.some.inj (tKindsT.symm.trans hty)
    have hcs := cells_of_tabS (zs := kindsL) Tryz.underlying156 Tryz.underlying9 cells_string cells_kindsT hd
    intro n hn
    have := World.var?_cell gKindsT hvar n
    rw [this, ← Array.getElem?_toList, hcs, List.getElem?_map, List.getD_eq_getElem?_getD]
    have hl : n < kindsL.length := hn
    rw [List.getElem?_eq_getElem hl]
    rfl
  have hP : PowT W := Lib.tabIs_of_head (rest := []) gPowT tPowT Tryz.underlying241 Tryz.underlying202 cells_u64T cells_powT (h.filter fun x => x.1 == "internal/strconv.uint64pow10")
  exact ⟨⟨hl, hS, hK, block_lt_of_cell (hS 0 (by decide)), block_lt_of_cell (hK 0 (by decide))⟩, hP, block_lt_of_cell (World.var?_cell gPowT hP 0)⟩
end Go.Proofs.YtgonbmcojjcabaaGreatDoor
