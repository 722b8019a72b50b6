/-
  Texts of one proof, in build order: What chapter 8's laws share: what they want of the tables, long, read. | A program's rows, wherever they may lie. | What the laws hold up of one program: its tree, and how it is written. | How tokens that are written are cut again: words, numbers, signs, by what stands behind them. | Numbers as they are written; the trees that a reader makes; what their texts are cut into. | What the text of an expression is cut into. | What is written of an expression is read as it. | What the text of statements is cut into; the statements that a reader makes. | What is written of statements is read as them. | .. each statement; a select's cases. | .. a select's cases; all statements; a function; a program.
-/
import Derived.Test.YtgonbmcojjcabaaGreatDoorAg10
import Derived.Lib.ItoaNum
namespace Go.Proofs.YtgonbmcojjcabaaGreatDoor
open Go.RowKit Lx Tr
variable {w w' : World}

/-- What the laws want of the tables. -/
structure LawEnv (w : World) : Prop where
  tree : TreeEnv w
  pow : PowT w
  pb : 9 < w.heap.size
theorem LawEnv.penv (h : LawEnv w) : PEnv w.heap.size w := ⟨h.tree.signs, h.tree.b1, h.pow, h.pb, h.tree.kinds, h.tree.b2⟩
theorem LawEnv.below (h : LawEnv w) (hb : Below w.heap.size w w') : LawEnv w' := by
  have hl := h.tree.lex.below hb (Nat.le_refl _)
  have hp := h.penv.below hb
  have hz := hb.size
  exact ⟨⟨⟨hl.tabs, hl.errR, hl.sgs, by have := hl.b1; omega, by have := hl.b2; omega, by have := hl.b3; omega, by have := hl.b4; omega⟩, hp.signs, hp.kinds, by have := hp.b1; omega, by have := hp.b3; omega⟩, hp.pow, by have := hp.b2; omega⟩
theorem err_isNone (w : World) : (binOp BinOp.eql 33 .nilIface .nilIface).run Tryz.prog w = .ok (.bool true) w := by kernel_rfl
theorem err_isAt (p : Addr) (w : World) : (binOp BinOp.eql 33 (.iface 107 (.pointer (some p))) .nilIface).run Tryz.prog w = .ok (.bool false) w := by kernel_rfl

theorem longT_any (s : ByteArray) (w : World) : Calls Tryz.prog 39 #[.string s] w fun e w' => e = .returned (.bool (decide (1500 < s.size))) ∧ w = w' := by
  go_enter Tryz.func39, Tryz.ntmps39
  go_wp2_with fail
  go_ret
  refine ⟨?_, rfl⟩
  have e : ((1500 : Int) < (s.size : Int)) ↔ 1500 < s.size := by omega
  show Ending.returned (Value.bool (decide ((1500 : Int) < (s.size : Int)))) = _
  rw [decide_eq_decide.2 e]

/-- What read answers. -/
def ReadSays (w w' : World) (s : ByteArray) (e : Ending) : Prop :=
  (∃ ts src m gv fv, s.size ≤ 1500 ∧ lx s.data.toList 0 false = (ts, none) ∧ Ev (fun f => Tr.program ⟨ts, s.size⟩ f ⟨[], []⟩ 0) (.ok src m) ∧ e = .returned (.tuple #[.agg #[gv, fv], .bool true]) ∧ SrcO w' w.heap.size src gv fv) ∨ e = .returned (.tuple #[.agg #[.slice none 0 0, .slice none 0 0], .bool false])

/-- What Parse answers, of a text that is not too long: in two forms. -/
theorem parse_two {s : ByteArray} {e : Ending} (hs : s.size ≤ 4000) (h : ParseSays w w' s e) : (∃ ts src m gv fv, lx s.data.toList 0 false = (ts, none) ∧ Ev (fun f => Tr.program ⟨ts, s.size⟩ f ⟨[], []⟩ 0) (.ok src m) ∧ e = .returned (.tuple #[.agg #[gv, fv], .nilIface]) ∧ SrcO w' w.heap.size src gv fv) ∨
    ∃ b, e = .returned (.tuple #[.agg #[.slice none 0 0, .slice none 0 0], .iface 107 (.pointer (some ⟨b, 0, none⟩))]) := by
  unfold ParseSays at h
  rw [if_neg (by omega)] at h
  split at h
  · obtain ⟨x, rfl, b, rfl, _⟩ := h
    exact Or.inr ⟨b, rfl⟩
  · rename_i ts hts
    obtain ⟨r, hev, hr⟩ := h
    cases r with
    | out => exact hr.elim
    | bad k a =>
      obtain ⟨x, rfl, b, rfl, _⟩ := hr
      exact Or.inr ⟨b, rfl⟩
    | ok src m =>
      obtain ⟨gv, fv, rfl, hs⟩ := hr
      exact Or.inl ⟨ts, src, m, gv, fv, hts, hev, rfl, hs⟩

set_option maxRecDepth 100000 in
set_option maxHeartbeats 3200000 in
theorem read_any (s : ByteArray) (w : World) (hE : LawEnv w) : Calls Tryz.prog 17 #[.string s] w fun e w' => ReadSays w w' s e ∧ Below w.heap.size w w' := by
  have hb0 := fresh_alloc w #[.slice none 0 0, .slice none 0 0] 26
  have HL := Lib.hid (longT_any s (w.alloc (.cells #[.slice none 0 0, .slice none 0 0] 26)))
  have HP := Lib.hid (treeParse_any s (w.alloc (.cells #[.slice none 0 0, .slice none 0 0] 26)) (hE.below hb0).tree)
  have HB0 := Lib.hid hb0
  clear hE hb0
  go_enter Tryz.func17, Tryz.ntmps17
  go_wp2_with fail
  refine HL.out.mono ?_
  rintro e w1 ⟨rfl, rfl⟩
  by_cases hs : 1500 < s.size
  · rw [decide_eq_true hs]
    clear hs
    go_wp2_with fail
    refine bodyPost_ret (v := .tuple #[noSrc, .bool false]) (by simp [results, Tryz.results17, go_sem]; rfl) rfl ?_
    exact ⟨Or.inr rfl, HB0.out⟩
  · rw [decide_eq_false hs]
    have HS : Hid (s.size ≤ 1500) := Lib.hid (by omega)
    clear hs
    go_wp2_with fail
    refine HP.out.mono ?_
    rintro e w2 ⟨hsay, hb2⟩
    have hz : w.heap.size < w2.heap.size := Nat.lt_of_lt_of_le (by simp) hb2.size
    have c0 : w2.cell? ⟨w.heap.size, 0, none⟩ = some (.slice none 0 0) := by rw [hb2.cell (p := ⟨w.heap.size, 0, none⟩) (by simp)]; exact cell_new _ _ _ 0 _ rfl (by simp)
    have c1 : w2.cell? ⟨w.heap.size, 1, none⟩ = some (.slice none 0 0) := by rw [hb2.cell (p := ⟨w.heap.size, 1, none⟩) (by simp)]; exact cell_new _ _ _ 1 _ rfl (by simp)
    have z0 : w2.frozen? ⟨w.heap.size, 0, none⟩ = false := by rw [hb2.frozen (p := ⟨w.heap.size, 0, none⟩) (by simp)]; exact World.frozen?_alloc_new _ _ _ _
    have z1 : w2.frozen? ⟨w.heap.size, 1, none⟩ = false := by rw [hb2.frozen (p := ⟨w.heap.size, 1, none⟩) (by simp)]; exact World.frozen?_alloc_new _ _ _ _
    have HB2 := Lib.hid (HB0.out.trans (hb2.mono HB0.out.size))
    have HZ := Lib.hid hz
    rcases parse_two (by have := HS.out; omega) hsay with ⟨ts, src, m, gv, fv, hts, hev, rfl, hsrc⟩ | ⟨b, rfl⟩
    · obtain ⟨⟨ga, gl, gc, rfl⟩, fa, fl, fc, rfl⟩ := hsrc.form
      have HTS := Lib.hid hts
      have HEV := Lib.hid hev
      have HSRC := Lib.hid hsrc
      clear hsay hb2 hts hev hsrc
      have hE1 := err_isNone
      go_wp2_with fail
      go_region
      go_wp2_with fail
      try simp only [Exit.inBlock, Exit.then]
      have hks : Keeps (fun k => k = w.heap.size) w2 ((((w2.setCell ⟨w.heap.size, 0, none⟩ (.slice ga gl gc)).setCell ⟨w.heap.size, 1, none⟩ (.slice fa fl fc)).alloc (.cells #[.slice ga gl gc, .slice fa fl fc] 26)).drew) := ((own2 (w := w2)).alloc _).drew
      have e0 : (((w2.setCell ⟨w.heap.size, 0, none⟩ (.slice ga gl gc)).setCell ⟨w.heap.size, 1, none⟩ (.slice fa fl fc)).alloc (.cells #[.slice ga gl gc, .slice fa fl fc] 26)).cell? ⟨w.heap.size, 0, none⟩ = some (.slice ga gl gc) := cell_more (by rw [World.cell?_setCell_other _ _ _ _ (fun e => by injection e with _ e _; cases e)]; exact World.cell?_setCell_same _ _ _ c0)
      have e1 : (((w2.setCell ⟨w.heap.size, 0, none⟩ (.slice ga gl gc)).setCell ⟨w.heap.size, 1, none⟩ (.slice fa fl fc)).alloc (.cells #[.slice ga gl gc, .slice fa fl fc] 26)).cell? ⟨w.heap.size, 1, none⟩ = some (.slice fa fl fc) := cell_more (World.cell?_setCell_same _ _ _ (by rw [World.cell?_setCell_other _ _ _ _ (fun e => by injection e with _ e _; cases e)]; exact c1))
      refine bodyPost_ret (v := .tuple #[.agg #[.slice ga gl gc, .slice fa fl fc], .bool true]) (by simp [results, Tryz.results17, go_sem, e0, e1]) rfl ?_
      have hz0 := HZ.out
      exact ⟨Or.inl ⟨ts, src, m, _, _, HS.out, HTS.out, HEV.out, rfl, SrcO.mono (B := (w.alloc (.cells #[.slice none 0 0, .slice none 0 0] 26)).heap.size) (by simp) (HSRC.out.keeps hks (fun b e e2 => by have h9 : b = w.heap.size := e2; have h8 : w.heap.size + 1 ≤ b := (by simpa using e); omega))⟩, HB2.out.trans (hks.below (by omega) (fun k _ e => by have h9 : k = w.heap.size := e; omega))⟩
    · clear hsay hb2
      have hE1 := err_isAt ⟨b, 0, none⟩
      go_wp2_with fail
      go_region
      go_wp2_with fail
      try simp only [Exit.inBlock, Exit.then]
      have hks : Keeps (fun k => k = w.heap.size) w2 ((((w2.setCell ⟨w.heap.size, 0, none⟩ (.slice none 0 0)).setCell ⟨w.heap.size, 1, none⟩ (.slice none 0 0)).alloc (.cells #[.slice none 0 0, .slice none 0 0] 26)).drew) := ((own2 (w := w2)).alloc _).drew
      have e0 : (((w2.setCell ⟨w.heap.size, 0, none⟩ (.slice none 0 0)).setCell ⟨w.heap.size, 1, none⟩ (.slice none 0 0)).alloc (.cells #[.slice none 0 0, .slice none 0 0] 26)).cell? ⟨w.heap.size, 0, none⟩ = some (.slice none 0 0) := cell_more (by rw [World.cell?_setCell_other _ _ _ _ (fun e => by injection e with _ e _; cases e)]; exact World.cell?_setCell_same _ _ _ c0)
      have e1 : (((w2.setCell ⟨w.heap.size, 0, none⟩ (.slice none 0 0)).setCell ⟨w.heap.size, 1, none⟩ (.slice none 0 0)).alloc (.cells #[.slice none 0 0, .slice none 0 0] 26)).cell? ⟨w.heap.size, 1, none⟩ = some (.slice none 0 0) := cell_more (World.cell?_setCell_same _ _ _ (by rw [World.cell?_setCell_other _ _ _ _ (fun e => by injection e with _ e _; cases e)]; exact c1))
      refine bodyPost_ret (v := .tuple #[.agg #[.slice none 0 0, .slice none 0 0], .bool false]) (by simp [results, Tryz.results17, go_sem, e0, e1]) rfl ?_
      have hz0 := HZ.out
      exact ⟨Or.inr rfl, HB2.out.trans (hks.below (by omega) (fun k _ e => by have h9 : k = w.heap.size := e; omega))⟩
end Go.Proofs.YtgonbmcojjcabaaGreatDoor

namespace Go.Proofs.YtgonbmcojjcabaaGreatDoor
open Go.RowKit Lx Tr
variable {w w' : World}

theorem ownsRow_form {w : World} {base : Nat} {e : TypeId} {size : Nat} {v : Value} {n : Nat} {xs : List Value} (h : w.ownsRow base e size v n xs) : ∃ ao cap, v = .slice ao n cap := by
  rcases h.2 with ⟨e1, e2⟩ | ⟨g, cap, cur, e1, _⟩
  · exact ⟨none, 0, by rw [e1, e2]⟩
  · exact ⟨_, _, e1⟩
theorem SrcO.toG {B : Nat} {G : Nat → Prop} {src : Src} {gv fv : Value} (h : SrcO w B src gv fv) (hG : ∀ b, b < w.heap.size → B ≤ b → G b) : SrcF w G src gv fv := by
  obtain ⟨fvals, h2, h3, h4, h5, h6, h7⟩ := h
  refine ⟨?_, ?_⟩
  · by_cases hz : src.globals = []
    · exact Or.inl ⟨h5 hz, hz⟩
    · have hpos : 0 < src.globals.length := List.length_pos_iff.2 hz
      rcases h2.2 with ⟨_, e⟩ | ⟨g, cap, cur, e1, e2, e5, e3, e4, _⟩
      · omega
      · refine Or.inr ⟨g, cap, e1, e3, e4, hG g (Array.getElem?_eq_some_iff.1 e5).1 e2, hpos, fun i p hi => ?_⟩
        obtain ⟨a1, a2⟩ := glCells_at src.globals i p hi
        have hin := (List.getElem?_eq_some_iff.1 hi).1
        subst e1
        rw [World.ownsRow.cellAt h2 (i * 2) (by omega), World.ownsRow.cellAt h2 (i * 2 + 1) (by omega)]
        exact ⟨a1, a2⟩
  · by_cases hz : src.funcs = []
    · exact Or.inl ⟨h6 hz, hz⟩
    · have hpos : 0 < src.funcs.length := List.length_pos_iff.2 hz
      rcases h3.2 with ⟨_, e⟩ | ⟨g, cap, cur, e1, e2, e5, e3, e4, _⟩
      · omega
      · refine Or.inr ⟨g, cap, e1, e3, e4, hG g (Array.getElem?_eq_some_iff.1 e5).1 e2, hpos, fun i p hi => ?_⟩
        subst e1
        have h8 := RowF.lies src.funcs fvals 0 (g := g) (fun j v hj => by
          rw [show 0 * 5 + j = j by omega, World.ownsRow.cellAt h3 j (by have := (List.getElem?_eq_some_iff.1 hj).1; have := h3.1; omega)]
          exact hj) (RowF.mono (fun b hb e => hG b hb e.1) _ _ h4) i p hi
        rw [Nat.zero_add] at h8
        exact h8
end Go.Proofs.YtgonbmcojjcabaaGreatDoor

namespace Go.Proofs.YtgonbmcojjcabaaGreatDoor
open Go.RowKit Lx Tr
variable {w w' : World}

theorem small_parse {s : ByteArray} {e : Ending} (hs : s.size = 145) (hl : s.data.toList = smallL) (h : ParseSays w w' s e) : ∃ src gv fv, e = .returned (.tuple #[.agg #[gv, fv], .nilIface]) ∧ SrcO w' w.heap.size src gv fv ∧ SrcOk src ∧ src.globals.length = 1 ∧ src.funcs.length = 2 ∧ (src.funcs.headD ⟨[], 0, [], 0, .nil⟩).body.len = 3 ∧ printV src = smallL := by
  obtain ⟨ts0, s0, m0, h1, _, _⟩ := small_has
  unfold ParseSays at h
  rw [if_neg (by omega), hl, hs] at h
  rw [h1] at h
  simp only at h
  obtain ⟨r, hev, hr⟩ := h
  obtain ⟨src, m, rfl, a1, a2, a3, a4⟩ := small_says h1 hev
  obtain ⟨gv, fv, rfl, hso⟩ := hr
  exact ⟨src, gv, fv, rfl, hso, (text_len h1 hev).1, a1, a2, a3, a4⟩
theorem mkT_of {s : ByteArray} {l : Lx.B} (h : s.data.toList = l) : mkT l = s := by
  subst h
  apply ByteArray.ext
  simp [mkT]

set_option maxRecDepth 100000 in
set_option maxHeartbeats 6400000 in
theorem grown_any (w : World) (hE : LawEnv w) : Calls Tryz.prog 16 #[] w fun e w' => e = .returned (.bool true) ∧ Below w.heap.size w w' := by
  have HE := Lib.hid hE
  clear hE
  go_enter Tryz.func16, Tryz.ntmps16
  go_wp2_with fail
  refine (treeParse_any _ _ HE.out.tree).mono ?_
  rintro e w1 ⟨hsay, hb1⟩
  obtain ⟨src, gv, fv, rfl, hso, hok, hg1, hf2, hb3, hpr⟩ := small_parse (by kernel_rfl) (by kernel_rfl) hsay
  clear hsay
  obtain ⟨ga, gc, rfl⟩ := ownsRow_form hso.choose_spec.1
  obtain ⟨fa, fc, rfl⟩ := ownsRow_form hso.choose_spec.2.1
  obtain ⟨fu, rest, hfu⟩ : ∃ fu rest, src.funcs = fu :: rest := by
    cases hq : src.funcs with
    | nil => rw [hq] at hf2; cases hf2
    | cons x xs => exact ⟨x, xs, rfl⟩
  have hso2 : SrcO (w1.alloc (.cells #[.slice ga src.globals.length gc, .slice fa src.funcs.length fc] 26)) w.heap.size src (.slice ga src.globals.length gc) (.slice fa src.funcs.length fc) := hso.keeps (S := fun _ => False) ((Keeps.refl _ _).alloc _) (fun _ _ e => e)
  have hbx := hb1.trans ((fresh_alloc w1 #[.slice ga src.globals.length gc, .slice fa src.funcs.length fc] 26).mono hb1.size)
  have HPR := Lib.hid (print_any (w1.alloc (.cells #[.slice ga src.globals.length gc, .slice fa src.funcs.length fc] 26)) (hso2.toG (fun b h1 _ => h1)) (HE.out.below hbx).penv hok (by rw [hpr]; decide))
  rw [hpr] at HPR
  unfold Tells at HPR
  have HBX := Lib.hid hbx
  rcases hso2.toF.2 with ⟨_, e2⟩ | ⟨fg, cap, e, _, _, _, _, h6⟩
  · rw [hfu] at e2; cases e2
  injection e with e1 _ e3
  subst e1
  subst e3
  obtain ⟨pv, bv, _, _, _, _, c4, _, hst⟩ := h6 0 fu (by rw [hfu]; rfl)
  have hbl : fu.body.len = 3 := by rw [hfu] at hb3; exact hb3
  obtain ⟨bo, bn, bc, rfl⟩ := slAt_form hst.1
  have hbn := slAt_len hst.1
  rw [hbl] at hbn
  subst hbn
  rw [hg1, hf2] at HPR HBX c4
  rw [hg1, hf2]
  have hEN := err_isNone
  clear hso hso2 hok hpr hb3 hfu h6 hst hbl hbx hb1
  clear hg1 hf2
  go_wp2_with fail
  refine HPR.out.mono ?_
  rintro e w2 ⟨rfl, hb2⟩
  have HB2 := Lib.hid (HBX.out.trans (hb2.mono HBX.out.size))
  clear hb2
  go_wp2_with fail
  go_ret
  have hq : ((mkT smallL).toList == smallL) = true := by rw [ByteArray.toList_eq]; exact beq_self_eq_true _
  refine ⟨?_, HB2.out⟩
  show Ending.returned (.bool ((mkT smallL).toList == smallL)) = _
  rw [hq]
end Go.Proofs.YtgonbmcojjcabaaGreatDoor

namespace Go.Proofs.YtgonbmcojjcabaaGreatDoor
namespace Tr
open Lx

/-- No letter, no digit. -/
def Bd (b : UInt8) : Prop := b.toNat < 128 ∧ isAl b = false ∧ isDg b = false
def BdR (r : B) : Prop := r = [] ∨ ∃ b x, r = b :: x ∧ Bd b
theorem BdR.cons {b : UInt8} {x : B} (h : Bd b) : BdR (b :: x) := Or.inr ⟨b, x, rfl, h⟩
theorem letV_bd (l x : B) (b : UInt8) (hb : Bd b) : letV (l ++ b :: x) = letV l := by
  cases l with
  | nil => simp [letV, hb.1, hb.2.1]
  | cons c r =>
    have := dec_ext (c :: r) x b hb.1 (by simp)
    simp only [letV, List.cons_append] at this ⊢
    rw [this]
theorem alnV_bd (l x : B) (b : UInt8) (hb : Bd b) : alnV (l ++ b :: x) = alnV l := by
  have := letV_bd l x b hb
  unfold alnV
  rw [this]
  cases l with
  | nil => simp [hb.2.2]
  | cons c r => rfl
theorem wordV_bd (n : Nat) : ∀ (l x : B) (b : UInt8), l.length ≤ n → Bd b → wordV (l ++ b :: x) = wordV l := by
  induction n with
  | zero =>
    intro l x b h hb
    rw [List.eq_nil_of_length_eq_zero (by omega : l.length = 0), wordV_eq, alnV_bd [] x b hb]; rfl
  | succ n ih =>
    intro l x b h hb
    have h1 := alnV_le l
    rw [wordV_eq (l ++ b :: x), alnV_bd l x b hb, wordV_eq l]
    by_cases h0 : alnV l = 0
    · rw [if_pos h0, if_pos h0]
    · rw [if_neg h0, if_neg h0, List.drop_append_of_le_length h1, ih (l.drop (alnV l)) x b (by rw [List.length_drop]; omega) hb]
theorem digV_bd (l x : B) (b : UInt8) (hb : Bd b) : digV (l ++ b :: x) = digV l := by
  induction l with
  | nil => exact digV_no hb.2.2
  | cons c r ih =>
    by_cases h : isDg c
    · rw [List.cons_append, digV_cons h, digV_cons h, ih]
    · rw [List.cons_append, digV_no (by simpa using h), digV_no (by simpa using h)]
theorem letV_bdR (l : B) {r : B} (h : BdR r) : letV (l ++ r) = letV l := by
  rcases h with rfl | ⟨b, x, rfl, hb⟩
  · rw [List.append_nil]
  · exact letV_bd l x b hb
theorem wordV_bdR (l : B) {r : B} (h : BdR r) : wordV (l ++ r) = wordV l := by
  rcases h with rfl | ⟨b, x, rfl, hb⟩
  · rw [List.append_nil]
  · exact wordV_bd l.length l x b (Nat.le_refl _) hb
theorem digV_bdR (l : B) {r : B} (h : BdR r) : digV (l ++ r) = digV l := by
  rcases h with rfl | ⟨b, x, rfl, hb⟩
  · rw [List.append_nil]
  · exact digV_bd l x b hb
theorem letV_R {r : B} (h : BdR r) : letV r = 0 := by
  have := letV_bdR [] h
  rw [List.nil_append] at this
  rw [this]; rfl

/-- The head of a word. -/
theorem letV_head {b : UInt8} {r : B} (h : 0 < letV (b :: r)) : isDg b = false ∧ b ≠ 59 ∧ isBl b = false ∧ b ≠ 10 ∧ b ≠ 47 ∧ b ≠ 61 := by
  by_cases hb : b.toNat < 128
  · have e : letV (b :: r) = if isAl b then 1 else 0 := by simp only [letV, if_pos hb]
    rw [e] at h
    by_cases ha : isAl b
    · have h2 : ∀ c : UInt8, isAl c = true → isDg c = false ∧ c ≠ 59 ∧ isBl c = false ∧ c ≠ 10 ∧ c ≠ 47 ∧ c ≠ 61 := fun c hc => by
        simp [isAl] at hc
        refine ⟨by simp [isDg]; omega, fun e => ?_, by simp [isBl]; omega, fun e => ?_, fun e => ?_, fun e => ?_⟩
        all_goals (subst e; simp at hc)
      exact h2 b ha
    · rw [if_neg ha] at h; exact absurd h (Nat.lt_irrefl _)
  · refine ⟨by simp [isDg]; omega, fun e => ?_, by simp [isBl]; omega, fun e => ?_, fun e => ?_, fun e => ?_⟩
    all_goals (subst e; exact hb (by decide))

/-- A word, as a token of this kind. -/
structure WordT (k : Nat) (t : B) : Prop where
  whole : wordV t = t.length
  letter : 0 < letV t
  kind : k = if isKeyV t then 2 else 1
  short : k = 1 → t.length ≤ 12
theorem WordT.ne {k : Nat} {t : B} (h : WordT k t) : t ≠ [] := fun e => by
  have := h.letter
  rw [e] at this
  exact absurd this (by decide)
theorem word_step {k : Nat} {t r : B} (h : WordT k t) (hr : BdR r) (may : Bool) : stepV (t ++ r) may = .cut (.tok k t.length) := by
  have hl := letV_bdR t hr
  have hw := wordV_bdR t hr
  have h0 := h.letter
  have hwh := h.whole
  have hk := h.kind
  have hs := h.short
  cases t with
  | nil => exact absurd rfl h.ne
  | cons b t' =>
    obtain ⟨q1, q2, q3, q4, q5, q6⟩ := letV_head h0
    rw [List.cons_append, stepV_cons, if_neg (by rw [q3]; simp), if_neg (by
      intro e
      have : (47 == b) = true := by
        simp only [List.isPrefixOf, Bool.and_eq_true] at e
        exact e.1
      exact q5 (beq_iff_eq.1 this).symm), if_neg q4, cutV_cons, if_neg q2, if_neg (by rw [q1]; simp)]
    rw [← List.cons_append, if_pos (by rw [hl]; exact h0)]
    unfold wordCut
    rw [hw, hwh, List.take_left']
    · by_cases hkk : isKeyV (b :: t') = true
      · rw [if_pos hkk]
        rw [if_pos hkk] at hk
        rw [hk]
      · rw [if_neg hkk]
        rw [if_neg hkk] at hk
        rw [if_neg (by have := hs hk; omega), hk]
    · rfl

/-- A number, as a token. -/
structure NumT (t : B) : Prop where
  digits : digV t = t.length
  pos : t ≠ []
  zero : 1 < t.length → t.head? ≠ some 48
  small : numV t ≤ 9223372036854775807
theorem num_step {t r : B} (h : NumT t) (hr : BdR r) (may : Bool) : stepV (t ++ r) may = .cut (.tok 3 t.length) := by
  have hd := digV_bdR t hr
  have h0 := h.digits
  have h2 := h.zero
  have h3 := h.small
  cases t with
  | nil => exact absurd rfl h.pos
  | cons b t' =>
    have hb : isDg b = true := by
      by_cases e : isDg b = true
      · exact e
      · rw [digV_no (by simpa using e)] at h0; cases h0
    have q : ∀ c : UInt8, isDg c = true → c ≠ 59 ∧ isBl c = false ∧ c ≠ 10 ∧ c ≠ 47 := fun c hc => by
      simp [isDg] at hc
      refine ⟨fun e => ?_, by simp [isBl]; omega, fun e => ?_, fun e => ?_⟩
      all_goals (subst e; simp at hc)
    obtain ⟨q2, q3, q4, q5⟩ := q b hb
    rw [List.cons_append, stepV_cons, if_neg (by rw [q3]; simp), if_neg (by
      intro e
      have : (47 == b) = true := by
        simp only [List.isPrefixOf, Bool.and_eq_true] at e
        exact e.1
      exact q5 (beq_iff_eq.1 this).symm), if_neg q4, cutV_cons, if_neg q2, if_pos hb]
    rw [← List.cons_append]
    unfold numCut
    rw [hd, h0, List.drop_left' rfl, letV_R hr, List.take_left' rfl, if_neg (by
      rintro (⟨e1, e2⟩ | e)
      · exact h2 e1 e2
      · exact absurd e (Nat.lt_irrefl _)), if_neg (by unfold bigV; simp; omega)]

/-- A sign that is cut as itself ahead of this. -/
def SigT (z r : B) : Prop := z ∈ sigsL ∧ sigsL.find? (·.isPrefixOf (z ++ r)) = some z ∧ [47, 47].isPrefixOf (z ++ r) = false
theorem sigs_heads : ∀ z ∈ sigsL, ∀ c ∈ z.head?, c.toNat < 128 ∧ isAl c = false ∧ isDg c = false ∧ c ≠ 59 ∧ isBl c = false ∧ c ≠ 10 := by decide
theorem sig_step {z r : B} (h : SigT z r) (may : Bool) : stepV (z ++ r) may = .cut (.tok 4 z.length) := by
  obtain ⟨h1, h2, h3⟩ := h
  have hp := sigs_pos z h1
  have hh := sigs_heads z h1
  cases z with
  | nil => cases hp
  | cons b z' =>
    obtain ⟨q0, q1, q2, q3, q4, q5⟩ := hh b rfl
    rw [List.cons_append] at h2 h3 ⊢
    rw [stepV_cons, if_neg (by rw [q4]; simp), if_neg (by rw [h3]; simp), if_neg q5, cutV_cons, if_neg q3, if_neg (by rw [q2]; simp), if_neg (by simp [letV, q0, q1])]
    unfold sigCut
    rw [h2]
/-- Ahead of a blank, or of a line feed. -/
theorem SigT.stop {z x : B} {b : UInt8} (hz : z ∈ sigsL) (hb : isStop b = true) : SigT z (b :: x) := by
  refine ⟨hz, by rw [find_ext z x b hb]; exact sigs_self z hz, ?_⟩
  rw [pfx_ext [47, 47] z x b (by intro e; simp at e; subst e; cases hb)]
  exact (sigs_head z hz).2.2
theorem sig_lp (r : B) : SigT [40] r := ⟨by decide, rfl, rfl⟩
theorem sig_rp (r : B) : SigT [41] r := ⟨by decide, rfl, rfl⟩
theorem sig_comma (r : B) : SigT [44] r := ⟨by decide, rfl, rfl⟩
theorem sig_minus (r : B) : SigT [45] r := ⟨by decide, rfl, rfl⟩
theorem sig_hat (r : B) : SigT [94] r := ⟨by decide, rfl, rfl⟩
theorem sig_arrow (r : B) : SigT [60, 45] r := ⟨by decide, rfl, rfl⟩
theorem sig_rb (r : B) : SigT [125] r := ⟨by decide, rfl, rfl⟩
theorem sig_lb (r : B) : SigT [123] r := ⟨by decide, rfl, rfl⟩
theorem sig_not {r : B} (h : r.head? ≠ some 61) : SigT [33] r := by
  cases r with
  | nil => exact ⟨by decide, rfl, rfl⟩
  | cons c x =>
    have hc : (61 == c) = false := by
      rw [beq_eq_false_iff_ne]
      intro e
      exact h (by rw [← e]; rfl)
    refine ⟨by decide, ?_, rfl⟩
    show sigsL.find? (·.isPrefixOf (33 :: c :: x)) = some [33]
    simp [sigsL, List.find?, List.isPrefixOf, hc]

/-- What tokens a text is cut into, whatever its place, where r stands behind it; m: may a line end there, by whether it might ahead of it. -/
def kt (t : Tok) : Nat × B := (t.kind, t.text)
def Lz (t : B) (ks : List (Nat × B)) (m : Bool → Bool) (r : B) : Prop :=
  ∀ a may, ∃ ts : List Tok, ts.map kt = ks ∧ lx (t ++ r) a may = (ts ++ (lx r (a + t.length) (m may)).1, (lx r (a + t.length) (m may)).2)
theorem Lz.nil (r : B) : Lz [] [] id r := fun _ _ => ⟨[], rfl, rfl⟩
theorem Lz.app {t1 t2 r : B} {k1 k2 : List (Nat × B)} {m1 m2 : Bool → Bool} (h1 : Lz t1 k1 m1 (t2 ++ r)) (h2 : Lz t2 k2 m2 r) : Lz (t1 ++ t2) (k1 ++ k2) (m2 ∘ m1) r := fun a may => by
  obtain ⟨ts1, e1, q1⟩ := h1 a may
  obtain ⟨ts2, e2, q2⟩ := h2 (a + t1.length) (m1 may)
  refine ⟨ts1 ++ ts2, by rw [List.map_append, e1, e2], ?_⟩
  rw [List.append_assoc, q1, q2, List.length_append, ← Nat.add_assoc]
  simp
theorem Lz.one {t r : B} {k : Nat} (ht : t ≠ []) (h : ∀ may, stepV (t ++ r) may = .cut (.tok k t.length)) : Lz t [(k, t)] (fun _ => mayV k t) r := fun a may => by
  refine ⟨[⟨k, t, a⟩], rfl, ?_⟩
  rw [lx_tok (by simp [ht]) (h may), List.take_left' rfl, List.drop_left' rfl]
  rfl
theorem Lz.word {k : Nat} {t r : B} (h : WordT k t) (hr : BdR r) : Lz t [(k, t)] (fun _ => mayV k t) r := Lz.one h.ne (word_step h hr)
theorem Lz.num {t r : B} (h : NumT t) (hr : BdR r) : Lz t [(3, t)] (fun _ => true) r := Lz.one h.pos (num_step h hr)
theorem Lz.sig {z r : B} (h : SigT z r) : Lz z [(4, z)] (fun _ => mayV 4 z) r := Lz.one (fun e => by have := sigs_pos z h.1; rw [e] at this; cases this) (sig_step h)
theorem Lz.sp (r : B) : Lz [32] [] id r := fun a may => ⟨[], rfl, by
  show lx (32 :: r) a may = _
  rw [lx_skip (n := 1) (by simp) rfl]
  rfl⟩
/-- A line's end. -/
theorem Lz.line {t r : B} {ks : List (Nat × B)} (h : Lz t ks (fun _ => true) (10 :: r)) : Lz (t ++ [10]) (ks ++ [(5, [10])]) (fun _ => false) r := fun a may => by
  obtain ⟨ts, e, q⟩ := h a may
  refine ⟨ts ++ [⟨5, [10], a + t.length⟩], by rw [List.map_append, e]; rfl, ?_⟩
  rw [List.append_assoc]
  show lx (t ++ 10 :: r) a may = _
  rw [q, lx_tok (k := 5) (n := 1) (by simp) rfl, List.length_append]
  simp only [List.take, List.drop]
  rw [show mayV 5 [10] = false from rfl]
  simp [Nat.add_assoc]
theorem Lz.noline {t r : B} {ks : List (Nat × B)} (h : Lz t ks (fun _ => false) (10 :: r)) : Lz (t ++ [10]) ks (fun _ => false) r := fun a may => by
  obtain ⟨ts, e, q⟩ := h a may
  refine ⟨ts, e, ?_⟩
  rw [List.append_assoc]
  show lx (t ++ 10 :: r) a may = _
  rw [q, lx_skip (n := 1) (by simp) rfl, List.length_append]
  rfl

/-- Decimal digits are a number. -/
theorem dig_of (d : Nat) (h : d < 10) : isDg (UInt8.ofNat (48 + d)) = true ∧ (UInt8.ofNat (48 + d)).toNat - 48 = d := by
  have : ∀ d, d < 10 → isDg (UInt8.ofNat (48 + d)) = true ∧ (UInt8.ofNat (48 + d)).toNat - 48 = d := by decide
  exact this d h
end Tr
end Go.Proofs.YtgonbmcojjcabaaGreatDoor

namespace Go.Proofs.YtgonbmcojjcabaaGreatDoor
open Lx Tr
namespace Tr

theorem numV_snoc (l : B) (c : UInt8) : numV (l ++ [c]) = numV l * 10 + (c.toNat - 48) := by
  unfold numV
  rw [List.foldl_append]
  rfl
theorem digV_all : ∀ {l : B}, (∀ c ∈ l, isDg c = true) → digV l = l.length
  | [], _ => rfl
  | c :: r, h => by rw [digV_cons (h c (List.mem_cons_self ..)), digV_all (fun x hx => h x (List.mem_cons_of_mem _ hx)), List.length_cons]
/-- Decimal digits are read as the number. -/
theorem dec_num (k : Nat) : ∀ n, n ≤ k → (∀ c ∈ Lib.decDigits n, isDg c = true) ∧ Lib.decDigits n ≠ [] ∧ numV (Lib.decDigits n) = n ∧ (10 ≤ n → (Lib.decDigits n).head? ≠ some 48 ∧ 1 < (Lib.decDigits n).length) ∧ (n < 10 → (Lib.decDigits n).length = 1) ∧ (0 < n → (Lib.decDigits n).head? ≠ some 48) := by
  induction k with
  | zero =>
    intro n hn
    obtain rfl : n = 0 := by omega
    rw [Lib.decDigits, dif_pos (by decide)]
    refine ⟨fun c hc => ?_, by simp, by decide, fun h => absurd h (by decide), fun _ => rfl, fun h => absurd h (by decide)⟩
    rw [List.mem_singleton.1 hc]
    decide
  | succ k ih =>
    intro n hn
    by_cases h : n < 10
    · rw [Lib.decDigits, dif_pos h]
      obtain ⟨q1, q2⟩ := dig_of n h
      refine ⟨fun c hc => ?_, by simp, ?_, fun h2 => absurd h2 (by omega), fun _ => rfl, fun h2 e => ?_⟩
      · rw [List.mem_singleton.1 hc]; exact q1
      · show 0 * 10 + ((UInt8.ofNat (48 + n)).toNat - 48) = n
        rw [q2]; omega
      · have e2 : UInt8.ofNat (48 + n) = 48 := Option.some.inj e
        have e3 : (UInt8.ofNat (48 + n)).toNat - 48 = 0 := by rw [e2]; rfl
        omega
    · rw [Lib.decDigits, dif_neg h]
      obtain ⟨a1, a2, a3, a4, a5, a6⟩ := ih (n / 10) (by omega)
      obtain ⟨q1, q2⟩ := dig_of (n % 10) (by omega)
      have hh : (Lib.decDigits (n / 10) ++ [UInt8.ofNat (48 + n % 10)]).head? = (Lib.decDigits (n / 10)).head? := by
        cases hq : Lib.decDigits (n / 10) with
        | nil => exact absurd hq a2
        | cons x xs => rfl
      have hlen : 0 < (Lib.decDigits (n / 10)).length := List.length_pos_iff.2 a2
      refine ⟨fun c hc => ?_, by simp, ?_, fun _ => ⟨by rw [hh]; exact a6 (by omega), by rw [List.length_append]; simp; omega⟩, fun h2 => absurd h2 (by omega), fun _ => by rw [hh]; exact a6 (by omega)⟩
      · rcases List.mem_append.1 hc with hc | hc
        · exact a1 c hc
        · rw [List.mem_singleton.1 hc]; exact q1
      · rw [numV_snoc, a3, q2]; omega
theorem num_of (n : Nat) (h : n ≤ 9223372036854775807) : NumT (sOfB n) ∧ numV (sOfB n) = n := by
  have e : sOfB n = Lib.decDigits n := by
    unfold sOfB Lib.itoa
    rw [if_neg (by omega)]
    rfl
  obtain ⟨a1, a2, a3, a4, a5, a6⟩ := dec_num n n (Nat.le_refl _)
  rw [e]
  refine ⟨⟨digV_all a1, a2, fun h1 => ?_, by rw [a3]; exact h⟩, a3⟩
  by_cases h2 : n < 10
  · rw [a5 h2] at h1; exact absurd h1 (by decide)
  · exact (a4 (by omega)).1

/-- Whether brackets are written, and how much deeper it then is. -/
def brk (least : Nat) (x : Ex) : Nat := match x with
  | .nil => 0
  | .mk code _ _ op _ _ _ _ => if code = 5 ∧ levV op < least then 1 else 0
/- An expression that a reader makes at this depth (of which brackets are no part). -/
mutual
def GoodB : Ex → Nat → Prop
  | .nil, _ => False
  | .mk code _ n op nm l r zs, d => d ≤ 12 ∧ (
    (code = 1 ∧ n ≤ 9223372036854775807 ∧ op = 0 ∧ nm = [] ∧ l = .nil ∧ r = .nil ∧ zs = .nil) ∨
    (code = 2 ∧ n ≤ 1 ∧ op = 0 ∧ nm = [] ∧ l = .nil ∧ r = .nil ∧ zs = .nil) ∨
    (code = 3 ∧ n = 0 ∧ op = 0 ∧ nm = [] ∧ l = .nil ∧ r = .nil ∧ zs = .nil) ∨
    (code = 4 ∧ n = 0 ∧ op = 0 ∧ WordT 1 nm ∧ l = .nil ∧ r = .nil ∧ zs = .nil) ∨
    (code = 5 ∧ n = 0 ∧ nm = [] ∧ zs = .nil ∧ 1 ≤ levV op ∧ GoodB l (d + brk (levV op) l) ∧ GoodB r (d + brk (levV op + 1) r)) ∨
    (code = 6 ∧ n = 0 ∧ nm = [] ∧ r = .nil ∧ zs = .nil ∧ (op = 17 ∨ op = 18 ∨ op = 19) ∧ GoodB l (d + 1 + brk 6 l)) ∨
    (code = 10 ∧ n = 0 ∧ op = 0 ∧ nm = [] ∧ r = .nil ∧ zs = .nil ∧ GoodB l (d + 1 + brk 6 l)) ∨
    ((code = 8 ∨ code = 9) ∧ n = 0 ∧ op = 0 ∧ nm = [] ∧ r = .nil ∧ zs = .nil ∧ GoodB l (d + 1)) ∨
    (code = 7 ∧ n = 0 ∧ op = 0 ∧ WordT 1 nm ∧ l = .nil ∧ r = .nil ∧ GoodAs zs (d + 1)))
def GoodAs : Exs → Nat → Prop
  | .nil, _ => True
  | .cons x xs, d => GoodB x d ∧ GoodAs xs d
end
/- What its text is cut into. -/
def exWT (least : Nat) (x : Ex) (ks : List (Nat × B)) : List (Nat × B) := match x with
  | .nil => []
  | .mk code _ _ op _ _ _ _ => if code = 5 ∧ levV op < least then [(4, [40])] ++ (ks ++ [(4, [41])]) else ks
mutual
def bareT : Ex → List (Nat × B)
  | .nil => []
  | .mk code _ n op name l r args =>
    if code = 1 then [(3, sOfB n)]
    else if code = 2 then [(2, if n = 0 then tFalse else tTrue)]
    else if code = 3 then [(2, tNil)]
    else if code = 4 then [(1, name)]
    else if code = 5 then exWT (levV op) l (bareT l) ++ ([(4, sgV op)] ++ exWT (levV op + 1) r (bareT r))
    else if code = 6 then [(4, signL op)] ++ exWT 6 l (bareT l)
    else if code = 10 then [(4, tArrow)] ++ exWT 6 l (bareT l)
    else if code = 8 then [(2, tMake)] ++ ([(4, [40])] ++ (exWT 1 l (bareT l) ++ [(4, [41])]))
    else if code = 9 then [(2, tLen)] ++ ([(4, [40])] ++ (exWT 1 l (bareT l) ++ [(4, [41])]))
    else if code = 7 then [(1, name)] ++ ([(4, [40])] ++ (argT true args ++ [(4, [41])]))
    else []
def argT : Bool → Exs → List (Nat × B)
  | _, .nil => []
  | first, .cons x xs => (if first then [] else [(4, [44])]) ++ (exWT 1 x (bareT x) ++ argT false xs)
end
def exT (least : Nat) (x : Ex) : List (Nat × B) := exWT least x (bareT x)

theorem bd_32 : Bd 32 := by unfold Bd; decide
theorem bd_10 : Bd 10 := by unfold Bd; decide
theorem bd_40 : Bd 40 := by unfold Bd; decide
theorem bd_41 : Bd 41 := by unfold Bd; decide
theorem bd_44 : Bd 44 := by unfold Bd; decide
theorem bd_58 : Bd 58 := by unfold Bd; decide
theorem key_word {t : B} (h : wordV t = t.length ∧ 0 < letV t ∧ isKeyV t = true) : WordT 2 t := ⟨h.1, h.2.1, by rw [if_pos h.2.2], fun e => absurd e (by decide)⟩
theorem lev_sig : ∀ op, op < 32 → 1 ≤ levV op → sgV op ∈ sigsL ∧ opV (sgV op) = op ∧ mayV 4 (sgV op) = false ∧ levV op ≤ 5 := by decide
theorem lev_lt {op : Nat} (h : 1 ≤ levV op) : op < 32 := by
  unfold levV at h
  repeat' split at h
  all_goals omega

/-- The text of an expression: it doesn't begin as '=' does, and it is cut so. -/
structure LexE (t : B) (ks : List (Nat × B)) : Prop where
  head : t ≠ [] ∧ t.head? ≠ some 61
  cut : ∀ r, BdR r → Lz t ks (fun _ => true) r
theorem LexE.brackets {t : B} {ks : List (Nat × B)} (h : LexE t ks) : LexE ([40] ++ (t ++ [41])) ([(4, [40])] ++ (ks ++ [(4, [41])])) :=
  ⟨⟨by simp, by simp⟩, fun r _ => (Lz.sig (sig_lp _)).app ((h.cut _ (BdR.cons bd_41)).app (Lz.sig (sig_rp r)))⟩
theorem LexE.w {x : Ex} {least : Nat} (h : LexE (bareV x) (bareT x)) : LexE (exV least x) (exT least x) := by
  unfold exV exT exW exWT
  cases x with
  | nil => exact absurd rfl h.head.1
  | mk code at_ n op nm l r zs =>
    by_cases c : code = 5 ∧ levV op < least
    · simp only [if_pos c]; exact h.brackets
    · simp only [if_neg c]; exact h
theorem head_app {t u : B} (h : t ≠ [] ∧ t.head? ≠ some 61) : t ++ u ≠ [] ∧ (t ++ u).head? ≠ some 61 := by
  cases t with
  | nil => exact absurd rfl h.1
  | cons c x => exact ⟨by simp, h.2⟩
theorem word_head {k : Nat} {t : B} (h : WordT k t) : t ≠ [] ∧ t.head? ≠ some 61 := by
  refine ⟨h.ne, fun e => ?_⟩
  cases t with
  | nil => cases e
  | cons b r => exact (letV_head h.letter).2.2.2.2.2 (Option.some.inj e)
theorem lex_un {z t : B} {ks : List (Nat × B)} (hz : z = [45] ∨ z = [94] ∨ z = [33] ∨ z = [60, 45]) (h : LexE t ks) : LexE (z ++ t) ([(4, z)] ++ ks) := by
  refine ⟨?_, fun r hr => ?_⟩
  · rcases hz with rfl | rfl | rfl | rfl <;> exact ⟨by simp, by simp⟩
  · have hs : SigT z (t ++ r) := by
      rcases hz with rfl | rfl | rfl | rfl
      · exact sig_minus _
      · exact sig_hat _
      · exact sig_not (head_app h.head).2
      · exact sig_arrow _
    exact (Lz.sig hs).app (h.cut r hr)
theorem lex_call {k : Nat} {w t : B} {ks : List (Nat × B)} (hw : WordT k w) (h : ∀ r, BdR r → Lz t ks (fun m => m) r ∨ Lz t ks (fun _ => true) r) : LexE (w ++ ([40] ++ (t ++ [41]))) ([(k, w)] ++ ([(4, [40])] ++ (ks ++ [(4, [41])]))) := by
  refine ⟨head_app (word_head hw), fun r _ => ?_⟩
  rcases h ([41] ++ r) (BdR.cons bd_41) with h1 | h1
  · exact (Lz.word hw (BdR.cons bd_40)).app ((Lz.sig (sig_lp _)).app (h1.app (Lz.sig (sig_rp r))))
  · exact (Lz.word hw (BdR.cons bd_40)).app ((Lz.sig (sig_lp _)).app (h1.app (Lz.sig (sig_rp r))))
end Tr
end Go.Proofs.YtgonbmcojjcabaaGreatDoor

namespace Go.Proofs.YtgonbmcojjcabaaGreatDoor
open Lx Tr
namespace Tr

theorem num_head {t : B} (h : NumT t) : t ≠ [] ∧ t.head? ≠ some 61 := by
  refine ⟨h.pos, fun e => ?_⟩
  have hd := h.digits
  cases t with
  | nil => cases e
  | cons b r =>
    have e2 : b = 61 := Option.some.inj e
    subst e2
    rw [digV_no (by decide)] at hd
    cases hd
theorem bare_bin {a n op : Nat} {nm : B} {l r : Ex} {zs : Exs} : bareV (.mk 5 a n op nm l r zs) = exV (levV op) l ++ ([32] ++ (sgV op ++ ([32] ++ exV (levV op + 1) r))) ∧ bareT (.mk 5 a n op nm l r zs) = exT (levV op) l ++ ([(4, sgV op)] ++ exT (levV op + 1) r) := ⟨by rw [bareV]; rfl, by rw [bareT]; rfl⟩
theorem bare_un {a n op : Nat} {nm : B} {l r : Ex} {zs : Exs} : bareV (.mk 6 a n op nm l r zs) = signL op ++ exV 6 l ∧ bareT (.mk 6 a n op nm l r zs) = [(4, signL op)] ++ exT 6 l := ⟨by rw [bareV]; rfl, by rw [bareT]; rfl⟩
theorem bare_recv {a n op : Nat} {nm : B} {l r : Ex} {zs : Exs} : bareV (.mk 10 a n op nm l r zs) = tArrow ++ exV 6 l ∧ bareT (.mk 10 a n op nm l r zs) = [(4, tArrow)] ++ exT 6 l := ⟨by rw [bareV]; rfl, by rw [bareT]; rfl⟩
theorem bare_make {a n op : Nat} {nm : B} {l r : Ex} {zs : Exs} : bareV (.mk 8 a n op nm l r zs) = tMake ++ ([40] ++ (exV 1 l ++ [41])) ∧ bareT (.mk 8 a n op nm l r zs) = [(2, tMake)] ++ ([(4, [40])] ++ (exT 1 l ++ [(4, [41])])) := ⟨by rw [bareV]; rfl, by rw [bareT]; rfl⟩
theorem bare_len {a n op : Nat} {nm : B} {l r : Ex} {zs : Exs} : bareV (.mk 9 a n op nm l r zs) = tLen ++ ([40] ++ (exV 1 l ++ [41])) ∧ bareT (.mk 9 a n op nm l r zs) = [(2, tLen)] ++ ([(4, [40])] ++ (exT 1 l ++ [(4, [41])])) := ⟨by rw [bareV]; rfl, by rw [bareT]; rfl⟩
theorem bare_call {a n op : Nat} {nm : B} {l r : Ex} {zs : Exs} : bareV (.mk 7 a n op nm l r zs) = nm ++ ([40] ++ (argV true zs ++ [41])) ∧ bareT (.mk 7 a n op nm l r zs) = [(1, nm)] ++ ([(4, [40])] ++ (argT true zs ++ [(4, [41])])) := ⟨by rw [bareV]; rfl, by rw [bareT]; rfl⟩
def nilE : Exs → Bool
  | .nil => true
  | .cons _ _ => false
theorem kw_true : WordT 2 tTrue := key_word (by decide)
theorem kw_false : WordT 2 tFalse := key_word (by decide)
theorem kw_nil : WordT 2 tNil := key_word (by decide)
theorem kw_make : WordT 2 tMake := key_word (by decide)
theorem kw_len : WordT 2 tLen := key_word (by decide)

set_option maxHeartbeats 1600000 in
mutual
theorem lex_ex : ∀ (x : Ex) (d : Nat), GoodB x d → LexE (bareV x) (bareT x)
  | .nil, _, h => by rw [GoodB] at h; exact h.elim
  | .mk code a n op nm l r zs, d, h => by
    rw [GoodB] at h
    obtain ⟨_, h⟩ := h
    rcases h with ⟨rfl, h1, _⟩ | ⟨rfl, h1, _⟩ | ⟨rfl, _⟩ | ⟨rfl, _, _, h1, _⟩ | ⟨rfl, _, _, _, hv, h1, h2⟩ | ⟨rfl, _, _, _, _, ho, h1⟩ | ⟨rfl, _, _, _, _, _, h1⟩ | ⟨rfl | rfl, _, _, _, _, _, h1⟩ | ⟨rfl, _, _, hw, _, _, h1⟩
    · have e1 : bareV (.mk 1 a n op nm l r zs) = sOfB n := by rw [bareV]; rfl
      have e2 : bareT (.mk 1 a n op nm l r zs) = [(3, sOfB n)] := by rw [bareT]; rfl
      rw [e1, e2]
      exact ⟨num_head (num_of n h1).1, fun r hr => Lz.num (num_of n h1).1 hr⟩
    · have e1 : bareV (.mk 2 a n op nm l r zs) = if n = 0 then tFalse else tTrue := by rw [bareV]; rfl
      have e2 : bareT (.mk 2 a n op nm l r zs) = [(2, if n = 0 then tFalse else tTrue)] := by rw [bareT]; rfl
      rw [e1, e2]
      by_cases c : n = 0
      · rw [if_pos c]; exact ⟨word_head kw_false, fun r hr => Lz.word kw_false hr⟩
      · rw [if_neg c]; exact ⟨word_head kw_true, fun r hr => Lz.word kw_true hr⟩
    · have e1 : bareV (.mk 3 a n op nm l r zs) = tNil := by rw [bareV]; rfl
      have e2 : bareT (.mk 3 a n op nm l r zs) = [(2, tNil)] := by rw [bareT]; rfl
      rw [e1, e2]
      exact ⟨word_head kw_nil, fun r hr => Lz.word kw_nil hr⟩
    · have e1 : bareV (.mk 4 a n op nm l r zs) = nm := by rw [bareV]; rfl
      have e2 : bareT (.mk 4 a n op nm l r zs) = [(1, nm)] := by rw [bareT]; rfl
      rw [e1, e2]
      exact ⟨word_head h1, fun r hr => Lz.word h1 hr⟩
    · rw [bare_bin.1, bare_bin.2]
      have k1 := (lex_ex l _ h1).w (least := levV op)
      have k2 := (lex_ex r _ h2).w (least := levV op + 1)
      exact ⟨head_app k1.head, fun r hr => (k1.cut _ (BdR.cons bd_32)).app ((Lz.sp _).app ((Lz.sig (SigT.stop (lev_sig op (lev_lt hv) hv).1 stop_32)).app ((Lz.sp _).app (k2.cut r hr))))⟩
    · rw [bare_un.1, bare_un.2]
      exact lex_un (by rcases ho with rfl | rfl | rfl <;> decide) ((lex_ex l _ h1).w)
    · rw [bare_recv.1, bare_recv.2]
      exact lex_un (Or.inr (Or.inr (Or.inr rfl))) ((lex_ex l _ h1).w)
    · rw [bare_make.1, bare_make.2]
      exact lex_call kw_make (fun r hr => Or.inr (((lex_ex l _ h1).w).cut r hr))
    · rw [bare_len.1, bare_len.2]
      exact lex_call kw_len (fun r hr => Or.inr (((lex_ex l _ h1).w).cut r hr))
    · rw [bare_call.1, bare_call.2]
      refine lex_call hw (fun r hr => ?_)
      have k := lex_as zs true _ h1 r hr
      cases zs with
      | nil => exact Or.inl k
      | cons y ys => exact Or.inr k
theorem lex_as : ∀ (zs : Exs) (f : Bool) (d : Nat), GoodAs zs d → ∀ r, BdR r → Lz (argV f zs) (argT f zs) (fun m => if nilE zs then m else true) r
  | .nil, f, _, _, r, _ => by rw [argV, argT]; exact Lz.nil r
  | .cons x xs, f, d, h, r, hr => by
    rw [GoodAs] at h
    rw [argV, argT]
    have k1 := (lex_ex x d h.1).w (least := 1)
    have k2 := lex_as xs false d h.2 r hr
    have hb : BdR (argV false xs ++ r) := by
      cases xs with
      | nil => rw [argV]; exact hr
      | cons y ys => rw [argV]; exact BdR.cons bd_44
    have k3 : Lz (exV 1 x ++ argV false xs) (exT 1 x ++ argT false xs) (fun _ => true) r := by
      have := (k1.cut _ hb).app k2
      cases xs with
      | nil => exact this
      | cons y ys => exact this
    cases f with
    | true => exact k3
    | false =>
      have k4 : Lz ([44] ++ [32]) ([(4, [44])] ++ []) (id ∘ fun _ => mayV 4 [44]) ((exV 1 x ++ argV false xs) ++ r) := (Lz.sig (sig_comma _)).app (Lz.sp _)
      exact k4.app k3
end
end Tr
end Go.Proofs.YtgonbmcojjcabaaGreatDoor

namespace Go.Proofs.YtgonbmcojjcabaaGreatDoor
open Lx Tr
namespace Tr

/-- These tokens stand there. -/
def At (E : Env) (n : Nat) (ks : List (Nat × B)) : Prop := ∀ i q, ks[i]? = some q → (pk E (n + i)).kind = q.1 ∧ (pk E (n + i)).text = q.2
theorem At.left {E : Env} {n : Nat} {k1 k2 : List (Nat × B)} (h : At E n (k1 ++ k2)) : At E n k1 := fun i q hi => h i q (by rw [List.getElem?_append_left (List.getElem?_eq_some_iff.1 hi).1]; exact hi)
theorem At.right {E : Env} {n : Nat} {k1 k2 : List (Nat × B)} (h : At E n (k1 ++ k2)) : At E (n + k1.length) k2 := fun i q hi => by
  have := h (k1.length + i) q (by rw [List.getElem?_append_right (by omega), Nat.add_sub_cancel_left]; exact hi)
  rw [Nat.add_assoc]; exact this
theorem At.head {E : Env} {n k : Nat} {t : B} {ks : List (Nat × B)} (h : At E n ((k, t) :: ks)) : (pk E n).kind = k ∧ (pk E n).text = t := h 0 (k, t) rfl
theorem At.tail {E : Env} {n k : Nat} {t : B} {ks : List (Nat × B)} (h : At E n ((k, t) :: ks)) : At E (n + 1) ks := At.right (k1 := [(k, t)]) h

/-- Where tied goes on, having read this much. -/
def tl (E : Env) (f k d : Nat) (x : Ex) (m : Nat) : Res Ex := if k = 6 then .ok x m else tloop E f k d x m
def TiedOk (x : Ex) (k : Nat) : Prop := ∀ (E : Env) (d n : Nat), GoodB x (d + brk k x) → At E n (exT k x) → levV (opV (pk E (n + (exT k x).length)).text) ≤ k → (pk E (n + (exT k x).length)).text ≠ [40] →
  ∃ x', exE x' = exE x ∧ ∀ r, Ev (fun f => tl E f k d x' (n + (exT k x).length)) r → Ev (fun f => tied E f k d n) r
def OneOk (x : Ex) : Prop := ∀ (E : Env) (d n : Nat), GoodB x (d + brk 6 x) → At E n (exT 6 x) → (pk E (n + (exT 6 x).length)).text ≠ [40] →
  ∃ x', exE x' = exE x ∧ Ev (fun f => one E f d n) (.ok x' (n + (exT 6 x).length))

theorem TiedOk.closed {x : Ex} {k : Nat} (h : TiedOk x k) {E : Env} {d n : Nat} (hg : GoodB x (d + brk k x)) (ha : At E n (exT k x)) (hl : levV (opV (pk E (n + (exT k x).length)).text) < k) (hn : (pk E (n + (exT k x).length)).text ≠ [40]) :
    ∃ x', exE x' = exE x ∧ Ev (fun f => tied E f k d n) (.ok x' (n + (exT k x).length)) := by
  obtain ⟨x', e, hr⟩ := h E d n hg ha (Nat.le_of_lt hl) hn
  refine ⟨x', e, hr _ ?_⟩
  by_cases h6 : k = 6
  · exact Ev.pure (fun e => by cases e) (fun f => by unfold tl; rw [if_pos h6])
  · refine Ev.now (fun e => by cases e) (fun f => ?_)
    unfold tl
    rw [if_neg h6, tloop_eq, if_neg (by omega)]
theorem TiedOk.six {x : Ex} (h : OneOk x) : TiedOk x 6 := fun E d n hg ha _ hn => by
  obtain ⟨x', e, hev⟩ := h E d n hg ha hn
  refine ⟨x', e, fun r hr => ?_⟩
  have hr' : r = .ok x' (n + (exT 6 x).length) := Ev.det hr (Ev.pure (fun e => by cases e) (fun f => by unfold tl; rw [if_pos rfl]))
  rw [hr']
  exact Ev.step (fun f => by rw [tied_eq, if_pos rfl]) hev
theorem lev_le (t : B) : levV (opV t) ≤ 5 := by
  unfold levV
  repeat' split
  all_goals omega
theorem TiedOk.down {x : Ex} {k : Nat} (h : TiedOk x (k + 1)) (hk : k ≤ 5) (he : exT k x = exT (k + 1) x) (hb : brk k x = brk (k + 1) x) : TiedOk x k := fun E d n hg ha hl hn => by
  rw [he] at ha hl hn ⊢
  rw [hb] at hg
  obtain ⟨x', e, hev⟩ := h.closed hg ha (by omega) hn
  refine ⟨x', e, fun r hr => ?_⟩
  refine Ev.step (h := fun f => (tied E f (k + 1) d n).bind fun x m => tloop E f k d x m) (fun f => by rw [tied_eq, if_neg (by omega)]) (Ev.then hev ?_)
  have e2 : (fun f => tl E f k d x' (n + (exT (k + 1) x).length)) = fun f => tloop E f k d x' (n + (exT (k + 1) x).length) := funext fun f => by unfold tl; rw [if_neg (by omega)]
  rw [e2] at hr
  exact hr
theorem exWT_yes {least code a n op : Nat} {nm : B} {l r : Ex} {zs : Exs} {ks : List (Nat × B)} (h : code = 5 ∧ levV op < least) : exWT least (.mk code a n op nm l r zs) ks = [(4, [40])] ++ (ks ++ [(4, [41])]) := if_pos h
theorem exWT_no {least code a n op : Nat} {nm : B} {l r : Ex} {zs : Exs} {ks : List (Nat × B)} (h : ¬ (code = 5 ∧ levV op < least)) : exWT least (.mk code a n op nm l r zs) ks = ks := if_neg h
theorem brk_yes {least code a n op : Nat} {nm : B} {l r : Ex} {zs : Exs} (h : code = 5 ∧ levV op < least) : brk least (.mk code a n op nm l r zs) = 1 := if_pos h
theorem brk_no {least code a n op : Nat} {nm : B} {l r : Ex} {zs : Exs} (h : ¬ (code = 5 ∧ levV op < least)) : brk least (.mk code a n op nm l r zs) = 0 := if_neg h
/-- How a level changes what is written. -/
theorem exT_same {x : Ex} {k : Nat} (h : ∀ a n op nm l r zs, x = .mk 5 a n op nm l r zs → levV op ≠ k) : exT k x = exT (k + 1) x ∧ brk k x = brk (k + 1) x := by
  cases x with
  | nil => exact ⟨rfl, rfl⟩
  | mk code a n op nm l r zs =>
    unfold exT
    by_cases c : code = 5
    · subst c
      have h1 := h a n op nm l r zs rfl
      by_cases c2 : levV op < k
      · rw [exWT_yes ⟨rfl, c2⟩, exWT_yes ⟨rfl, by omega⟩, brk_yes ⟨rfl, c2⟩, brk_yes ⟨rfl, by omega⟩]
        exact ⟨rfl, rfl⟩
      · rw [exWT_no (fun e => c2 e.2), exWT_no (fun e => by have := e.2; omega), brk_no (fun e => c2 e.2), brk_no (fun e => by have := e.2; omega)]
        exact ⟨rfl, rfl⟩
    · rw [exWT_no (fun e => c e.1), exWT_no (fun e => c e.1), brk_no (fun e => c e.1), brk_no (fun e => c e.1)]
      exact ⟨rfl, rfl⟩
/-- Of no op of two: from ONE to every level. -/
theorem tied_all {x : Ex} (h : OneOk x) (hx : ∀ a n op nm l r zs, x ≠ .mk 5 a n op nm l r zs) : ∀ j k, k + j = 6 → TiedOk x k
  | 0, k, e => by obtain rfl : k = 6 := by omega
                  exact TiedOk.six h
  | j + 1, k, e => by
    obtain ⟨e1, e2⟩ := exT_same (x := x) (k := k) (fun a n op nm l r zs e => absurd e (hx a n op nm l r zs))
    exact (tied_all h hx j (k + 1) (by omega)).down (by omega) e1 e2

theorem take_ev {E : Env} {t : B} {n : Nat} (h : (pk E n).text = t) : take E t n = .ok (pk E n) (n + 1) := by unfold take; rw [if_pos h]
theorem bracketed_ev {E : Env} {d n m : Nat} {x : Ex} (h1 : (pk E n).text = [40]) (h2 : Ev (fun f => tied E f 1 (d + 1) (n + 1)) (.ok x m)) (h3 : (pk E m).text = [41]) : Ev (fun f => bracketed E f d n) (.ok x (m + 1)) := by
  refine Ev.step (h := fun f => (tied E f 1 (d + 1) (n + 1)).bind fun x n2 => (take E tRp n2).bind fun _ n3 => .ok x n3) (fun f => ?_) (Ev.then h2 ?_)
  · rw [bracketed_eq, take_ev (show (pk E n).text = tLp from h1)]
    rfl
  · exact Ev.pure (fun e => by cases e) (fun f => by rw [take_ev (show (pk E m).text = tRp from h3)]; rfl)
theorem lev41 : levV (opV [41]) = 0 := by decide
theorem lev44 : levV (opV [44]) = 0 := by decide

def appE : Exs → Exs → Exs
  | acc, .nil => acc
  | acc, .cons x xs => appE (acc.snoc x) xs
theorem appE_cons (a : Ex) : ∀ (zs acc : Exs), appE (.cons a acc) zs = .cons a (appE acc zs)
  | .nil, _ => rfl
  | .cons x xs, acc => appE_cons a xs (acc.snoc x)
theorem appE_nil : ∀ zs : Exs, appE .nil zs = zs
  | .nil => rfl
  | .cons x xs => by
    show appE (.cons x .nil) xs = _
    rw [appE_cons, appE_nil xs]

def All (x : Ex) : Prop := OneOk x ∧ ∀ k, 1 ≤ k → k ≤ 6 → TiedOk x k
def AllAs : Exs → Prop
  | .nil => True
  | .cons x xs => All x ∧ AllAs xs
theorem brk_one {x : Ex} {d : Nat} (h : GoodB x d) : brk 1 x = 0 := by
  cases x with
  | nil => rfl
  | mk code a n op nm l r zs =>
    refine brk_no ?_
    rintro ⟨rfl, e⟩
    rw [GoodB] at h
    obtain ⟨_, h⟩ := h
    rcases h with ⟨h, _⟩ | ⟨h, _⟩ | ⟨h, _⟩ | ⟨h, _⟩ | ⟨_, _, _, _, h, _⟩ | ⟨h, _⟩ | ⟨h, _⟩ | ⟨h, _⟩ | ⟨h, _⟩
    all_goals omega
theorem br_any {l : Ex} (h : TiedOk l 1) {E : Env} {d n : Nat} (hg : GoodB l (d + 1)) (ha : At E n ([(4, [40])] ++ (exT 1 l ++ [(4, [41])]))) : ∃ x', exE x' = exE l ∧ Ev (fun f => bracketed E f d n) (.ok x' (n + 1 + (exT 1 l).length + 1)) := by
  obtain ⟨hk, ht⟩ := At.head (ks := exT 1 l ++ [(4, [41])]) ha
  have ha2 : At E (n + 1) (exT 1 l ++ [(4, [41])]) := At.tail (t := [40]) ha
  have h41 : (pk E (n + 1 + (exT 1 l).length)).text = [41] := (At.head (ks := []) ha2.right).2
  obtain ⟨x', e, hev⟩ := h.closed (d := d + 1) (by rw [brk_one hg]; exact hg) ha2.left (by rw [h41, lev41]; decide) (by rw [h41]; decide)
  exact ⟨x', e, bracketed_ev ht hev h41⟩
theorem args_any : ∀ (zs acc acc' : Exs) {E : Env} {d n : Nat}, zs ≠ .nil → AllAs zs → GoodAs zs (d + 1) → At E n (argT true zs ++ [(4, [41])]) → exsE acc' = exsE acc → ∃ as', exsE as' = exsE (appE acc zs) ∧ Ev (fun f => args E f d acc' n) (.ok as' (n + (argT true zs).length + 1))
  | .nil, _, _, _, _, _, h, _, _, _, _ => absurd rfl h
  | .cons x .nil, acc, acc', E, d, n, _, hz, hg, ha, he => by
    rw [GoodAs] at hg
    have et : argT true (.cons x .nil) = exT 1 x := by
      rw [argT, argT]
      show [] ++ (exT 1 x ++ []) = _
      rw [List.append_nil]; rfl
    rw [et] at ha ⊢
    have h41 : (pk E (n + (exT 1 x).length)).text = [41] := (At.head (ks := []) ha.right).2
    obtain ⟨x', e, hev⟩ := (hz.1.2 1 (by decide) (by decide)).closed (d := d + 1) (by rw [brk_one hg.1]; exact hg.1) ha.left (by rw [h41, lev41]; decide) (by rw [h41]; decide)
    refine ⟨acc'.snoc x', by rw [exsE_snoc, e, he]; exact (exsE_snoc acc x).symm, Ev.step (h := fun f => (tied E f 1 (d + 1) n).bind fun x m => if (pk E m).text = tComma then args E f d (acc'.snoc x) (m + 1) else (take E tRp m).bind fun _ m2 => .ok (acc'.snoc x) m2) (fun f => by rw [args_eq]) (Ev.then hev (Ev.pure (fun e => by cases e) fun f => ?_))⟩
    rw [if_neg (by rw [h41]; decide), take_ev (show (pk E (n + (exT 1 x).length)).text = tRp from h41)]
    rfl
  | .cons x (.cons y ys), acc, acc', E, d, n, _, hz, hg, ha, he => by
    rw [GoodAs] at hg
    have et : argT true (.cons x (.cons y ys)) = exT 1 x ++ ([(4, [44])] ++ argT true (.cons y ys)) := by
      rw [argT, argT, argT]
      rfl
    rw [et, List.append_assoc, List.append_assoc] at ha
    have ha2 := ha.right
    have h44 : (pk E (n + (exT 1 x).length)).text = [44] := (At.head (ks := argT true (.cons y ys) ++ [(4, [41])]) ha2).2
    have ha3 : At E (n + (exT 1 x).length + 1) (argT true (.cons y ys) ++ [(4, [41])]) := At.tail (t := [44]) ha2
    obtain ⟨x', e, hev⟩ := (hz.1.2 1 (by decide) (by decide)).closed (d := d + 1) (by rw [brk_one hg.1]; exact hg.1) ha.left (by rw [h44, lev44]; decide) (by rw [h44]; decide)
    obtain ⟨as', e2, hev2⟩ := args_any (.cons y ys) (acc.snoc x) (acc'.snoc x') (fun e => by cases e) hz.2 hg.2 ha3 (by rw [exsE_snoc, exsE_snoc, e, he])
    refine ⟨as', e2, Ev.step (h := fun f => (tied E f 1 (d + 1) n).bind fun x m => if (pk E m).text = tComma then args E f d (acc'.snoc x) (m + 1) else (take E tRp m).bind fun _ m2 => .ok (acc'.snoc x) m2) (fun f => by rw [args_eq]) (Ev.then hev ?_)⟩
    have hl : n + (argT true (.cons x (.cons y ys))).length + 1 = n + (exT 1 x).length + 1 + (argT true (.cons y ys)).length + 1 := by rw [et, List.length_append, List.length_append]; simp; omega
    rw [hl]
    have e3 : (fun f => if (pk E (n + (exT 1 x).length)).text = tComma then args E f d (acc'.snoc x') (n + (exT 1 x).length + 1) else (take E tRp (n + (exT 1 x).length)).bind fun _ m2 => .ok (acc'.snoc x') m2) = fun f => args E f d (acc'.snoc x') (n + (exT 1 x).length + 1) := funext fun f => by rw [if_pos (show (pk E (n + (exT 1 x).length)).text = tComma from h44)]
    rw [e3]
    exact hev2
theorem word_no41 {k : Nat} {t : B} (h : WordT k t) : t ≠ [41] := fun e => by
  have := h.letter
  rw [e] at this
  exact absurd this (by decide)
theorem first_tok : ∀ (x : Ex) (d k : Nat), GoodB x d → ∃ q ks, exT k x = q :: ks ∧ q.2 ≠ [41]
  | .nil, _, _, h => by rw [GoodB] at h; exact h.elim
  | .mk code a n op nm l r zs, d, k, h => by
    by_cases c : code = 5 ∧ levV op < k
    · exact ⟨(4, [40]), bareT (.mk code a n op nm l r zs) ++ [(4, [41])], by unfold exT; rw [exWT_yes c]; rfl, by decide⟩
    have e0 : exT k (.mk code a n op nm l r zs) = bareT (.mk code a n op nm l r zs) := by unfold exT; rw [exWT_no c]
    rw [e0]
    rw [GoodB] at h
    obtain ⟨_, h⟩ := h
    rcases h with ⟨rfl, h1, _⟩ | ⟨rfl, h1, _⟩ | ⟨rfl, _⟩ | ⟨rfl, _, _, h1, _⟩ | ⟨rfl, _, _, _, hv, h1, h2⟩ | ⟨rfl, _, _, _, _, ho, h1⟩ | ⟨rfl, _, _, _, _, _, h1⟩ | ⟨rfl | rfl, _, _, _, _, _, h1⟩ | ⟨rfl, _, _, hw, _, _, h1⟩
    · refine ⟨(3, sOfB n), [], by rw [bareT]; rfl, fun e => ?_⟩
      have e2 : sOfB n = [41] := e
      have := (num_of n h1).1.digits
      rw [e2] at this
      exact absurd this (by decide)
    · exact ⟨(2, if n = 0 then tFalse else tTrue), [], by rw [bareT]; rfl, by split <;> decide⟩
    · exact ⟨(2, tNil), [], by rw [bareT]; rfl, by decide⟩
    · exact ⟨(1, nm), [], by rw [bareT]; rfl, word_no41 h1⟩
    · obtain ⟨q, ks, e, hq⟩ := first_tok l _ (levV op) h1
      exact ⟨q, ks ++ ([(4, sgV op)] ++ exT (levV op + 1) r), by rw [bare_bin.2, e]; rfl, hq⟩
    · exact ⟨(4, signL op), exT 6 l, by rw [bare_un.2]; rfl, by rcases ho with rfl | rfl | rfl <;> decide⟩
    · exact ⟨(4, tArrow), exT 6 l, by rw [bare_recv.2]; rfl, by decide⟩
    · exact ⟨(2, tMake), [(4, [40])] ++ (exT 1 l ++ [(4, [41])]), by rw [bare_make.2]; rfl, by decide⟩
    · exact ⟨(2, tLen), [(4, [40])] ++ (exT 1 l ++ [(4, [41])]), by rw [bare_len.2]; rfl, by decide⟩
    · exact ⟨(1, nm), [(4, [40])] ++ (argT true zs ++ [(4, [41])]), by rw [bare_call.2]; rfl, word_no41 hw⟩

set_option maxHeartbeats 3200000 in
theorem one_ok {code a k op : Nat} {nm : B} {l r : Ex} {zs : Exs} (hc5 : ¬ code = 5) (hl : All l) (hz : AllAs zs) : OneOk (.mk code a k op nm l r zs) := fun E d n hg ha hn => by
    have e0 : brk 6 (.mk code a k op nm l r zs) = 0 := brk_no (fun e => hc5 e.1)
    have et : exT 6 (.mk code a k op nm l r zs) = bareT (.mk code a k op nm l r zs) := by unfold exT; rw [exWT_no (fun e => hc5 e.1)]
    rw [e0, Nat.add_zero] at hg
    rw [et] at ha hn ⊢
    rw [GoodB] at hg
    obtain ⟨hd, hg⟩ := hg
    have hd12 : ¬ 12 < d := by omega
    rcases hg with ⟨rfl, h1, rfl, rfl, rfl, rfl, rfl⟩ | ⟨rfl, h1, rfl, rfl, rfl, rfl, rfl⟩ | ⟨rfl, rfl, rfl, rfl, rfl, rfl, rfl⟩ | ⟨rfl, rfl, rfl, h1, rfl, rfl, rfl⟩ | ⟨rfl, _⟩ | ⟨rfl, rfl, rfl, rfl, rfl, ho, h1⟩ | ⟨rfl, rfl, rfl, rfl, rfl, rfl, h1⟩ | ⟨rfl | rfl, rfl, rfl, rfl, rfl, rfl, h1⟩ | ⟨rfl, rfl, rfl, hw, rfl, rfl, h1⟩
    · have e2 : bareT (.mk 1 a k 0 [] .nil .nil .nil) = [(3, sOfB k)] := by rw [bareT]; rfl
      rw [e2] at ha ⊢
      obtain ⟨hk, ht⟩ := ha.head
      refine ⟨leaf 1 (pk E n).at_ k [], exE_mk rfl rfl rfl, Ev.now (fun e => by cases e) (fun f => ?_)⟩
      rw [Tr.one, if_neg hd12, if_pos hk, ht, (num_of k h1).2]
      rfl
    · have e2 : bareT (.mk 2 a k 0 [] .nil .nil .nil) = [(2, if k = 0 then tFalse else tTrue)] := by rw [bareT]; rfl
      rw [e2] at ha ⊢
      obtain ⟨hk, ht⟩ := ha.head
      refine ⟨leaf 2 (pk E n).at_ k [], exE_mk rfl rfl rfl, Ev.now (fun e => by cases e) (fun f => ?_)⟩
      by_cases c : k = 0
      · rw [if_pos c] at ht
        rw [Tr.one, if_neg hd12, hk, ht, if_neg (by decide), if_neg (by decide), if_neg (by decide), if_neg (by decide), if_neg (by decide), if_neg (by decide), if_neg (by decide), if_neg (by decide), if_pos rfl, c]
        rfl
      · rw [if_neg c] at ht
        have hk1 : k = 1 := by omega
        rw [Tr.one, if_neg hd12, hk, ht, if_neg (by decide), if_neg (by decide), if_neg (by decide), if_neg (by decide), if_neg (by decide), if_neg (by decide), if_neg (by decide), if_pos rfl, hk1]
        rfl
    · have e2 : bareT (.mk 3 a 0 0 [] .nil .nil .nil) = [(2, tNil)] := by rw [bareT]; rfl
      rw [e2] at ha ⊢
      obtain ⟨hk, ht⟩ := ha.head
      refine ⟨leaf 3 (pk E n).at_ 0 [], exE_mk rfl rfl rfl, Ev.now (fun e => by cases e) (fun f => ?_)⟩
      rw [Tr.one, if_neg hd12, hk, ht, if_neg (by decide), if_neg (by decide), if_neg (by decide), if_neg (by decide), if_neg (by decide), if_neg (by decide), if_neg (by decide), if_neg (by decide), if_neg (by decide), if_pos rfl]
      rfl
    · have e2 : bareT (.mk 4 a 0 0 nm .nil .nil .nil) = [(1, nm)] := by rw [bareT]; rfl
      rw [e2] at ha hn ⊢
      obtain ⟨hk, ht⟩ := ha.head
      refine ⟨leaf 4 (pk E n).at_ 0 nm, exE_mk rfl rfl rfl, Ev.step (h := fun f => named E f d n) (fun f => ?_) (Ev.now (fun e => by cases e) (fun f => ?_))⟩
      · rw [Tr.one, if_neg hd12, hk, if_neg (by decide), if_pos rfl]
      · rw [named_eq, if_neg (show ¬ (pk E (n + 1)).text = tLp from hn), ht]
        rfl
    · exact absurd rfl hc5
    · have hop : ∃ z, signL op = z ∧ (z = [45] ∨ z = [94] ∨ z = [33]) ∧ op1V z = op := by
        rcases ho with rfl | rfl | rfl <;> exact ⟨_, rfl, by decide, by decide⟩
      obtain ⟨z, hz, hz2, hz3⟩ := hop
      rw [(bare_un (a := a) (n := 0) (op := op) (nm := []) (l := l) (r := .nil) (zs := .nil)).2, hz] at ha hn ⊢
      obtain ⟨hk, ht⟩ := At.head (ks := exT 6 l) ha
      have ha2 : At E (n + 1) (exT 6 l) := At.tail (t := z) ha
      have hlen : n + ([(4, z)] ++ exT 6 l).length = n + 1 + (exT 6 l).length := by rw [List.length_append]; simp; omega
      rw [hlen] at hn ⊢
      obtain ⟨l', e, hev⟩ := hl.1 E (d + 1) (n + 1) h1 ha2 hn
      refine ⟨.mk 6 (pk E n).at_ 0 op [] l' .nil .nil, exE_mk e rfl rfl, Ev.step (h := fun f => (one E f (d + 1) (n + 1)).bind fun x m => .ok (.mk 6 (pk E n).at_ 0 op [] x .nil .nil) m) (fun f => ?_) (Ev.then hev (Ev.pure (fun e => by cases e) fun f => rfl))⟩
      rw [Tr.one, if_neg hd12, hk, ht, if_neg (by decide), if_neg (by decide), if_neg (by rcases hz2 with rfl | rfl | rfl <;> decide), if_pos hz2, hz3]
    · rw [(bare_recv (a := a) (n := 0) (op := 0) (nm := []) (l := l) (r := .nil) (zs := .nil)).2] at ha hn ⊢
      obtain ⟨hk, ht⟩ := At.head (ks := exT 6 l) ha
      have ha2 : At E (n + 1) (exT 6 l) := At.tail (t := tArrow) ha
      have hlen : n + ([(4, tArrow)] ++ exT 6 l).length = n + 1 + (exT 6 l).length := by rw [List.length_append]; simp; omega
      rw [hlen] at hn ⊢
      obtain ⟨l', e, hev⟩ := hl.1 E (d + 1) (n + 1) h1 ha2 hn
      refine ⟨.mk 10 (pk E n).at_ 0 0 [] l' .nil .nil, exE_mk e rfl rfl, Ev.step (h := fun f => (one E f (d + 1) (n + 1)).bind fun x m => .ok (.mk 10 (pk E n).at_ 0 0 [] x .nil .nil) m) (fun f => ?_) (Ev.then hev (Ev.pure (fun e => by cases e) fun f => rfl))⟩
      rw [Tr.one, if_neg hd12, hk, ht, if_neg (by decide), if_neg (by decide), if_neg (by decide), if_neg (by decide), if_pos rfl]
    · rw [(bare_make (a := a) (n := 0) (op := 0) (nm := []) (l := l) (r := .nil) (zs := .nil)).2] at ha hn ⊢
      obtain ⟨hk, ht⟩ := At.head (ks := [(4, [40])] ++ (exT 1 l ++ [(4, [41])])) ha
      have ha2 : At E (n + 1) ([(4, [40])] ++ (exT 1 l ++ [(4, [41])])) := At.tail (t := tMake) ha
      obtain ⟨l', e, hev⟩ := br_any (hl.2 1 (by decide) (by decide)) h1 ha2
      refine ⟨.mk 8 (pk E n).at_ 0 0 [] l' .nil .nil, exE_mk e rfl rfl, ?_⟩
      have hlen : n + ([(2, tMake)] ++ ([(4, [40])] ++ (exT 1 l ++ [(4, [41])]))).length = n + 1 + 1 + (exT 1 l).length + 1 := by rw [List.length_append, List.length_append, List.length_append]; simp; omega
      rw [hlen]
      refine Ev.step (h := fun f => (bracketed E f d (n + 1)).bind fun x m => .ok (.mk 8 (pk E n).at_ 0 0 [] x .nil .nil) m) (fun f => ?_) (Ev.then hev (Ev.pure (fun e => by cases e) fun f => rfl))
      rw [Tr.one, if_neg hd12, hk, ht, if_neg (by decide), if_neg (by decide), if_neg (by decide), if_neg (by decide), if_neg (by decide), if_pos rfl]
    · rw [(bare_len (a := a) (n := 0) (op := 0) (nm := []) (l := l) (r := .nil) (zs := .nil)).2] at ha hn ⊢
      obtain ⟨hk, ht⟩ := At.head (ks := [(4, [40])] ++ (exT 1 l ++ [(4, [41])])) ha
      have ha2 : At E (n + 1) ([(4, [40])] ++ (exT 1 l ++ [(4, [41])])) := At.tail (t := tLen) ha
      obtain ⟨l', e, hev⟩ := br_any (hl.2 1 (by decide) (by decide)) h1 ha2
      refine ⟨.mk 9 (pk E n).at_ 0 0 [] l' .nil .nil, exE_mk e rfl rfl, ?_⟩
      have hlen : n + ([(2, tLen)] ++ ([(4, [40])] ++ (exT 1 l ++ [(4, [41])]))).length = n + 1 + 1 + (exT 1 l).length + 1 := by rw [List.length_append, List.length_append, List.length_append]; simp; omega
      rw [hlen]
      refine Ev.step (h := fun f => (bracketed E f d (n + 1)).bind fun x m => .ok (.mk 9 (pk E n).at_ 0 0 [] x .nil .nil) m) (fun f => ?_) (Ev.then hev (Ev.pure (fun e => by cases e) fun f => rfl))
      rw [Tr.one, if_neg hd12, hk, ht, if_neg (by decide), if_neg (by decide), if_neg (by decide), if_neg (by decide), if_neg (by decide), if_neg (by decide), if_pos rfl]
    · rw [(bare_call (a := a) (n := 0) (op := 0) (nm := nm) (l := .nil) (r := .nil) (zs := zs)).2] at ha hn ⊢
      obtain ⟨hk, ht⟩ := At.head (ks := [(4, [40])] ++ (argT true zs ++ [(4, [41])])) ha
      have ha2 : At E (n + 1) ([(4, [40])] ++ (argT true zs ++ [(4, [41])])) := At.tail (t := nm) ha
      obtain ⟨hk2, ht2⟩ := At.head (ks := argT true zs ++ [(4, [41])]) ha2
      have ha3 : At E (n + 1 + 1) (argT true zs ++ [(4, [41])]) := At.tail (t := [40]) ha2
      have hlen : n + ([(1, nm)] ++ ([(4, [40])] ++ (argT true zs ++ [(4, [41])]))).length = n + 1 + 1 + (argT true zs).length + 1 := by rw [List.length_append, List.length_append, List.length_append]; simp; omega
      rw [hlen]
      have h41 : (pk E (n + 1 + 1 + (argT true zs).length)).text = [41] := (At.head (ks := []) ha3.right).2
      cases zs with
      | nil =>
        have hz : (argT true .nil).length = 0 := by rw [argT]; rfl
        rw [hz] at h41 ⊢
        refine ⟨.mk 7 (pk E n).at_ 0 0 (pk E n).text .nil .nil .nil, by rw [ht]; exact exE_mk rfl rfl rfl, Ev.step (h := fun f => named E f d n) (fun f => ?_) (Ev.step (h := fun f => call E f d (pk E n) (n + 1)) (fun f => ?_) (Ev.now (fun e => by cases e) (fun f => ?_)))⟩
        · rw [Tr.one, if_neg hd12, hk, if_neg (by decide), if_pos rfl]
        · rw [named_eq, if_pos (show (pk E (n + 1)).text = tLp from ht2)]
        · rw [call_eq, take_ev (show (pk E (n + 1)).text = tLp from ht2)]
          show (if (pk E (n + 1 + 1)).text = tRp then _ else _) = _
          rw [if_pos (show (pk E (n + 1 + 1)).text = tRp from h41)]
      | cons y ys =>
        obtain ⟨as', e, hev⟩ := args_any (.cons y ys) .nil .nil (fun e => by cases e) hz h1 ha3 rfl
        have hny : ¬ (pk E (n + 1 + 1)).text = [41] := by
          have h5 : At E (n + 1 + 1) (argT true (.cons y ys)) := ha3.left
          rw [argT] at h5
          have h6 : At E (n + 1 + 1) (exT 1 y) := At.left (k2 := argT false ys) h5
          rw [GoodAs] at h1
          obtain ⟨q, ks, e7, hq⟩ := first_tok y _ 1 h1.1
          rw [e7] at h6
          intro e8
          exact hq (by rw [← (At.head h6).2]; exact e8)
        refine ⟨.mk 7 (pk E n).at_ 0 0 (pk E n).text .nil .nil as', by rw [ht]; exact exE_mk rfl rfl (by rw [e, appE_nil]), Ev.step (h := fun f => named E f d n) (fun f => ?_) (Ev.step (h := fun f => call E f d (pk E n) (n + 1)) (fun f => ?_) (Ev.step (h := fun f => (args E f d .nil (n + 1 + 1)).bind fun l n2 => .ok (.mk 7 (pk E n).at_ 0 0 (pk E n).text .nil .nil l) n2) (fun f => ?_) (Ev.then hev (Ev.pure (fun e => by cases e) fun f => rfl))))⟩
        · rw [Tr.one, if_neg hd12, hk, if_neg (by decide), if_pos rfl]
        · rw [named_eq, if_pos (show (pk E (n + 1)).text = tLp from ht2)]
        · rw [call_eq, take_ev (show (pk E (n + 1)).text = tLp from ht2)]
          show (if (pk E (n + 1 + 1)).text = tRp then _ else _) = _
          rw [if_neg (show ¬ (pk E (n + 1 + 1)).text = tRp from hny)]
set_option maxHeartbeats 3200000 in
theorem bin_ok {a k op : Nat} {nm : B} {l r : Ex} {zs : Exs} (hl : All l) (hr : All r) : All (.mk 5 a k op nm l r zs) := by
  have key : ∀ {d : Nat}, GoodB (.mk 5 a k op nm l r zs) d → k = 0 ∧ nm = [] ∧ zs = .nil ∧ 1 ≤ levV op ∧ d ≤ 12 ∧ GoodB l (d + brk (levV op) l) ∧ GoodB r (d + brk (levV op + 1) r) := fun h => by
    rw [GoodB] at h
    obtain ⟨hd, h⟩ := h
    rcases h with ⟨h, _⟩ | ⟨h, _⟩ | ⟨h, _⟩ | ⟨h, _⟩ | ⟨_, h1, h2, h3, h4, h5, h6⟩ | ⟨h, _⟩ | ⟨h, _⟩ | ⟨h, _⟩ | ⟨h, _⟩
    · cases h
    · cases h
    · cases h
    · cases h
    · exact ⟨h1, h2, h3, h4, hd, h5, h6⟩
    · cases h
    · cases h
    · rcases h with h | h <;> cases h
    · cases h
  by_cases hv : 1 ≤ levV op
  case neg =>
    refine ⟨fun E d n hg _ _ => absurd (key hg).2.2.2.1 hv, fun j _ _ E d n hg _ _ _ => absurd (key hg).2.2.2.1 hv⟩
  obtain ⟨s1, s2, s3, s4⟩ := lev_sig op (lev_lt hv) hv
  have hbare : ∀ j, j ≤ levV op → exT j (.mk 5 a k op nm l r zs) = exT (levV op) l ++ ([(4, sgV op)] ++ exT (levV op + 1) r) ∧ brk j (.mk 5 a k op nm l r zs) = 0 := fun j hj => by
    refine ⟨?_, brk_no (fun e => by have := e.2; omega)⟩
    rw [← (bare_bin (a := a) (n := k) (op := op) (nm := nm) (l := l) (r := r) (zs := zs)).2]
    unfold exT
    rw [exWT_no (fun e => by have := e.2; omega)]
  have hL : TiedOk (.mk 5 a k op nm l r zs) (levV op) := fun E d n hg ha hlv hn => by
    obtain ⟨eb1, eb2⟩ := hbare (levV op) (Nat.le_refl _)
    rw [eb2, Nat.add_zero] at hg
    rw [eb1] at ha hlv hn ⊢
    obtain ⟨rfl, rfl, rfl, _, hd, g1, g2⟩ := key hg
    have ha2 := ha.right
    have hop : (pk E (n + (exT (levV op) l).length)).text = sgV op := (At.head (ks := exT (levV op + 1) r) ha2).2
    have ha3 : At E (n + (exT (levV op) l).length + 1) (exT (levV op + 1) r) := At.tail (t := sgV op) ha2
    have hlen : n + (exT (levV op) l ++ ([(4, sgV op)] ++ exT (levV op + 1) r)).length = n + (exT (levV op) l).length + 1 + (exT (levV op + 1) r).length := by rw [List.length_append, List.length_append]; simp; omega
    rw [hlen] at hlv hn ⊢
    obtain ⟨l', e1, hl'⟩ := hl.2 (levV op) hv (by omega) E d n g1 ha.left (by rw [hop, s2]; exact Nat.le_refl _) (by
      rw [hop]
      intro e
      rw [e] at s2
      rw [← s2] at hv
      exact absurd hv (by decide))
    obtain ⟨r', e2, hr'⟩ := (hr.2 (levV op + 1) (by omega) (by omega)).closed g2 ha3 (by omega) hn
    refine ⟨.mk 5 (pk E (n + (exT (levV op) l).length)).at_ 0 op [] l' r' .nil, exE_mk e1 e2 rfl, fun q hq => hl' q ?_⟩
    have t1 : (fun f => tl E f (levV op) d l' (n + (exT (levV op) l).length)) = fun f => tloop E f (levV op) d l' (n + (exT (levV op) l).length) := funext fun f => by unfold tl; rw [if_neg (by omega)]
    rw [t1]
    refine Ev.step (h := fun f => (tied E f (levV op + 1) d (n + (exT (levV op) l).length + 1)).bind fun y m => tloop E f (levV op) d (.mk 5 (pk E (n + (exT (levV op) l).length)).at_ 0 op [] l' y .nil) m) (fun f => ?_) (Ev.then hr' ?_)
    · rw [tloop_eq, hop, s2, if_pos rfl]
    · have t2 : (fun f => tl E f (levV op) d (.mk 5 (pk E (n + (exT (levV op) l).length)).at_ 0 op [] l' r' .nil) (n + (exT (levV op) l).length + 1 + (exT (levV op + 1) r).length)) = fun f => tloop E f (levV op) d (.mk 5 (pk E (n + (exT (levV op) l).length)).at_ 0 op [] l' r' .nil) (n + (exT (levV op) l).length + 1 + (exT (levV op + 1) r).length) := funext fun f => by unfold tl; rw [if_neg (by omega)]
      rw [t2] at hq
      exact hq
  have hlow : ∀ j i, i + j = levV op → TiedOk (.mk 5 a k op nm l r zs) i := by
    intro j
    induction j with
    | zero => intro i e; obtain rfl : i = levV op := by omega
              exact hL
    | succ j ih =>
      intro i e
      obtain ⟨q1, q2⟩ := exT_same (x := .mk 5 a k op nm l r zs) (k := i) (fun a2 n2 op2 nm2 l2 r2 zs2 e2 => by cases e2; omega)
      exact (ih (i + 1) (by omega)).down (by omega) q1 q2
  have hone : OneOk (.mk 5 a k op nm l r zs) := fun E d n hg ha hn => by
    have b6 : brk 6 (.mk 5 a k op nm l r zs) = 1 := brk_yes ⟨rfl, by omega⟩
    have x6 : exT 6 (.mk 5 a k op nm l r zs) = [(4, [40])] ++ (exT 1 (.mk 5 a k op nm l r zs) ++ [(4, [41])]) := by
      rw [(hbare 1 hv).1, ← (bare_bin (a := a) (n := k) (op := op) (nm := nm) (l := l) (r := r) (zs := zs)).2]
      unfold exT
      rw [exWT_yes ⟨rfl, by omega⟩]
    rw [b6] at hg
    rw [x6] at ha hn ⊢
    obtain ⟨hk, ht⟩ := At.head (ks := exT 1 (.mk 5 a k op nm l r zs) ++ [(4, [41])]) ha
    obtain ⟨x', e, hev⟩ := br_any (hlow (levV op - 1) 1 (by omega)) hg ha
    have hlen : n + ([(4, [40])] ++ (exT 1 (.mk 5 a k op nm l r zs) ++ [(4, [41])])).length = n + 1 + (exT 1 (.mk 5 a k op nm l r zs)).length + 1 := by rw [List.length_append, List.length_append]; simp; omega
    rw [hlen]
    refine ⟨x', e, Ev.step (h := fun f => bracketed E f d n) (fun f => ?_) hev⟩
    have hd := (key hg).2.2.2.2.1
    rw [Tr.one, if_neg (by omega), hk, ht, if_neg (by decide), if_neg (by decide), if_pos (show ([40] : B) = tLp from rfl)]
  have hhigh : ∀ j i, i + j = 6 → levV op < i → TiedOk (.mk 5 a k op nm l r zs) i := by
    intro j
    induction j with
    | zero => intro i e _; obtain rfl : i = 6 := by omega
              exact TiedOk.six hone
    | succ j ih =>
      intro i e hi
      obtain ⟨q1, q2⟩ := exT_same (x := .mk 5 a k op nm l r zs) (k := i) (fun a2 n2 op2 nm2 l2 r2 zs2 e2 => by cases e2; omega)
      exact (ih (i + 1) (by omega) (by omega)).down (by omega) q1 q2
  refine ⟨hone, fun i h1 h6 => ?_⟩
  by_cases c : i ≤ levV op
  · exact hlow (levV op - i) i (by omega)
  · exact hhigh (6 - i) i (by omega) (by omega)
mutual
/-- What is written of an expression is read as it. -/
theorem all_ok : ∀ x : Ex, All x
  | .nil => ⟨fun E d n hg _ _ => by rw [GoodB] at hg; exact hg.elim, fun k _ _ E d n hg _ _ _ => by rw [GoodB] at hg; exact hg.elim⟩
  | .mk code a k op nm l r zs => by
    by_cases c : code = 5
    · subst c
      exact bin_ok (all_ok l) (all_ok r)
    · have h := one_ok (a := a) (k := k) (op := op) (nm := nm) (r := r) c (all_ok l) (all_as zs)
      exact ⟨h, fun j h1 h6 => tied_all h (fun a n op nm l r zs e => by injection e with e1; exact c e1) (6 - j) j (by omega)⟩
theorem all_as : ∀ zs : Exs, AllAs zs
  | .nil => trivial
  | .cons x xs => ⟨all_ok x, all_as xs⟩
end
end Tr
end Go.Proofs.YtgonbmcojjcabaaGreatDoor

namespace Go.Proofs.YtgonbmcojjcabaaGreatDoor
open Lx Tr
namespace Tr

def nlT : List (Nat × B) := [(5, [10])]
def giveT (val : Ex) : List (Nat × B) := match val with
  | .nil => [(2, tReturn)]
  | x => [(2, tReturn)] ++ exT 1 x
def talkT (code : Nat) (name : B) (dst val : Ex) : List (Nat × B) :=
  if code = 3 then [(2, tCase)] ++ (exT 6 dst ++ ([(4, tArrow)] ++ exT 1 val))
  else if code = 10 then (if name = [] then [(2, tCase)] ++ ([(4, tArrow)] ++ exT 6 dst) else [(2, tCase)] ++ ([(1, name)] ++ ([(4, tLet)] ++ ([(4, tArrow)] ++ exT 6 dst))))
  else [(2, tDefault)]
mutual
def stT : St → List (Nat × B)
  | .mk code _ name dst val thn els cases =>
    if code = 1 then [(1, name)] ++ ([(4, tLet)] ++ (exT 1 val ++ nlT))
    else if code = 2 then [(1, name)] ++ ([(4, tSet)] ++ (exT 1 val ++ nlT))
    else if code = 3 then exT 6 dst ++ ([(4, tArrow)] ++ (exT 1 val ++ nlT))
    else if code = 4 then [(2, tClose)] ++ (([(4, [40])] ++ (exT 1 val ++ [(4, [41])])) ++ nlT)
    else if code = 5 then [(2, tPrint)] ++ (exT 1 val ++ nlT)
    else if code = 6 then [(2, tSleep)] ++ (exT 1 val ++ nlT)
    else if code = 7 then [(2, tGo)] ++ (exT 1 val ++ nlT)
    else if code = 8 then giveT val ++ nlT
    else if code = 9 then [(2, tBreak)] ++ nlT
    else if code = 10 then [(2, tContinue)] ++ nlT
    else if code = 11 then exT 1 val ++ nlT
    else if code = 12 then [(2, tIf)] ++ (exT 1 val ++ ([(4, tLb)] ++ (stsT thn ++ ([(4, tRb)] ++ ((if els.len = 0 then [] else [(2, tElse)] ++ ([(4, tLb)] ++ (stsT els ++ [(4, tRb)]))) ++ nlT)))))
    else if code = 13 then [(2, tFor)] ++ (exT 1 val ++ ([(4, tLb)] ++ (stsT thn ++ ([(4, tRb)] ++ nlT))))
    else if code = 14 then [(2, tSelect)] ++ ([(4, tLb)] ++ (casT cases ++ ([(4, tRb)] ++ nlT)))
    else []
def stsT : Sts → List (Nat × B)
  | .nil => []
  | .cons x xs => stT x ++ stsT xs
def caT : Ca → List (Nat × B)
  | .mk code _ name dst val body => talkT code name dst val ++ ([(4, tColon)] ++ stsT body)
def casT : Cas → List (Nat × B)
  | .nil => []
  | .cons x xs => caT x ++ casT xs
end
/- Statements that a reader makes in so many blocks. -/
def GoodO (x : Ex) (d : Nat) : Prop := GoodB x (d + brk 6 x)
mutual
def GoodS : St → Nat → Prop
  | .mk code _ name dst val thn els cases, dep =>
    ((code = 1 ∨ code = 2) ∧ WordT 1 name ∧ dst = .nil ∧ GoodB val 0 ∧ thn = .nil ∧ els = .nil ∧ cases = .nil) ∨
    (code = 3 ∧ name = [] ∧ GoodO dst 0 ∧ GoodB val 0 ∧ thn = .nil ∧ els = .nil ∧ cases = .nil) ∨
    (code = 4 ∧ name = [] ∧ dst = .nil ∧ GoodB val 1 ∧ thn = .nil ∧ els = .nil ∧ cases = .nil) ∨
    ((code = 5 ∨ code = 6) ∧ name = [] ∧ dst = .nil ∧ GoodB val 0 ∧ thn = .nil ∧ els = .nil ∧ cases = .nil) ∨
    (code = 7 ∧ name = [] ∧ dst = .nil ∧ GoodB val 0 ∧ codeOf val = 7 ∧ thn = .nil ∧ els = .nil ∧ cases = .nil) ∨
    (code = 8 ∧ name = [] ∧ dst = .nil ∧ (val = .nil ∨ GoodB val 0) ∧ thn = .nil ∧ els = .nil ∧ cases = .nil) ∨
    ((code = 9 ∨ code = 10) ∧ name = [] ∧ dst = .nil ∧ val = .nil ∧ thn = .nil ∧ els = .nil ∧ cases = .nil) ∨
    (code = 11 ∧ name = [] ∧ dst = .nil ∧ GoodB val 0 ∧ (codeOf val = 7 ∨ codeOf val = 10) ∧ thn = .nil ∧ els = .nil ∧ cases = .nil) ∨
    (code = 12 ∧ name = [] ∧ dst = .nil ∧ GoodB val 0 ∧ dep < 12 ∧ GoodSs thn (dep + 1) ∧ GoodSs els (dep + 1) ∧ cases = .nil) ∨
    (code = 13 ∧ name = [] ∧ dst = .nil ∧ GoodB val 0 ∧ dep < 12 ∧ GoodSs thn (dep + 1) ∧ els = .nil ∧ cases = .nil) ∨
    (code = 14 ∧ name = [] ∧ dst = .nil ∧ val = .nil ∧ thn = .nil ∧ els = .nil ∧ dep < 12 ∧ cases.len ≤ 6 ∧ GoodCs cases (dep + 1))
def GoodSs : Sts → Nat → Prop
  | .nil, _ => True
  | .cons x xs, dep => GoodS x dep ∧ GoodSs xs dep
def GoodC : Ca → Nat → Prop
  | .mk code _ name dst val body, dep =>
    ((code = 3 ∧ name = [] ∧ GoodO dst 0 ∧ GoodB val 0) ∨ (code = 10 ∧ name = [] ∧ GoodO dst 1 ∧ val = .nil) ∨ (code = 10 ∧ WordT 1 name ∧ GoodO dst 0 ∧ val = .nil) ∨ (code = 40 ∧ name = [] ∧ dst = .nil ∧ val = .nil)) ∧ GoodSs body dep
def GoodCs : Cas → Nat → Prop
  | .nil, _ => True
  | .cons x xs, dep => GoodC x dep ∧ GoodCs xs dep
end

/-- Words at which a statement begins, and what ends one's like. -/
def badL : List B := [[41], tRb, tCase, tDefault, tClose, tPrint, tSleep, tGo, tReturn, tBreak, tContinue, tIf, tFor, tSelect]
theorem word_bad {t : B} (h : WordT 1 t) : t ∉ badL := fun e => by
  have hk : isKeyV t = false := by
    have := h.kind
    by_cases c : isKeyV t = true
    · rw [if_pos c] at this; cases this
    · simpa using c
  have : ∀ t ∈ badL, isKeyV t = true ∨ letV t = 0 := by decide
  rcases this t e with h2 | h2
  · rw [hk] at h2; cases h2
  · have := h.letter; omega
/-- The first token of an expression. -/
theorem first_good : ∀ (x : Ex) (d k : Nat), GoodB x d → ∃ q ks, exT k x = q :: ks ∧ q.2 ∉ badL ∧ q.1 ≤ 4
  | .nil, _, _, h => by rw [GoodB] at h; exact h.elim
  | .mk code a n op nm l r zs, d, k, h => by
    by_cases c : code = 5 ∧ levV op < k
    · exact ⟨(4, [40]), bareT (.mk code a n op nm l r zs) ++ [(4, [41])], by unfold exT; rw [exWT_yes c]; rfl, by decide, by decide⟩
    have e0 : exT k (.mk code a n op nm l r zs) = bareT (.mk code a n op nm l r zs) := by unfold exT; rw [exWT_no c]
    rw [e0]
    rw [GoodB] at h
    obtain ⟨_, h⟩ := h
    rcases h with ⟨rfl, h1, _⟩ | ⟨rfl, h1, _⟩ | ⟨rfl, _⟩ | ⟨rfl, _, _, h1, _⟩ | ⟨rfl, _, _, _, hv, h1, h2⟩ | ⟨rfl, _, _, _, _, ho, h1⟩ | ⟨rfl, _, _, _, _, _, h1⟩ | ⟨rfl | rfl, _, _, _, _, _, h1⟩ | ⟨rfl, _, _, hw, _, _, h1⟩
    · refine ⟨(3, sOfB n), [], by rw [bareT]; rfl, fun e => ?_, (by decide : (3 : Nat) ≤ 4)⟩
      have hd := (num_of n h1).1.digits
      have hp := (num_of n h1).1.pos
      have : ∀ t ∈ badL, t ≠ [] ∧ digV t = 0 := by decide
      obtain ⟨q1, q2⟩ := this _ e
      rw [q2] at hd
      exact hp (List.eq_nil_of_length_eq_zero hd.symm)
    · exact ⟨(2, if n = 0 then tFalse else tTrue), [], by rw [bareT]; rfl, by split <;> decide, (by decide : (2 : Nat) ≤ 4)⟩
    · exact ⟨(2, tNil), [], by rw [bareT]; rfl, by decide, by decide⟩
    · exact ⟨(1, nm), [], by rw [bareT]; rfl, word_bad h1, (by decide : (1 : Nat) ≤ 4)⟩
    · obtain ⟨q, ks, e, hq, hk⟩ := first_good l _ (levV op) h1
      exact ⟨q, ks ++ ([(4, sgV op)] ++ exT (levV op + 1) r), by rw [bare_bin.2, e]; rfl, hq, hk⟩
    · exact ⟨(4, signL op), exT 6 l, by rw [bare_un.2]; rfl, by rcases ho with rfl | rfl | rfl <;> decide, (by decide : (4 : Nat) ≤ 4)⟩
    · exact ⟨(4, tArrow), exT 6 l, by rw [bare_recv.2]; rfl, by decide, by decide⟩
    · exact ⟨(2, tMake), [(4, [40])] ++ (exT 1 l ++ [(4, [41])]), by rw [bare_make.2]; rfl, by decide, by decide⟩
    · exact ⟨(2, tLen), [(4, [40])] ++ (exT 1 l ++ [(4, [41])]), by rw [bare_len.2]; rfl, by decide, by decide⟩
    · exact ⟨(1, nm), [(4, [40])] ++ (argT true zs ++ [(4, [41])]), by rw [bare_call.2]; rfl, word_bad hw, (by decide : (1 : Nat) ≤ 4)⟩
theorem At.first {E : Env} {n k d : Nat} {x : Ex} {ks : List (Nat × B)} (h : At E n (exT k x ++ ks)) (hg : GoodB x d) : (pk E n).text ∉ badL ∧ (pk E n).kind ≤ 4 := by
  obtain ⟨q, ks', e, hq, hk⟩ := first_good x d k hg
  rw [e] at h
  have := At.head (ks := ks' ++ ks) h
  rw [this.1, this.2]
  exact ⟨hq, hk⟩
/-- Where ONE begins with a name, neither ':=' nor '=' is behind it. -/
theorem one_second {E : Env} {n d : Nat} {x : Ex} {t : B} {k : Nat} {ks : List (Nat × B)} (h : At E n (exT 6 x ++ ((k, t) :: ks))) (hg : GoodB x d) (ht1 : t ≠ tLet) (ht2 : t ≠ tSet) : ¬ ((pk E n).kind = 1 ∧ (pk E (n + 1)).text = tLet) ∧ ¬ ((pk E n).kind = 1 ∧ (pk E (n + 1)).text = tSet) := by
  have key : (pk E n).kind = 1 → (pk E (n + 1)).text ≠ tLet ∧ (pk E (n + 1)).text ≠ tSet := fun hk => by
    cases x with
    | nil => rw [GoodB] at hg; exact hg.elim
    | mk code a k2 op nm l r zs =>
      by_cases c : code = 5 ∧ levV op < 6
      · have e : exT 6 (.mk code a k2 op nm l r zs) = (4, [40]) :: (bareT (.mk code a k2 op nm l r zs) ++ [(4, [41])]) := by unfold exT; rw [exWT_yes c]; rfl
        rw [e] at h
        rw [(At.head (ks := (bareT (.mk code a k2 op nm l r zs) ++ [(4, [41])]) ++ ((k, t) :: ks)) h).1] at hk
        cases hk
      have e0 : exT 6 (.mk code a k2 op nm l r zs) = bareT (.mk code a k2 op nm l r zs) := by unfold exT; rw [exWT_no c]
      rw [e0] at h
      rw [GoodB] at hg
      obtain ⟨_, hg⟩ := hg
      have no : ∀ {q : Nat} {u : B} {us : List (Nat × B)}, At E n ((q, u) :: us) → q ≠ 1 → False := fun h2 hq => by rw [h2.head.1] at hk; exact hq hk
      rcases hg with ⟨rfl, _⟩ | ⟨rfl, _⟩ | ⟨rfl, _⟩ | ⟨rfl, _, _, h1, _⟩ | ⟨rfl, _, _, _, hv, _⟩ | ⟨rfl, _⟩ | ⟨rfl, _⟩ | ⟨rfl | rfl, _⟩ | ⟨rfl, _⟩
      · rw [show bareT (.mk 1 a k2 op nm l r zs) = [(3, sOfB k2)] by rw [bareT]; rfl] at h
        exact (no (us := (k, t) :: ks) h (by decide)).elim
      · rw [show bareT (.mk 2 a k2 op nm l r zs) = [(2, if k2 = 0 then tFalse else tTrue)] by rw [bareT]; rfl] at h
        exact (no (us := (k, t) :: ks) h (by decide)).elim
      · rw [show bareT (.mk 3 a k2 op nm l r zs) = [(2, tNil)] by rw [bareT]; rfl] at h
        exact (no (us := (k, t) :: ks) h (by decide)).elim
      · rw [show bareT (.mk 4 a k2 op nm l r zs) = [(1, nm)] by rw [bareT]; rfl] at h
        have h2 := (At.tail (ks := (k, t) :: ks) h).head.2
        rw [h2]
        exact ⟨ht1, ht2⟩
      · exact absurd ⟨rfl, by have := (lev_sig op (lev_lt hv) hv).2.2.2; omega⟩ c
      · rw [bare_un.2] at h
        exact (no (us := exT 6 l ++ ((k, t) :: ks)) h (by decide)).elim
      · rw [bare_recv.2] at h
        exact (no (us := exT 6 l ++ ((k, t) :: ks)) h (by decide)).elim
      · rw [bare_make.2] at h
        have h7 : (pk E n).kind = 2 := (h 0 (2, tMake) rfl).1
        omega
      · rw [bare_len.2] at h
        have h7 : (pk E n).kind = 2 := (h 0 (2, tLen) rfl).1
        omega
      · rw [bare_call.2] at h
        have h2 := (At.tail (ks := ([(4, [40])] ++ (argT true zs ++ [(4, [41])])) ++ ((k, t) :: ks)) h)
        rw [(At.head (ks := (argT true zs ++ [(4, [41])]) ++ ((k, t) :: ks)) h2).2]
        exact ⟨by decide, by decide⟩
  exact ⟨fun e => (key e.1).1 e.2, fun e => (key e.1).2 e.2⟩
end Tr
end Go.Proofs.YtgonbmcojjcabaaGreatDoor

namespace Go.Proofs.YtgonbmcojjcabaaGreatDoor
open Lx Tr
namespace Tr

/-- As the other one. -/
theorem Ev.step' {α : Type} {g h : Nat → Res α} {r : Res α} (e : ∀ f, g f = h f) (hh : Ev h r) : Ev g r := by rw [funext e]; exact hh
theorem ex_rd {E : Env} {d n k : Nat} {x : Ex} {t : B} {ks : List (Nat × B)} (hg : GoodB x d) (ha : At E n (exT 1 x ++ ((k, t) :: ks))) (ht : levV (opV t) = 0 ∧ t ≠ [40]) : ∃ x', exE x' = exE x ∧ Ev (fun f => expr E f d n) (.ok x' (n + (exT 1 x).length)) ∧ At E (n + (exT 1 x).length) ((k, t) :: ks) := by
  have h2 := ha.right
  obtain ⟨x', e, hev⟩ := ((all_ok x).2 1 (by decide) (by decide)).closed (d := d) (by rw [brk_one hg]; exact hg) ha.left (by rw [h2.head.2, ht.1]; decide) (by rw [h2.head.2]; exact ht.2)
  exact ⟨x', e, hev, h2⟩
theorem one_rd {E : Env} {d n k : Nat} {x : Ex} {t : B} {ks : List (Nat × B)} (hg : GoodO x d) (ha : At E n (exT 6 x ++ ((k, t) :: ks))) (ht : t ≠ [40]) : ∃ x', exE x' = exE x ∧ Ev (fun f => one E f d n) (.ok x' (n + (exT 6 x).length)) ∧ At E (n + (exT 6 x).length) ((k, t) :: ks) := by
  have h2 := ha.right
  obtain ⟨x', e, hev⟩ := (all_ok x).1 E d n hg ha.left (by rw [h2.head.2]; exact ht)
  exact ⟨x', e, hev, h2⟩
theorem lvN : levV (opV [10]) = 0 ∧ ([10] : B) ≠ [40] := by decide
theorem lvL : levV (opV tLb) = 0 ∧ tLb ≠ [40] := by decide
theorem lvR : levV (opV [41]) = 0 ∧ ([41] : B) ≠ [40] := by decide
theorem lvC : levV (opV tColon) = 0 ∧ tColon ≠ [40] := by decide
/-- A statement that begins with no word of its own. -/
theorem stmt_plain {E : Env} {dep n : Nat} (h : (pk E n).text ∉ badL) (f : Nat) : stmt E (f + 1) dep n = plain E f n := by
  have q : ∀ t ∈ badL, (pk E n).text ≠ t := fun t ht e => h (by rw [e]; exact ht)
  rw [stmt_eq, if_neg (q _ (by decide)), if_neg (q _ (by decide)), if_neg (q _ (by decide)), if_neg (q _ (by decide)), if_neg (q _ (by decide)), if_neg (q _ (by decide)), if_neg (q _ (by decide)), if_neg (q _ (by decide)), if_neg (q _ (by decide)), if_neg (q _ (by decide))]
theorem not_bad {E : Env} {n : Nat} (h : (pk E n).text ∉ badL) : (pk E n).text ≠ tRb ∧ (pk E n).text ≠ tCase ∧ (pk E n).text ≠ tDefault := ⟨fun e => h (by rw [e]; decide), fun e => h (by rw [e]; decide), fun e => h (by rw [e]; decide)⟩

/-- What is asked of one statement: it is read, up to its line's end. -/
def StRd (s : St) : Prop := ∀ (E : Env) (dep n : Nat), GoodS s dep → At E n (stT s) → ((pk E n).text ≠ tRb ∧ (pk E n).text ≠ tCase ∧ (pk E n).text ≠ tDefault) ∧
  ∃ s' m, stE s' = stE s ∧ m + 1 = n + (stT s).length ∧ (pk E m).kind = 5 ∧ (pk E m).text = [10] ∧ Ev (fun f => stmt E f dep n) (.ok s' m)
def appS : Sts → Sts → Sts
  | acc, .nil => acc
  | acc, .cons x xs => appS (acc.snoc x) xs
theorem appS_cons (a : St) : ∀ (zs acc : Sts), appS (.cons a acc) zs = .cons a (appS acc zs)
  | .nil, _ => rfl
  | .cons x xs, acc => appS_cons a xs (acc.snoc x)
theorem appS_nil : ∀ zs : Sts, appS .nil zs = zs
  | .nil => rfl
  | .cons x xs => by
    show appS (.cons x .nil) xs = _
    rw [appS_cons, appS_nil xs]
def StsRd (xs : Sts) : Prop := ∀ (E : Env) (dep n : Nat) (cs : Bool) (acc acc' : Sts), stsE acc' = stsE acc → GoodSs xs dep → At E n (stsT xs) →
  ∃ ys, stsE ys = stsE (appS acc xs) ∧ ∀ r, Ev (fun f => stmts E f dep cs ys (n + (stsT xs).length)) r → Ev (fun f => stmts E f dep cs acc' n) r
theorem sts_nil : StsRd .nil := fun E dep n cs acc acc' he _ _ => ⟨acc', he, fun r hr => by rw [stsT] at hr; exact hr⟩
theorem sts_cons {x : St} {xs : Sts} (hx : StRd x) (hxs : StsRd xs) : StsRd (.cons x xs) := fun E dep n cs acc acc' he hg ha => by
  rw [GoodSs] at hg
  rw [stsT] at ha ⊢
  obtain ⟨⟨q1, q2, q3⟩, s', m, e1, hm, hk, ht, hev⟩ := hx E dep n hg.1 ha.left
  have ha2 : At E (m + 1) (stsT xs) := by rw [hm]; exact ha.right
  obtain ⟨ys, e2, hys⟩ := hxs E dep (m + 1) cs (acc.snoc x) (acc'.snoc s') (by rw [stsE_snoc, stsE_snoc, he, e1]) hg.2 ha2
  refine ⟨ys, e2, fun r hr => ?_⟩
  rw [List.length_append, ← Nat.add_assoc, ← hm] at hr
  refine Ev.step (h := fun f => (stmt E f dep n).bind fun s m => if (pk E m).text = tRb then stmts E f dep cs (acc'.snoc s) m else (takeKind E 5 m).bind fun _ m2 => stmts E f dep cs (acc'.snoc s) m2) (fun f => ?_) (Ev.then hev ?_)
  · rw [stmts_eq, if_neg]
    rintro (e | ⟨_, e | e⟩)
    · exact q1 e
    · exact q2 e
    · exact q3 e
  · have e3 : (fun f => if (pk E m).text = tRb then stmts E f dep cs (acc'.snoc s') m else (takeKind E 5 m).bind fun _ m2 => stmts E f dep cs (acc'.snoc s') m2) = fun f => stmts E f dep cs (acc'.snoc s') (m + 1) := funext fun f => by
      rw [if_neg (by rw [ht]; decide)]
      unfold takeKind
      rw [if_pos hk]
      rfl
    rw [e3]
    exact hys r hr
/-- Statements, and what ends them. -/
theorem sts_closed {xs : Sts} (h : StsRd xs) {E : Env} {dep n : Nat} {cs : Bool} (hg : GoodSs xs dep) (ha : At E n (stsT xs)) (he : (pk E (n + (stsT xs).length)).text = tRb ∨ (cs = true ∧ ((pk E (n + (stsT xs).length)).text = tCase ∨ (pk E (n + (stsT xs).length)).text = tDefault))) :
    ∃ ys, stsE ys = stsE xs ∧ Ev (fun f => stmts E f dep cs .nil n) (.ok ys (n + (stsT xs).length)) := by
  obtain ⟨ys, e, hr⟩ := h E dep n cs .nil .nil rfl hg ha
  rw [appS_nil] at e
  exact ⟨ys, e, hr _ (Ev.now (fun e => by cases e) fun f => by rw [stmts_eq, if_pos he])⟩
theorem block_rd {xs : Sts} (h : StsRd xs) {E : Env} {dep n k : Nat} {ks : List (Nat × B)} (hd : dep < 12) (hg : GoodSs xs (dep + 1)) (ha : At E n ((k, tLb) :: (stsT xs ++ ((4, tRb) :: ks)))) :
    ∃ ys, stsE ys = stsE xs ∧ Ev (fun f => block E f dep n) (.ok ys (n + 1 + (stsT xs).length + 1)) ∧ At E (n + 1 + (stsT xs).length + 1) ks := by
  have h1 := ha.tail
  have h2 := h1.right
  obtain ⟨ys, e, hev⟩ := sts_closed h (cs := false) hg h1.left (Or.inl h2.head.2)
  refine ⟨ys, e, Ev.step (h := fun f => (stmts E f (dep + 1) false .nil (n + 1)).bind fun l n2 => (take E tRb n2).bind fun _ n3 => .ok l n3) (fun f => ?_) (Ev.then hev (Ev.pure (fun e => by cases e) fun f => ?_)), h2.tail⟩
  · rw [block_eq]
    unfold open_
    rw [if_neg (fun e => by have := e.2; omega), take_ev ha.head.2]
    rfl
  · rw [take_ev h2.head.2]
    rfl

/-- Behind one's words one call is read. -/
theorem call_rd {E : Env} {n k d : Nat} {x : Ex} {t : B} {ks : List (Nat × B)} (hg : GoodB x d) (hc : codeOf x = 7) (ha : At E n (exT 1 x ++ ((k, t) :: ks))) (ht : t ≠ [40]) : ∃ x', exE x' = exE x ∧ (pk E n).kind = 1 ∧ Ev (fun f => call E f d (pk E n) (n + 1)) (.ok x' (n + (exT 1 x).length)) ∧ At E (n + (exT 1 x).length) ((k, t) :: ks) := by
  cases x with
  | nil => cases hc
  | mk code a k2 op nm l r zs =>
    have hc' : code = 7 := hc
    subst hc'
    have e1 : exT 1 (.mk 7 a k2 op nm l r zs) = exT 6 (.mk 7 a k2 op nm l r zs) := by unfold exT; rw [exWT_no (fun e => by cases e.1), exWT_no (fun e => by cases e.1)]
    have e2 : exT 6 (.mk 7 a k2 op nm l r zs) = (1, nm) :: ((4, [40]) :: (argT true zs ++ [(4, [41])])) := by unfold exT; rw [exWT_no (fun e => by cases e.1), bare_call.2]; rfl
    rw [e1] at ha ⊢
    obtain ⟨x', e, hev, h2⟩ := one_rd (d := d) (by unfold GoodO; rw [brk_no (fun e => by cases e.1)]; exact hg) ha ht
    rw [e2] at ha
    have hk := (At.head (ks := ((4, [40]) :: (argT true zs ++ [(4, [41])])) ++ ((k, t) :: ks)) ha).1
    have hp := (At.head (ks := (argT true zs ++ [(4, [41])]) ++ ((k, t) :: ks)) (At.tail (t := nm) ha)).2
    refine ⟨x', e, hk, ?_, h2⟩
    have hd : d ≤ 12 := by rw [GoodB] at hg; exact hg.1
    obtain ⟨h1, f0, hf⟩ := hev
    refine ⟨h1, f0, fun f hle => ?_⟩
    have this : one E (f + 1 + 1) d n = .ok x' (n + (exT 6 (.mk 7 a k2 op nm l r zs)).length) := hf (f + 2) (by omega)
    rw [Tr.one, if_neg (by omega), hk, if_neg (by decide), if_pos rfl, named_eq, if_pos (show (pk E (n + 1)).text = tLp from hp)] at this
    exact this
end Tr
end Go.Proofs.YtgonbmcojjcabaaGreatDoor

namespace Go.Proofs.YtgonbmcojjcabaaGreatDoor
open Lx Tr
namespace Tr

theorem nb {E : Env} {n : Nat} {t : B} (ht : (pk E n).text = t) (h : t ≠ tRb ∧ t ≠ tCase ∧ t ≠ tDefault) : (pk E n).text ≠ tRb ∧ (pk E n).text ≠ tCase ∧ (pk E n).text ≠ tDefault := by rw [ht]; exact h
theorem word_nb {t : B} (h : WordT 1 t) : t ≠ tRb ∧ t ≠ tCase ∧ t ≠ tDefault := ⟨fun e => word_bad h (by rw [e]; decide), fun e => word_bad h (by rw [e]; decide), fun e => word_bad h (by rw [e]; decide)⟩
theorem stmt_name {E : Env} {dep n : Nat} {t : B} (h : (pk E n).text = t) (hw : WordT 1 t) (f : Nat) : stmt E (f + 1) dep n = plain E f n := stmt_plain (by rw [h]; exact word_bad hw) f

theorem at_close {E : Env} {dep n : Nat} (h : (pk E n).text = tClose) (f : Nat) : stmt E (f + 1) dep n = ((bracketed E f 0 (n + 1)).bind fun x m => .ok (stz 4 (pk E n).at_ [] .nil x) m) := by rw [stmt_eq, h, if_pos rfl]
theorem at_print {E : Env} {dep n : Nat} (h : (pk E n).text = tPrint) (f : Nat) : stmt E (f + 1) dep n = ((expr E f 0 (n + 1)).bind fun x m => .ok (stz 5 (pk E n).at_ [] .nil x) m) := by rw [stmt_eq, h, if_neg (by decide), if_pos rfl]
theorem at_sleep {E : Env} {dep n : Nat} (h : (pk E n).text = tSleep) (f : Nat) : stmt E (f + 1) dep n = ((expr E f 0 (n + 1)).bind fun x m => .ok (stz 6 (pk E n).at_ [] .nil x) m) := by rw [stmt_eq, h, if_neg (by decide), if_neg (by decide), if_pos rfl]
theorem at_go {E : Env} {dep n : Nat} (h : (pk E n).text = tGo) (f : Nat) : stmt E (f + 1) dep n = ((takeKind E 1 (n + 1)).bind fun t m => (call E f 0 t m).bind fun x m2 => .ok (stz 7 (pk E n).at_ [] .nil x) m2) := by rw [stmt_eq, h, if_neg (by decide), if_neg (by decide), if_neg (by decide), if_pos rfl]
theorem at_return {E : Env} {dep n : Nat} (h : (pk E n).text = tReturn) (f : Nat) : stmt E (f + 1) dep n = (if (pk E (n + 1)).kind = 5 ∨ (pk E (n + 1)).text = tRb then .ok (stz 8 (pk E n).at_ [] .nil .nil) (n + 1) else (expr E f 0 (n + 1)).bind fun x m => .ok (stz 8 (pk E n).at_ [] .nil x) m) := by rw [stmt_eq, h, if_neg (by decide), if_neg (by decide), if_neg (by decide), if_neg (by decide), if_pos rfl]
theorem at_break {E : Env} {dep n : Nat} (h : (pk E n).text = tBreak) (f : Nat) : stmt E (f + 1) dep n = (.ok (stz 9 (pk E n).at_ [] .nil .nil) (n + 1)) := by rw [stmt_eq, h, if_neg (by decide), if_neg (by decide), if_neg (by decide), if_neg (by decide), if_neg (by decide), if_pos rfl]
theorem at_continue {E : Env} {dep n : Nat} (h : (pk E n).text = tContinue) (f : Nat) : stmt E (f + 1) dep n = (.ok (stz 10 (pk E n).at_ [] .nil .nil) (n + 1)) := by rw [stmt_eq, h, if_neg (by decide), if_neg (by decide), if_neg (by decide), if_neg (by decide), if_neg (by decide), if_neg (by decide), if_pos rfl]
theorem at_if {E : Env} {dep n : Nat} (h : (pk E n).text = tIf) (f : Nat) : stmt E (f + 1) dep n = ((expr E f 0 (n + 1)).bind fun x m => (block E f dep m).bind fun a m2 => if (pk E m2).text = tElse then (block E f dep (m2 + 1)).bind fun b m3 => .ok (.mk 12 (pk E n).at_ [] .nil x a b .nil) m3 else .ok (.mk 12 (pk E n).at_ [] .nil x a .nil .nil) m2) := by rw [stmt_eq, h, if_neg (by decide), if_neg (by decide), if_neg (by decide), if_neg (by decide), if_neg (by decide), if_neg (by decide), if_neg (by decide), if_pos rfl]
theorem at_for {E : Env} {dep n : Nat} (h : (pk E n).text = tFor) (f : Nat) : stmt E (f + 1) dep n = ((expr E f 0 (n + 1)).bind fun x m => (block E f dep m).bind fun a m2 => .ok (.mk 13 (pk E n).at_ [] .nil x a .nil .nil) m2) := by rw [stmt_eq, h, if_neg (by decide), if_neg (by decide), if_neg (by decide), if_neg (by decide), if_neg (by decide), if_neg (by decide), if_neg (by decide), if_neg (by decide), if_pos rfl]
theorem at_select {E : Env} {dep n : Nat} (h : (pk E n).text = tSelect) (f : Nat) : stmt E (f + 1) dep n = ((open_ E dep (n + 1)).bind fun _ m => (cases E f (dep + 1) .nil m).bind fun l m2 => (take E tRb m2).bind fun _ m3 => .ok (.mk 14 (pk E n).at_ [] .nil .nil .nil .nil l) m3) := by rw [stmt_eq, h, if_neg (by decide), if_neg (by decide), if_neg (by decide), if_neg (by decide), if_neg (by decide), if_neg (by decide), if_neg (by decide), if_neg (by decide), if_neg (by decide), if_pos rfl]

set_option maxHeartbeats 3200000 in
theorem st_rd {code a : Nat} {name : B} {dst val : Ex} {thn els : Sts} {cases : Cas} (hThn : StsRd thn) (hEls : StsRd els)
    (hCas : ∀ (E : Env) (dep n : Nat), cases.len ≤ 6 → GoodCs cases dep → At E n (casT cases ++ [(4, tRb)]) → ∃ cs', casE cs' = casE cases ∧ Ev (fun f => Tr.cases E f dep .nil n) (.ok cs' (n + (casT cases).length))) : StRd (.mk code a name dst val thn els cases) := fun E dep n hg ha => by
  rw [GoodS] at hg
  rcases hg with ⟨rfl | rfl, hw, rfl, hv, rfl, rfl, rfl⟩ | ⟨rfl, rfl, hd, hv, rfl, rfl, rfl⟩ | ⟨rfl, rfl, rfl, hv, rfl, rfl, rfl⟩ | ⟨rfl | rfl, rfl, rfl, hv, rfl, rfl, rfl⟩ | ⟨rfl, rfl, rfl, hv, hc, rfl, rfl, rfl⟩ | ⟨rfl, rfl, rfl, hv, rfl, rfl, rfl⟩ | ⟨rfl | rfl, rfl, rfl, rfl, rfl, rfl, rfl⟩ | ⟨rfl, rfl, rfl, hv, hc, rfl, rfl, rfl⟩ | ⟨rfl, rfl, rfl, hv, hdp, hg1, hg2, rfl⟩ | ⟨rfl, rfl, rfl, hv, hdp, hg1, rfl, rfl⟩ | ⟨rfl, rfl, rfl, rfl, rfl, rfl, hdp, h6, hg1⟩
  · have et : stT (.mk 1 a name .nil val .nil .nil .nil) = (1, name) :: ((4, tLet) :: (exT 1 val ++ nlT)) := by rw [stT]; rfl
    rw [et] at ha ⊢
    have h1 := ha.head
    have h2 := ha.tail
    obtain ⟨x', e, hev, h3⟩ := ex_rd hv h2.tail lvN
    refine ⟨nb h1.2 (word_nb hw), stz 1 (pk E n).at_ (pk E n).text .nil x', _, by rw [h1.2]; exact stE_stz rfl e, ?_, h3.head.1, h3.head.2, Ev.step (h := fun f => plain E f n) (stmt_name h1.2 hw) (Ev.step' (h := fun f => (expr E f 0 (n + 1 + 1)).bind fun x m => .ok (stz 1 (pk E n).at_ (pk E n).text .nil x) m) (fun f => ?_) (Ev.then hev (Ev.pure (fun e => by cases e) fun f => rfl)))⟩
    · simp only [List.length_cons, List.length_append, nlT, List.length_nil]; omega
    · unfold plain
      rw [if_pos ⟨h1.1, h2.head.2⟩]
  · have et : stT (.mk 2 a name .nil val .nil .nil .nil) = (1, name) :: ((4, tSet) :: (exT 1 val ++ nlT)) := by rw [stT]; rfl
    rw [et] at ha ⊢
    have h1 := ha.head
    have h2 := ha.tail
    obtain ⟨x', e, hev, h3⟩ := ex_rd hv h2.tail lvN
    refine ⟨nb h1.2 (word_nb hw), stz 2 (pk E n).at_ (pk E n).text .nil x', _, by rw [h1.2]; exact stE_stz rfl e, ?_, h3.head.1, h3.head.2, Ev.step (h := fun f => plain E f n) (stmt_name h1.2 hw) (Ev.step' (h := fun f => (expr E f 0 (n + 1 + 1)).bind fun x m => .ok (stz 2 (pk E n).at_ (pk E n).text .nil x) m) (fun f => ?_) (Ev.then hev (Ev.pure (fun e => by cases e) fun f => rfl)))⟩
    · simp only [List.length_cons, List.length_append, nlT, List.length_nil]; omega
    · unfold plain
      rw [if_neg (fun e => by rw [h2.head.2] at e; exact absurd e.2 (by decide)), if_pos ⟨h1.1, h2.head.2⟩]
  · have et : stT (.mk 3 a [] dst val .nil .nil .nil) = exT 6 dst ++ ((4, tArrow) :: (exT 1 val ++ nlT)) := by rw [stT]; rfl
    rw [et] at ha ⊢
    have hf := At.first ha hd
    have hs := one_second ha hd (by decide) (by decide)
    obtain ⟨x', e, hev, h2⟩ := one_rd hd ha (by decide)
    obtain ⟨y', e2, hev2, h3⟩ := ex_rd hv h2.tail lvN
    refine ⟨not_bad hf.1, stz 3 (pk E n).at_ [] x' y', _, stE_stz e e2, ?_, h3.head.1, h3.head.2, Ev.step (h := fun f => plain E f n) (stmt_plain hf.1) (Ev.step' (h := fun f => (one E f 0 n).bind fun x m => if (pk E m).text = tArrow then (expr E f 0 (m + 1)).bind fun y m2 => .ok (stz 3 (pk E n).at_ [] x y) m2 else if codeOf x = 7 ∨ codeOf x = 10 then .ok (stz 11 (pk E n).at_ [] .nil x) m else fail E 3 m) (fun f => ?_) (Ev.then hev (Ev.step' (h := fun f => (expr E f 0 (n + (exT 6 dst).length + 1)).bind fun y m2 => .ok (stz 3 (pk E n).at_ [] x' y) m2) (fun f => ?_) (Ev.then hev2 (Ev.pure (fun e => by cases e) fun f => rfl)))))⟩
    · simp only [List.length_cons, List.length_append, nlT, List.length_nil]; omega
    · unfold plain
      rw [if_neg hs.1, if_neg hs.2]
    · rw [if_pos h2.head.2]
  · have et : stT (.mk 4 a [] .nil val .nil .nil .nil) = (2, tClose) :: (([(4, [40])] ++ (exT 1 val ++ [(4, [41])])) ++ nlT) := by rw [stT]; rfl
    rw [et] at ha ⊢
    have h1 := ha.head
    obtain ⟨x', e, hev⟩ := br_any ((all_ok val).2 1 (by decide) (by decide)) (d := 0) hv ha.tail.left
    have h3 := ha.tail.right
    have hl : n + 1 + ([((4 : Nat), ([40] : B))] ++ (exT 1 val ++ [((4 : Nat), ([41] : B))])).length = n + 1 + 1 + (exT 1 val).length + 1 := by simp only [List.length_cons, List.length_append, List.length_nil]; omega
    rw [hl] at h3
    refine ⟨nb h1.2 (by decide), stz 4 (pk E n).at_ [] .nil x', _, stE_stz rfl e, ?_, h3.head.1, h3.head.2, Ev.step (at_close h1.2) (Ev.then hev (Ev.pure (fun e => by cases e) fun f => rfl))⟩
    simp only [List.length_cons, List.length_append, nlT, List.length_nil]; omega
  · have et : stT (.mk 5 a [] .nil val .nil .nil .nil) = (2, tPrint) :: (exT 1 val ++ nlT) := by rw [stT]; rfl
    rw [et] at ha ⊢
    have h1 := ha.head
    obtain ⟨x', e, hev, h3⟩ := ex_rd hv ha.tail lvN
    refine ⟨nb h1.2 (by decide), stz 5 (pk E n).at_ [] .nil x', _, stE_stz rfl e, ?_, h3.head.1, h3.head.2, Ev.step (at_print h1.2) (Ev.then hev (Ev.pure (fun e => by cases e) fun f => rfl))⟩
    simp only [List.length_cons, List.length_append, nlT, List.length_nil]; omega
  · have et : stT (.mk 6 a [] .nil val .nil .nil .nil) = (2, tSleep) :: (exT 1 val ++ nlT) := by rw [stT]; rfl
    rw [et] at ha ⊢
    have h1 := ha.head
    obtain ⟨x', e, hev, h3⟩ := ex_rd hv ha.tail lvN
    refine ⟨nb h1.2 (by decide), stz 6 (pk E n).at_ [] .nil x', _, stE_stz rfl e, ?_, h3.head.1, h3.head.2, Ev.step (at_sleep h1.2) (Ev.then hev (Ev.pure (fun e => by cases e) fun f => rfl))⟩
    simp only [List.length_cons, List.length_append, nlT, List.length_nil]; omega
  · have et : stT (.mk 7 a [] .nil val .nil .nil .nil) = (2, tGo) :: (exT 1 val ++ nlT) := by rw [stT]; rfl
    rw [et] at ha ⊢
    have h1 := ha.head
    obtain ⟨x', e, hk, hev, h3⟩ := call_rd hv hc ha.tail (by decide)
    refine ⟨nb h1.2 (by decide), stz 7 (pk E n).at_ [] .nil x', _, stE_stz rfl e, ?_, h3.head.1, h3.head.2, Ev.step (at_go h1.2) (Ev.step' (h := fun f => (call E f 0 (pk E (n + 1)) (n + 1 + 1)).bind fun x m2 => .ok (stz 7 (pk E n).at_ [] .nil x) m2) (fun f => ?_) (Ev.then hev (Ev.pure (fun e => by cases e) fun f => rfl)))⟩
    · simp only [List.length_cons, List.length_append, nlT, List.length_nil]; omega
    · unfold takeKind
      rw [if_pos hk]
      rfl
  · rcases hv with rfl | hv
    · have et : stT (.mk 8 a [] .nil .nil .nil .nil .nil) = (2, tReturn) :: nlT := by rw [stT]; rfl
      rw [et] at ha ⊢
      have h1 := ha.head
      have h2 := ha.tail.head
      refine ⟨nb h1.2 (by decide), stz 8 (pk E n).at_ [] .nil .nil, n + 1, stE_stz rfl rfl, rfl, h2.1, h2.2, Ev.now (fun e => by cases e) fun f => ?_⟩
      rw [at_return h1.2, if_pos (Or.inl h2.1)]
    · have et : stT (.mk 8 a [] .nil val .nil .nil .nil) = (2, tReturn) :: (exT 1 val ++ nlT) := by
        rw [stT]
        cases val with
        | nil => rw [GoodB] at hv; exact hv.elim
        | mk => rfl
      rw [et] at ha ⊢
      have h1 := ha.head
      have hf := At.first ha.tail hv
      obtain ⟨x', e, hev, h3⟩ := ex_rd hv ha.tail lvN
      refine ⟨nb h1.2 (by decide), stz 8 (pk E n).at_ [] .nil x', _, stE_stz rfl e, ?_, h3.head.1, h3.head.2, Ev.step (at_return h1.2) (Ev.step' (h := fun f => (expr E f 0 (n + 1)).bind fun x m => .ok (stz 8 (pk E n).at_ [] .nil x) m) (fun f => ?_) (Ev.then hev (Ev.pure (fun e => by cases e) fun f => rfl)))⟩
      · simp only [List.length_cons, List.length_append, nlT, List.length_nil]; omega
      · rw [if_neg]
        rintro (e | e)
        · have := hf.2; omega
        · exact (not_bad hf.1).1 e
  · have et : stT (.mk 9 a [] .nil .nil .nil .nil .nil) = (2, tBreak) :: nlT := by rw [stT]; rfl
    rw [et] at ha ⊢
    have h1 := ha.head
    have h2 := ha.tail.head
    exact ⟨nb h1.2 (by decide), stz 9 (pk E n).at_ [] .nil .nil, n + 1, stE_stz rfl rfl, rfl, h2.1, h2.2, Ev.now (fun e => by cases e) (at_break h1.2)⟩
  · have et : stT (.mk 10 a [] .nil .nil .nil .nil .nil) = (2, tContinue) :: nlT := by rw [stT]; rfl
    rw [et] at ha ⊢
    have h1 := ha.head
    have h2 := ha.tail.head
    exact ⟨nb h1.2 (by decide), stz 10 (pk E n).at_ [] .nil .nil, n + 1, stE_stz rfl rfl, rfl, h2.1, h2.2, Ev.now (fun e => by cases e) (at_continue h1.2)⟩
  · have et : stT (.mk 11 a [] .nil val .nil .nil .nil) = exT 6 val ++ ((5, [10]) :: []) := by
      have e6 : exT 1 val = exT 6 val := by
        cases val with
        | nil => rfl
        | mk c2 a2 n2 op2 nm2 l2 r2 zs2 =>
          have hc5 : ¬ c2 = 5 := fun e => by
            subst e
            rcases hc with h | h <;> cases h
          unfold exT
          rw [exWT_no (fun e => hc5 e.1), exWT_no (fun e => hc5 e.1)]
      rw [stT, e6]; rfl
    have hb : brk 6 val = 0 := by
      cases val with
      | nil => rfl
      | mk c2 a2 n2 op2 nm2 l2 r2 zs2 =>
        refine brk_no (fun e => ?_)
        have e1 : c2 = 5 := e.1
        subst e1
        rcases hc with h | h <;> cases h
    rw [et] at ha ⊢
    have hf := At.first ha hv
    have hs := one_second ha hv (by decide) (by decide)
    obtain ⟨x', e, hev, h3⟩ := one_rd (d := 0) (by unfold GoodO; rw [hb]; exact hv) ha (by decide)
    have hcx : codeOf x' = 7 ∨ codeOf x' = 10 := by rw [codeOf_of e]; exact hc
    refine ⟨not_bad hf.1, stz 11 (pk E n).at_ [] .nil x', _, stE_stz rfl e, ?_, h3.head.1, h3.head.2, Ev.step (h := fun f => plain E f n) (stmt_plain hf.1) (Ev.step' (h := fun f => (one E f 0 n).bind fun x m => if (pk E m).text = tArrow then (expr E f 0 (m + 1)).bind fun y m2 => .ok (stz 3 (pk E n).at_ [] x y) m2 else if codeOf x = 7 ∨ codeOf x = 10 then .ok (stz 11 (pk E n).at_ [] .nil x) m else fail E 3 m) (fun f => ?_) (Ev.then hev (Ev.pure (fun e => by cases e) fun f => ?_)))⟩
    · simp only [List.length_cons, List.length_append, List.length_nil]; omega
    · unfold plain
      rw [if_neg hs.1, if_neg hs.2]
    · rw [if_neg (by rw [h3.head.2]; decide), if_pos hcx]
  · by_cases h0 : els.len = 0
    · have et : stT (.mk 12 a [] .nil val thn els .nil) = (2, tIf) :: (exT 1 val ++ ((4, tLb) :: (stsT thn ++ ((4, tRb) :: nlT)))) := by rw [stT]; simp only [reduceIte, Nat.reduceEqDiff, h0]; rfl
      rw [et] at ha ⊢
      have h1 := ha.head
      obtain ⟨x', e, hev, h3⟩ := ex_rd hv ha.tail lvL
      obtain ⟨ys, e2, hev2, h4⟩ := block_rd hThn hdp hg1 h3
      have ee : els = .nil := by cases els with
        | nil => rfl
        | cons => cases h0
      subst ee
      refine ⟨nb h1.2 (by decide), .mk 12 (pk E n).at_ [] .nil x' ys .nil .nil, _, stE_mk rfl e e2 rfl rfl, ?_, h4.head.1, h4.head.2, Ev.step (at_if h1.2) (Ev.then hev (Ev.then hev2 (Ev.pure (fun e => by cases e) fun f => ?_)))⟩
      · simp only [List.length_cons, List.length_append, nlT, List.length_nil]; omega
      · rw [if_neg (by rw [h4.head.2]; decide)]
    · have et : stT (.mk 12 a [] .nil val thn els .nil) = (2, tIf) :: (exT 1 val ++ ((4, tLb) :: (stsT thn ++ ((4, tRb) :: ((2, tElse) :: ((4, tLb) :: (stsT els ++ ((4, tRb) :: nlT)))))))) := by
        rw [stT]
        simp only [reduceIte, Nat.reduceEqDiff, h0]
        simp
      rw [et] at ha ⊢
      have h1 := ha.head
      obtain ⟨x', e, hev, h3⟩ := ex_rd hv ha.tail lvL
      obtain ⟨ys, e2, hev2, h4⟩ := block_rd hThn hdp hg1 h3
      obtain ⟨zs, e3, hev3, h5⟩ := block_rd hEls hdp hg2 h4.tail
      refine ⟨nb h1.2 (by decide), .mk 12 (pk E n).at_ [] .nil x' ys zs .nil, _, stE_mk rfl e e2 e3 rfl, ?_, h5.head.1, h5.head.2, Ev.step (at_if h1.2) (Ev.then hev (Ev.then hev2 (Ev.step' (h := fun f => (block E f dep (n + 1 + (exT 1 val).length + 1 + (stsT thn).length + 1 + 1)).bind fun b m3 => .ok (.mk 12 (pk E n).at_ [] .nil x' ys b .nil) m3) (fun f => ?_) (Ev.then hev3 (Ev.pure (fun e => by cases e) fun f => rfl)))))⟩
      · simp only [List.length_cons, List.length_append, nlT, List.length_nil]; omega
      · rw [if_pos h4.head.2]
  · have et : stT (.mk 13 a [] .nil val thn .nil .nil) = (2, tFor) :: (exT 1 val ++ ((4, tLb) :: (stsT thn ++ ((4, tRb) :: nlT)))) := by rw [stT]; rfl
    rw [et] at ha ⊢
    have h1 := ha.head
    obtain ⟨x', e, hev, h3⟩ := ex_rd hv ha.tail lvL
    obtain ⟨ys, e2, hev2, h4⟩ := block_rd hThn hdp hg1 h3
    refine ⟨nb h1.2 (by decide), .mk 13 (pk E n).at_ [] .nil x' ys .nil .nil, _, stE_mk rfl e e2 rfl rfl, ?_, h4.head.1, h4.head.2, Ev.step (at_for h1.2) (Ev.then hev (Ev.then hev2 (Ev.pure (fun e => by cases e) fun f => rfl)))⟩
    simp only [List.length_cons, List.length_append, nlT, List.length_nil]; omega
  · have et : stT (.mk 14 a [] .nil .nil .nil .nil cases) = (2, tSelect) :: ((4, tLb) :: (casT cases ++ ((4, tRb) :: nlT))) := by rw [stT]; rfl
    rw [et] at ha ⊢
    have h1 := ha.head
    have h2 := ha.tail.head
    have h3 := ha.tail.tail
    have h4 := h3.right
    obtain ⟨cs', e, hev⟩ := hCas E (dep + 1) (n + 1 + 1) h6 hg1 (At.left (k2 := nlT) (by rw [List.append_assoc]; exact h3))
    refine ⟨nb h1.2 (by decide), .mk 14 (pk E n).at_ [] .nil .nil .nil .nil cs', _, stE_mk rfl rfl rfl rfl e, ?_, h4.tail.head.1, h4.tail.head.2, Ev.step (at_select h1.2) (Ev.step' (h := fun f => (Tr.cases E f (dep + 1) .nil (n + 1 + 1)).bind fun l m2 => (take E tRb m2).bind fun _ m3 => .ok (.mk 14 (pk E n).at_ [] .nil .nil .nil .nil l) m3) (fun f => ?_) (Ev.then hev (Ev.pure (fun e => by cases e) fun f => ?_)))⟩
    · simp only [List.length_cons, List.length_append, nlT, List.length_nil]; omega
    · unfold open_
      rw [if_neg (fun e => by have := e.2; omega), take_ev h2.2]
      rfl
    · rw [take_ev h4.head.2]
      rfl
end Tr
end Go.Proofs.YtgonbmcojjcabaaGreatDoor

namespace Go.Proofs.YtgonbmcojjcabaaGreatDoor
open Lx Tr
namespace Tr

/-- A case's first token. -/
theorem ca_first {c : Ca} {dep : Nat} (hg : GoodC c dep) : ∃ q ks, caT c = q :: ks ∧ (q.2 = tCase ∨ q.2 = tDefault) := by
  obtain ⟨code, a, name, dst, val, body⟩ := c
  rw [GoodC] at hg
  rw [caT]
  rcases hg.1 with ⟨rfl, _⟩ | ⟨rfl, rfl, _⟩ | ⟨rfl, hw, _⟩ | ⟨rfl, _⟩
  · exact ⟨(2, tCase), _, rfl, Or.inl rfl⟩
  · exact ⟨(2, tCase), _, rfl, Or.inl rfl⟩
  · refine ⟨(2, tCase), ([(1, name)] ++ ([(4, tLet)] ++ ([(4, tArrow)] ++ exT 6 dst))) ++ ([(4, tColon)] ++ stsT body), ?_, Or.inl rfl⟩
    unfold talkT
    rw [if_neg (by decide), if_pos rfl, if_neg hw.ne]
    rfl
  · exact ⟨(2, tDefault), _, rfl, Or.inr rfl⟩
def endsCa (t : B) : Prop := t = tRb ∨ t = tCase ∨ t = tDefault
def CaRd (c : Ca) : Prop := ∀ (E : Env) (dep n : Nat), GoodC c dep → At E n (caT c) → endsCa (pk E (n + (caT c).length)).text → ∃ c', caE c' = caE c ∧ Ev (fun f => oneCase E f dep n) (.ok c' (n + (caT c).length))
theorem ca_end {E : Env} {dep n : Nat} {t : Nat × B × Ex × Ex} {code a : Nat} {name : B} {dst val : Ex} {body : Sts} (hb : StsRd body) (hg : GoodSs body dep) (hc : (pk E n).text = tCase) {m : Nat} (ht : Ev (fun f => talk E f (n + 1)) (.ok t m)) (h1 : t.1 = code) (h2 : t.2.1 = name) (h3 : exE t.2.2.1 = exE dst) (h4 : exE t.2.2.2 = exE val) (ha : At E m ((4, tColon) :: stsT body)) (he : endsCa (pk E (m + 1 + (stsT body).length)).text) :
    ∃ c', caE c' = caE (.mk code a name dst val body) ∧ Ev (fun f => oneCase E f dep n) (.ok c' (m + 1 + (stsT body).length)) := by
  obtain ⟨ys, e, hev⟩ := sts_closed hb (cs := true) hg ha.tail (by
    rcases he with h | h | h
    · exact Or.inl h
    · exact Or.inr ⟨rfl, Or.inl h⟩
    · exact Or.inr ⟨rfl, Or.inr h⟩)
  subst h1 h2
  refine ⟨.mk t.1 (pk E n).at_ t.2.1 t.2.2.1 t.2.2.2 ys, caE_mk h3 h4 e, Ev.step (h := fun f => (talk E f (n + 1)).bind fun h m2 => (take E tColon m2).bind fun _ m3 => (stmts E f dep true .nil m3).bind fun l m4 => .ok (.mk h.1 (pk E n).at_ h.2.1 h.2.2.1 h.2.2.2 l) m4) (fun f => ?_) (Ev.then ht (Ev.step' (h := fun f => (stmts E f dep true .nil (m + 1)).bind fun l m4 => .ok (.mk t.1 (pk E n).at_ t.2.1 t.2.2.1 t.2.2.2 l) m4) (fun f => ?_) (Ev.then hev (Ev.pure (fun e => by cases e) fun f => rfl))))⟩
  · rw [oneCase_eq, if_neg (by rw [hc]; decide), take_ev hc]
    rfl
  · rw [take_ev ha.head.2]
    rfl
theorem ca_rd {code a : Nat} {name : B} {dst val : Ex} {body : Sts} (hb : StsRd body) : CaRd (.mk code a name dst val body) := fun E dep n hg ha he => by
  rw [GoodC] at hg
  obtain ⟨hg, hgb⟩ := hg
  rcases hg with ⟨rfl, rfl, hd, hv⟩ | ⟨rfl, rfl, hd, rfl⟩ | ⟨rfl, hw, hd, rfl⟩ | ⟨rfl, rfl, rfl, rfl⟩
  · have et : caT (.mk 3 a [] dst val body) = (2, tCase) :: (exT 6 dst ++ ((4, tArrow) :: (exT 1 val ++ ((4, tColon) :: stsT body)))) := by rw [caT]; unfold talkT; rw [if_pos rfl]; simp
    rw [et] at ha he ⊢
    have hl : n + ((2, tCase) :: (exT 6 dst ++ ((4, tArrow) :: (exT 1 val ++ ((4, tColon) :: stsT body))))).length = n + 1 + (exT 6 dst).length + 1 + (exT 1 val).length + 1 + (stsT body).length := by simp only [List.length_cons, List.length_append]; omega
    rw [hl] at he ⊢
    have h1 := ha.tail
    have hs := one_second h1 hd (by decide) (by decide)
    obtain ⟨x', e, hev, h2⟩ := one_rd hd h1 (by decide)
    obtain ⟨y', e2, hev2, h3⟩ := ex_rd hv h2.tail lvC
    refine ca_end (t := (3, [], x', y')) hb hgb ha.head.2 (Ev.step' (h := fun f => (one E f 0 (n + 1)).bind fun x m => if (pk E m).text = tArrow then (expr E f 0 (m + 1)).bind fun y m2 => .ok (3, [], x, y) m2 else if codeOf x = 10 then .ok (10, [], leftOf x, .nil) m else fail E 3 m) (fun f => ?_) (Ev.then hev (Ev.step' (h := fun f => (expr E f 0 (n + 1 + (exT 6 dst).length + 1)).bind fun y m2 => .ok (3, [], x', y) m2) (fun f => ?_) (Ev.then hev2 (Ev.pure (fun e => by cases e) fun f => rfl))))) rfl rfl e e2 h3 he
    · unfold talk
      rw [if_neg hs.1]
    · rw [if_pos h2.head.2]
  · have et : caT (.mk 10 a [] dst .nil body) = (2, tCase) :: ((4, tArrow) :: (exT 6 dst ++ ((4, tColon) :: stsT body))) := by rw [caT]; unfold talkT; rw [if_neg (by decide), if_pos rfl, if_pos rfl]; simp
    rw [et] at ha he ⊢
    have hl : n + ((2, tCase) :: ((4, tArrow) :: (exT 6 dst ++ ((4, tColon) :: stsT body)))).length = n + 1 + 1 + (exT 6 dst).length + 1 + (stsT body).length := by simp only [List.length_cons, List.length_append]; omega
    rw [hl] at he ⊢
    have h1 := ha.tail
    obtain ⟨x', e, hev, h2⟩ := one_rd hd h1.tail (by decide)
    refine ca_end (t := (10, [], x', .nil)) hb hgb ha.head.2 (Ev.step' (h := fun f => (one E f 0 (n + 1)).bind fun x m => if (pk E m).text = tArrow then (expr E f 0 (m + 1)).bind fun y m2 => .ok (3, [], x, y) m2 else if codeOf x = 10 then .ok (10, [], leftOf x, .nil) m else fail E 3 m) (fun f => ?_) (Ev.then (x := .mk 10 (pk E (n + 1)).at_ 0 0 [] x' .nil .nil) (n := n + 1 + 1 + (exT 6 dst).length) (Ev.step (h := fun f => (one E f 1 (n + 1 + 1)).bind fun x m => .ok (.mk 10 (pk E (n + 1)).at_ 0 0 [] x .nil .nil) m) (fun f => ?_) (Ev.then hev (Ev.pure (fun e => by cases e) fun f => rfl))) (Ev.pure (fun e => by cases e) fun f => ?_))) rfl rfl e rfl h2 he
    · unfold talk
      rw [if_neg (fun e => by rw [h1.head.1] at e; exact absurd e.1 (by decide))]
    · rw [Tr.one, if_neg (by decide), h1.head.1, h1.head.2, if_neg (by decide), if_neg (by decide), if_neg (by decide), if_neg (by decide), if_pos rfl]
    · rw [if_neg (by rw [h2.head.2]; decide), if_pos (show codeOf (.mk 10 (pk E (n + 1)).at_ 0 0 [] x' .nil .nil) = 10 from rfl)]
      rfl
  · have et : caT (.mk 10 a name dst .nil body) = (2, tCase) :: ((1, name) :: ((4, tLet) :: ((4, tArrow) :: (exT 6 dst ++ ((4, tColon) :: stsT body))))) := by rw [caT]; unfold talkT; rw [if_neg (by decide), if_pos rfl, if_neg hw.ne]; simp
    rw [et] at ha he ⊢
    have hl : n + ((2, tCase) :: ((1, name) :: ((4, tLet) :: ((4, tArrow) :: (exT 6 dst ++ ((4, tColon) :: stsT body)))))).length = n + 1 + 1 + 1 + 1 + (exT 6 dst).length + 1 + (stsT body).length := by simp only [List.length_cons, List.length_append]; omega
    rw [hl] at he ⊢
    have h1 := ha.tail
    have h2 := h1.tail
    have h3 := h2.tail
    obtain ⟨x', e, hev, h4⟩ := one_rd hd h3.tail (by decide)
    refine ca_end (t := (10, (pk E (n + 1)).text, x', .nil)) hb hgb ha.head.2 (Ev.step' (h := fun f => (one E f 0 (n + 1 + 1 + 1 + 1)).bind fun x m2 => .ok (10, (pk E (n + 1)).text, x, .nil) m2) (fun f => ?_) (Ev.then hev (Ev.pure (fun e => by cases e) fun f => rfl))) rfl h1.head.2 e rfl h4 he
    unfold talk
    rw [if_pos ⟨h1.head.1, h2.head.2⟩, take_ev (show (pk E (n + 1 + 2)).text = tArrow from h3.head.2)]
    rfl
  · have et : caT (.mk 40 a [] .nil .nil body) = (2, tDefault) :: ((4, tColon) :: stsT body) := by rw [caT]; rfl
    rw [et] at ha he ⊢
    have hl : n + ((2, tDefault) :: ((4, tColon) :: stsT body)).length = n + 1 + 1 + (stsT body).length := by simp only [List.length_cons]; omega
    rw [hl] at he ⊢
    obtain ⟨ys, e, hev⟩ := sts_closed hb (cs := true) hgb ha.tail.tail (by
      rcases he with h | h | h
      · exact Or.inl h
      · exact Or.inr ⟨rfl, Or.inl h⟩
      · exact Or.inr ⟨rfl, Or.inr h⟩)
    refine ⟨.mk 40 (pk E n).at_ [] .nil .nil ys, caE_mk rfl rfl e, Ev.step (h := fun f => (stmts E f dep true .nil (n + 1 + 1)).bind fun l m2 => .ok (.mk 40 (pk E n).at_ [] .nil .nil l) m2) (fun f => ?_) (Ev.then hev (Ev.pure (fun e => by cases e) fun f => rfl))⟩
    rw [oneCase_eq, if_pos ha.head.2, take_ev ha.tail.head.2]
    rfl
def appC : Cas → Cas → Cas
  | acc, .nil => acc
  | acc, .cons x xs => appC (acc.snoc x) xs
theorem appC_cons (a : Ca) : ∀ (zs acc : Cas), appC (.cons a acc) zs = .cons a (appC acc zs)
  | .nil, _ => rfl
  | .cons x xs, acc => appC_cons a xs (acc.snoc x)
theorem appC_nil : ∀ zs : Cas, appC .nil zs = zs
  | .nil => rfl
  | .cons x xs => by
    show appC (.cons x .nil) xs = _
    rw [appC_cons, appC_nil xs]
theorem Cas.len_snocT : ∀ (xs : Cas) (y : Ca), (xs.snoc y).len = xs.len + 1
  | .nil, _ => rfl
  | .cons _ xs, y => congrArg (· + 1) (Cas.len_snocT xs y)
def CasRd (xs : Cas) : Prop := ∀ (E : Env) (dep n : Nat) (acc acc' : Cas), casE acc' = casE acc → acc.len + xs.len ≤ 6 → GoodCs xs dep → At E n (casT xs ++ [(4, tRb)]) → ∃ ys, casE ys = casE (appC acc xs) ∧ Ev (fun f => Tr.cases E f dep acc' n) (.ok ys (n + (casT xs).length))
theorem cas_head {E : Env} {n dep : Nat} {xs : Cas} (hg : GoodCs xs dep) (ha : At E n (casT xs ++ [(4, tRb)])) : endsCa (pk E n).text := by
  cases xs with
  | nil => rw [casT] at ha; exact Or.inl (At.head (ks := []) ha).2
  | cons x xs =>
    rw [GoodCs] at hg
    rw [casT] at ha
    obtain ⟨q, ks, e, hq⟩ := ca_first hg.1
    rw [e] at ha
    have := (At.head (ks := ks ++ casT xs ++ [(4, tRb)]) ha).2
    rw [this]
    exact Or.inr hq
theorem cas_nil : CasRd .nil := fun E dep n acc acc' he _ _ ha => by
  rw [casT] at ha ⊢
  exact ⟨acc', he, Ev.now (fun e => by cases e) fun f => by rw [cases_eq, if_pos (At.head (ks := []) ha).2]; rfl⟩
theorem cas_cons {x : Ca} {xs : Cas} (hx : CaRd x) (hxs : CasRd xs) : CasRd (.cons x xs) := fun E dep n acc acc' he hl hg ha => by
  rw [GoodCs] at hg
  rw [casT, List.append_assoc] at ha
  rw [casT, List.length_append]
  have h2 := ha.right
  obtain ⟨c', e, hev⟩ := hx E dep n hg.1 ha.left (cas_head hg.2 h2)
  have hlen : acc.len + (xs.len + 1) ≤ 6 := hl
  obtain ⟨ys, e2, hev2⟩ := hxs E dep (n + (caT x).length) (acc.snoc x) (acc'.snoc c') (by rw [casE_snoc, casE_snoc, he, e]) (by rw [Cas.len_snocT]; omega) hg.2 h2
  refine ⟨ys, e2, ?_⟩
  rw [← Nat.add_assoc]
  have hla : acc'.len = acc.len := by rw [← casE_len acc', he, casE_len]
  refine Ev.step (h := fun f => (oneCase E f dep n).bind fun c m => Tr.cases E f dep (acc'.snoc c) m) (fun f => ?_) (Ev.then hev hev2)
  obtain ⟨q, ks, e3, hq⟩ := ca_first hg.1
  have ht : (pk E n).text = q.2 := by
    have h3 := ha.left
    rw [e3] at h3
    exact (At.head (ks := ks) h3).2
  rw [cases_eq, if_neg (by rw [ht]; rcases hq with h | h <;> rw [h] <;> decide), if_neg (by omega)]

mutual
theorem st_all' : ∀ s : St, StRd s
  | .mk _ _ _ _ _ thn els cases => st_rd (sts_all' thn) (sts_all' els) (fun E dep n h6 hg ha => by
      obtain ⟨ys, e, hev⟩ := cas_all' cases E dep n .nil .nil rfl (by show 0 + cases.len ≤ 6; omega) hg ha
      rw [appC_nil] at e
      exact ⟨ys, e, hev⟩)
theorem sts_all' : ∀ xs : Sts, StsRd xs
  | .nil => sts_nil
  | .cons x xs => sts_cons (st_all' x) (sts_all' xs)
theorem ca_all' : ∀ c : Ca, CaRd c
  | .mk _ _ _ _ _ body => ca_rd (sts_all' body)
theorem cas_all' : ∀ xs : Cas, CasRd xs
  | .nil => cas_nil
  | .cons x xs => cas_cons (ca_all' x) (cas_all' xs)
end
end Tr
end Go.Proofs.YtgonbmcojjcabaaGreatDoor
