/-
  The walk of the queue's Swap.
-/
import Derived.Test.YtonpbbflloljgaaClockQ
import Derived.RegionTactic
import Derived.ChangeAlike
import Derived.BigRegion
import Derived.WalkArith
namespace Go.Proofs.Ytonpbbflloljgaa
open Go.RowKit Go.Maps

theorem flatE_set (l : List Hp.E) (i : Nat) (h : i < l.length) (e : Hp.E) : ((flatE l).set (i * 2) (.int .i64 e.1)).set (i * 2 + 1) (.int .i64 e.2) = flatE (l.set i e) := by
  have e2 : (flatE (l.take i)).length = i * 2 := by rw [flatE_length, List.length_take]; omega
  have e1 : flatE l = flatE (l.take i) ++ (vE l[i] ++ flatE (l.drop (i + 1))) := by
    conv => lhs; rw [← List.take_append_drop i l]
    rw [flatE_append, List.drop_eq_getElem_cons h]; rfl
  have e3 : l.set i e = l.take i ++ e :: l.drop (i + 1) := by rw [List.set_eq_take_append_cons_drop, if_pos h]
  rw [e3, flatE_append, e1, List.set_append_right _ _ (by omega), List.set_append_right _ _ (by omega), e2, Nat.sub_self, Nat.add_sub_cancel_left]
  rfl
theorem flatE_sw (l : List Hp.E) (i j : Nat) (hi : i < l.length) (hj : j < l.length) :
    ((((flatE l).set (i * 2) (.int .i64 (Hp.g l j).1)).set (i * 2 + 1) (.int .i64 (Hp.g l j).2)).set (j * 2) (.int .i64 (Hp.g l i).1)).set (j * 2 + 1) (.int .i64 (Hp.g l i).2) = flatE (Hp.sw l i j) := by
  rw [flatE_set l i hi, flatE_set _ j (by simpa using hj)]; rfl

/-- Where each id lies: its place, by D. -/
structure Pl (l : List Hp.E) (D : DataW Unit) : Prop where
  has : ∀ id : Int, Maps.has D (.int .i64 id) = true ↔ ∃ i, i < l.length ∧ (Hp.g l i).2 = id
  place : ∀ i, i < l.length → D.atKey (.int .i64 (Hp.g l i).2) (.lit (.int .i64 0)) = .lit (.int .i64 (i : Int))
  wf : ∀ i, i < l.length → (Lit.int .i64 (Hp.g l i).2).wf = true
  len : l.length ≤ 1000
  size : Maps.size D = l.length
theorem Pl.inj {l : List Hp.E} {D : DataW Unit} (h : Pl l D) {i j : Nat} (hi : i < l.length) (hj : j < l.length) (e : (Hp.g l i).2 = (Hp.g l j).2) : i = j := by
  have h1 := h.place i hi
  rw [e, h.place j hj] at h1
  injection h1 with h1
  injection h1 with _ h1
  omega
theorem lit_ne {a b : Int} (h : a ≠ b) : (Lit.int .i64 a) ≠ (Lit.int .i64 b) := fun e => h (by injection e)
theorem isKey (a : Int) : WideAt.IsKeyLit (Lit.int .i64 a) := trivial
theorem Pl.tidy2 {D : DataW Unit} (hD : Tidy D) (a b : Int) (x y : DataW Unit) : Tidy ((D.put (.int .i64 a) x).put (.int .i64 b) y) := (hD.put (isKey a) x).put (isKey b) y
theorem has_put {D : DataW Unit} (hD : Tidy D) (a id : Int) (x : DataW Unit) : Maps.has (D.put (.int .i64 a) x) (.int .i64 id) = true ↔ id = a ∨ Maps.has D (.int .i64 id) = true := by
  by_cases e : id = a
  · subst e
    rw [has_put_same hD.isMap (isKey id)]
    simp
  · rw [has_put_other (lit_ne e)]
    simp [e]
theorem at_put {D : DataW Unit} (hD : Tidy D) (a id : Int) (x z : DataW Unit) : (D.put (.int .i64 a) x).atKey (.int .i64 id) z = if id = a then x else D.atKey (.int .i64 id) z := by
  by_cases e : id = a
  · subst e
    rw [atKey_put_same hD.isMap (isKey id), if_pos rfl]
  · rw [atKey_put_other (lit_ne e), if_neg e]
theorem Pl.swap {l : List Hp.E} {D : DataW Unit} (h : Pl l D) (hD : Tidy D) {i j : Nat} (hi : i < l.length) (hj : j < l.length) :
    Pl (Hp.sw l i j) ((D.put (.int .i64 (Hp.g l j).2) (.lit (.int .i64 (i : Int)))).put (.int .i64 (Hp.g l i).2) (.lit (.int .i64 (j : Int)))) := by
  have hs : ∀ k, Hp.g (Hp.sw l i j) k = if k = j then Hp.g l i else if k = i then Hp.g l j else Hp.g l k := fun k => Hp.g_sw hi hj k
  have hl := Hp.sw_length l i j
  have hD1 := hD.put (isKey (Hp.g l j).2) (.lit (.int .i64 (i : Int)))
  have hasj : Maps.has D (.int .i64 (Hp.g l j).2) = true := (h.has _).2 ⟨j, hj, rfl⟩
  have hasi : Maps.has D (.int .i64 (Hp.g l i).2) = true := (h.has _).2 ⟨i, hi, rfl⟩
  refine ⟨fun id => ?_, fun k hk => ?_, fun k hk => ?_, by rw [hl]; exact h.len, ?_⟩
  · rw [has_put hD1, has_put hD, h.has]
    constructor
    · rintro (rfl | rfl | ⟨k, hk, rfl⟩)
      · exact ⟨j, by rw [hl]; exact hj, by rw [hs, if_pos rfl]⟩
      · by_cases e : i = j
        · subst e; exact ⟨i, by rw [hl]; exact hi, by rw [hs, if_pos rfl]⟩
        · exact ⟨i, by rw [hl]; exact hi, by rw [hs, if_neg e, if_pos rfl]⟩
      · by_cases e1 : k = j
        · subst e1
          by_cases e : i = k
          · subst e; exact ⟨i, by rw [hl]; exact hi, by rw [hs, if_pos rfl]⟩
          · exact ⟨i, by rw [hl]; exact hi, by rw [hs, if_neg e, if_pos rfl]⟩
        · by_cases e2 : k = i
          · subst e2; exact ⟨j, by rw [hl]; exact hj, by rw [hs, if_pos rfl]⟩
          · exact ⟨k, by rw [hl]; exact hk, by rw [hs, if_neg e1, if_neg e2]⟩
    · rintro ⟨k, hk, rfl⟩
      rw [hl] at hk
      rw [hs]
      split
      · exact Or.inl rfl
      · split
        · exact Or.inr (Or.inl rfl)
        · exact Or.inr (Or.inr ⟨k, hk, rfl⟩)
  · rw [hl] at hk
    rw [at_put hD1, at_put hD, hs]
    by_cases e1 : k = j
    · rw [if_pos e1, if_pos rfl, e1]
    · rw [if_neg e1]
      by_cases e2 : k = i
      · rw [if_pos e2, if_neg (fun e => e1 (e2.trans (h.inj hj hi e).symm)), if_pos rfl, e2]
      · rw [if_neg e2, if_neg (fun e => e2 (h.inj hk hi e)), if_neg (fun e => e1 (h.inj hk hj e))]
        exact h.place k hk
  · rw [hl] at hk
    rw [hs]
    split
    · exact h.wf i hi
    · split
      · exact h.wf j hj
      · exact h.wf k hk
  · rw [size_put hD1, size_put hD, if_pos hasj, if_pos ((has_put hD _ _ _).2 (Or.inr hasi)), h.size, hl]
theorem ownsMap_fit {w : World} {R : Value → Option (DataW Unit × List MemPlace)} {b n : Nat} {D : DataW Unit} (h : w.ownsMap Try.prog 3 R b n D) (hs : Maps.size D ≤ 1000000) : w.ownsMap Try.prog 3 R b 1000000 D := by
  obtain ⟨es, ck, h1, h2, h3, h4⟩ := h
  refine ⟨es, ck, h1, h2, ?_, h4⟩
  rw [h4, Maps.size_eq, length_sorted, List.length_map] at hs
  simpa using hs
theorem keyedI : Keyed Try.prog 3 := int_keyed Try.underlying3
theorem zero_int (w : World) : (zeroValue 3).run Try.prog w = .ok (.int .i64 0) w := by kernel_rfl

/-- The row behind the exchange. -/
theorem swapped {w : World} {eb n cap : Nat} {xs : List Value} (h : w.ownsRow 0 51 2 (.slice (some ⟨eb, 0, none⟩) n cap) n xs) (p q : Nat) (a b c d : Value) :
    ((((w.setCell ⟨eb, p, none⟩ a).setCell ⟨eb, p + 1, none⟩ b).setCell ⟨eb, q, none⟩ c).setCell ⟨eb, q + 1, none⟩ d).ownsRow 0 51 2 (.slice (some ⟨eb, 0, none⟩) n cap) n ((((xs.set p a).set (p + 1) b).set q c).set (q + 1) d) :=
  (World.ownsRow.stored (World.ownsRow.stored (World.ownsRow.stored (World.ownsRow.stored h p a).1 (p + 1) b).1 q c).1 (q + 1) d).1

theorem keeps_own {S : Nat → Prop} {w : World} (p : Addr) (u : Value) (h : S p.block) : Keeps S w (w.setCell p u) := (Keeps.refl S w).setCell (Or.inl h) u
theorem QAt.rowed {w w' : World} {cb mb eb n cap : Nat} {l l' : List Hp.E} {D : DataW Unit} (h : QAt w cb (.slice (some ⟨eb, 0, none⟩) n cap) mb l D) (hk : Keeps (fun b => b = eb) w w')
    (hr : w'.ownsRow 0 51 2 (.slice (some ⟨eb, 0, none⟩) n cap) l'.length (flatE l')) : QAt w' cb (.slice (some ⟨eb, 0, none⟩) n cap) mb l' D := by
  have hne : cb ≠ eb := fun e => h.ne (by rw [e]; rfl)
  have hnm : mb ≠ eb := fun e => h.nev (by rw [e]; rfl)
  exact ⟨hk.cell_of h.c0 hne, hk.cell_of h.c1 hne, hk.cell_of h.c2 hne, by rw [hk.frozen h.lt hne]; exact h.z0, hr, hk.map h.map hnm, h.ne⟩
theorem QAt.drew {w : World} {cb mb : Nat} {v : Value} {l : List Hp.E} {D : DataW Unit} (h : QAt w cb v mb l D) : QAt w.drew cb v mb l D := ⟨h.c0, h.c1, h.c2, h.z0, h.own, h.map, h.ne⟩
theorem keeps4 {w : World} {eb : Nat} (p q r t : Nat) (a b c d : Value) : Keeps (fun b => b = eb) w ((((w.setCell ⟨eb, p, none⟩ a).setCell ⟨eb, q, none⟩ b).setCell ⟨eb, r, none⟩ c).setCell ⟨eb, t, none⟩ d) :=
  ((((Keeps.refl (fun b : Nat => b = eb) w).setCell (S := fun b : Nat => b = eb) (p := ⟨eb, p, none⟩) (Or.inl rfl) a).setCell (p := ⟨eb, q, none⟩) (Or.inl rfl) b).setCell (p := ⟨eb, r, none⟩) (Or.inl rfl) c).setCell (p := ⟨eb, t, none⟩) (Or.inl rfl) d
theorem QAt.swapped {w : World} {cb mb eb cap : Nat} {l : List Hp.E} {D : DataW Unit} (h : QAt w cb (.slice (some ⟨eb, 0, none⟩) l.length cap) mb l D) {i j : Nat} (hi : i < l.length) (hj : j < l.length) {a b : Hp.E} (ha : Hp.g l i = a) (hb : Hp.g l j = b) :
    QAt ((((w.setCell ⟨eb, i * 2, none⟩ (.int .i64 b.1)).setCell ⟨eb, i * 2 + 1, none⟩ (.int .i64 b.2)).setCell ⟨eb, j * 2, none⟩ (.int .i64 a.1)).setCell ⟨eb, j * 2 + 1, none⟩ (.int .i64 a.2)).drew cb (.slice (some ⟨eb, 0, none⟩) l.length cap) mb (Hp.sw l i j) D ∧ Keeps (fun b => b = eb) w ((((w.setCell ⟨eb, i * 2, none⟩ (.int .i64 b.1)).setCell ⟨eb, i * 2 + 1, none⟩ (.int .i64 b.2)).setCell ⟨eb, j * 2, none⟩ (.int .i64 a.1)).setCell ⟨eb, j * 2 + 1, none⟩ (.int .i64 a.2)).drew := by
  have hr := Go.Proofs.Ytonpbbflloljgaa.swapped h.own (i * 2) (j * 2) (.int .i64 b.1) (.int .i64 b.2) (.int .i64 a.1) (.int .i64 a.2)
  rw [← ha, ← hb, flatE_sw l i j hi hj, ha, hb, ← Hp.sw_length l i j] at hr
  rw [Hp.sw_length] at hr
  have hk := keeps4 (w := w) (eb := eb) (i * 2) (i * 2 + 1) (j * 2) (j * 2 + 1) (.int .i64 b.1) (.int .i64 b.2) (.int .i64 a.1) (.int .i64 a.2)
  generalize ((((w.setCell ⟨eb, i * 2, none⟩ (.int .i64 b.1)).setCell ⟨eb, i * 2 + 1, none⟩ (.int .i64 b.2)).setCell ⟨eb, j * 2, none⟩ (.int .i64 a.1)).setCell ⟨eb, j * 2 + 1, none⟩ (.int .i64 a.2)) = W at *
  exact ⟨(h.rowed hk (by rw [Hp.sw_length]; exact hr)).drew, hk.drew⟩
theorem QAt.putMap {w w' : World} {cb mb : Nat} {v : Value} {l : List Hp.E} {D D' : DataW Unit} (h : QAt w cb v mb l D) (hm : w'.ownsMap Try.prog 3 (plainElem Try.prog 3) mb 1000000 D') (hg : w.grownBy w' (some mb)) : QAt w' cb v mb l D' := by
  have hk : Keeps (fun b => b = mb) w w' := Keeps.of_grownBy hg fun k _ e => by cases e; rfl
  exact ⟨hk.cell_of h.c0 (fun e => h.nem e.symm), hk.cell_of h.c1 (fun e => h.nem e.symm), hk.cell_of h.c2 (fun e => h.nem e.symm), by rw [hk.frozen h.lt (fun e => h.nem e.symm)]; exact h.z0,
    hk.row h.own (fun b e e2 => h.nev (by rw [e, e2])), hm, h.ne⟩
theorem undrewG {w w' : World} {r : Option Nat} (h : w.drew.grownBy w' r) : w.grownBy w' r := ⟨h.os, h.tape, h.output, h.size, h.block⟩
theorem keeps_undrew {S : Nat → Prop} {w w' : World} (h : Keeps S w.drew w') : Keeps S w w' := ⟨h.os, h.tape, h.output, h.size, h.block⟩

set_option maxRecDepth 100000 in
set_option maxHeartbeats 3200000 in
theorem swap_any {cb mb : Nat} {v : Value} {l : List Hp.E} {D : DataW Unit} (w : World) (h : QAt w cb v mb l D) (hp : Pl l D) (i j : Nat) (hi : i < l.length) (hj : j < l.length) (hne : i ≠ j) :
    Calls Try.prog 63 #[.pointer (some ⟨cb, 1, none⟩), .int .i64 i, .int .i64 j] w fun e w' => e = .returned (.tuple #[]) ∧ ∃ D', QAt w' cb v mb (Hp.sw l i j) D' ∧ Pl (Hp.sw l i j) D' ∧ KQ cb mb v w w' := by
  have HH := Lib.hid h
  have HP := Lib.hid hp
  obtain ⟨ao, cap, rfl, hao⟩ := h.slice
  obtain ⟨eb, rfl⟩ := hao (by omega)
  have c0 := h.c0
  have c1 := h.c1
  obtain ⟨p1, p2⟩ := h.cells i hi
  obtain ⟨q1, q2⟩ := h.cells j hj
  have f1 := h.free (i * 2)
  have f2 := h.free (i * 2 + 1)
  have f3 := h.free (j * 2)
  have f4 := h.free (j * 2 + 1)
  have hii : (0 : Int) ≤ (i : Int) ∧ (i : Int) < (l.length : Int) := by omega
  have hjj : (0 : Int) ≤ (j : Int) ∧ (j : Int) < (l.length : Int) := by omega
  have ne1 : i * 2 ≠ j * 2 := by omega
  have ne2 : i * 2 ≠ j * 2 + 1 := by omega
  have ne3 : i * 2 + 1 ≠ j * 2 := by omega
  have hcbe : cb ≠ eb := fun e => h.ne (by rw [e]; rfl)
  clear h hp hao
  generalize hae : Hp.g l i = a at *
  generalize hbe : Hp.g l j = b at *
  have HA := Lib.hid hae
  have HBE := Lib.hid hbe
  clear hae hbe
  obtain ⟨a1, a2⟩ := a
  obtain ⟨b1, b2⟩ := b
  go_enter Try.func63, Try.ntmps63
  go_wp2_with fail
  go_region
  obtain ⟨HQ1, HK1⟩ := HH.out.swapped hi hj HA.out HBE.out
  generalize ((((w.setCell ⟨eb, i * 2, none⟩ (.int .i64 b1)).setCell ⟨eb, i * 2 + 1, none⟩ (.int .i64 b2)).setCell ⟨eb, j * 2, none⟩ (.int .i64 a1)).setCell ⟨eb, j * 2 + 1, none⟩ (.int .i64 a2)).drew = W1 at *
  have HL : Hid ((Hp.sw l i j).length = l.length) := Lib.hid (Hp.sw_length l i j)
  have HGI : Hid (Hp.g (Hp.sw l i j) i = (b1, b2)) := Lib.hid (by rw [Hp.g_sw hi hj, if_neg hne, if_pos rfl, HBE.out])
  have HGJ : Hid (Hp.g (Hp.sw l i j) j = (a1, a2)) := Lib.hid (by rw [Hp.g_sw hi hj, if_pos rfl, HA.out])
  have HT : Hid (Tidy D) := Lib.hid (HQ1.map.tidy keyedI)
  have HPS : Hid (Pl (Hp.sw l i j) ((D.put (.int .i64 b2) (.lit (.int .i64 (i : Int)))).put (.int .i64 a2) (.lit (.int .i64 (j : Int))))) := Lib.hid (by
    have := HP.out.swap HT.out hi hj
    rwa [HA.out, HBE.out] at this)
  have hwb : (Lit.int .i64 b2).wf = true := by have := HP.out.wf j hj; rwa [HBE.out] at this
  have hwa : (Lit.int .i64 a2).wf = true := by have := HP.out.wf i hi; rwa [HA.out] at this
  have hlen := HP.out.len
  have HWB := Lib.hid hwb
  have HWA := Lib.hid hwa
  clear hwa hwb
  generalize hlp : Hp.sw l i j = l' at *
  have HLP := Lib.hid hlp
  clear hlp
  have c0' := HQ1.c0
  have c1' := HQ1.c1
  obtain ⟨p1', p2'⟩ := HQ1.cells i (by rw [HL.out]; exact hi)
  obtain ⟨q1', q2'⟩ := HQ1.cells j (by rw [HL.out]; exact hj)
  rw [HGI.out] at p1' p2'
  rw [HGJ.out] at q1' q2'
  have HQ1H := Lib.hid HQ1
  have HK1H := Lib.hid HK1
  clear HQ1 HK1 c0 c1 p1 p2 q1 q2 f1 f2 f3 f4
  go_wp2_with fail
  go_still_tail 13, (by kernel_rfl)
  change wpList _ _ _ _ _ W1.drew
  go_wp2_with (at_mapUpdate; refine wpList_mapUpdate_own _ rfl _ _ _ 26 rfl 3 3 keyedI Try.underlying26 _ mb 1000000 D rfl HQ1H.out.map (by unfold maxLen; omega) _ _ _ rfl rfl (keyOf_int_mk Try.underlying3 HWB.out) _ [] (plainElem_int Try.underlying3 (WalkArith.wf_i64 (by omega))) ?_; intro w2 hown2 hgrow2)
  have hT1 := HT.out.put (isKey b2) (.lit (.int .i64 (i : Int)))
  have hasj : Maps.has D (.int .i64 b2) = true := (HP.out.has _).2 ⟨j, hj, by rw [HBE.out]⟩
  have hasi : Maps.has D (.int .i64 a2) = true := (HP.out.has _).2 ⟨i, hi, by rw [HA.out]⟩
  have hz1 : Maps.size (D.put (.int .i64 b2) (.lit (.int .i64 (i : Int)))) = l.length := by rw [size_put HT.out, if_pos hasj, HP.out.size]
  have hz2 : Maps.size ((D.put (.int .i64 b2) (.lit (.int .i64 (i : Int)))).put (.int .i64 a2) (.lit (.int .i64 (j : Int)))) = l.length := by
    rw [size_put hT1, if_pos ((has_put HT.out _ _ _).2 (Or.inr hasi)), hz1]
  have HQ2 := Lib.hid (HQ1H.out.putMap (ownsMap_fit hown2 (by omega)) (undrewG hgrow2))
  have HK2 : Hid (Keeps (fun b => b = mb) W1 w2) := Lib.hid (Keeps.of_grownBy (undrewG hgrow2) fun k _ e => by cases e; rfl)
  have HZ2 := Lib.hid hz2
  clear hz1 hz2 hT1 hasi hasj hown2 hgrow2 c0' c1' p1' p2' q1' q2'
  generalize D.put (.int .i64 b2) (.lit (.int .i64 (i : Int))) = D1 at *
  have c0'' := HQ2.out.c0
  have c1'' := HQ2.out.c1
  obtain ⟨q1'', q2''⟩ := HQ2.out.cells j (by rw [HL.out]; exact hj)
  rw [HGJ.out] at q1'' q2''
  go_still_tail 13, (by kernel_rfl)
  change wpList _ _ _ _ _ w2.drew
  go_wp2_with (at_mapUpdate; refine wpList_mapUpdate_own _ rfl _ _ _ 26 rfl 3 3 keyedI Try.underlying26 _ mb 1000000 D1 rfl HQ2.out.map (by unfold maxLen; omega) _ _ _ rfl rfl (keyOf_int_mk Try.underlying3 HWA.out) _ [] (plainElem_int Try.underlying3 (WalkArith.wf_i64 (by omega))) ?_; intro w3 hown3 hgrow3)
  have HQ3 := Lib.hid (HQ2.out.putMap (ownsMap_fit hown3 (by have := HZ2.out; omega)) (undrewG hgrow3))
  have HK3 : Hid (Keeps (fun b => b = mb) w2 w3) := Lib.hid (Keeps.of_grownBy (undrewG hgrow3) fun k _ e => by cases e; rfl)
  go_end0
  rw [HLP.out]
  exact ⟨rfl, _, HQ3.out, HPS.out, KQ.rows ((HK1H.out.mono (fun b _ e => Or.inr (by rw [e]; rfl))).trans ((HK2.out.trans HK3.out).mono (fun b _ e => Or.inl e))) HH.out.lt HH.out.nem HH.out.ne⟩
set_option maxRecDepth 100000 in
set_option maxHeartbeats 3200000 in
theorem swap_same {cb mb : Nat} {v : Value} {l : List Hp.E} {D : DataW Unit} (w : World) (h : QAt w cb v mb l D) (hp : Pl l D) (i : Nat) (hi : i < l.length) :
    Calls Try.prog 63 #[.pointer (some ⟨cb, 1, none⟩), .int .i64 i, .int .i64 i] w fun e w' => e = .returned (.tuple #[]) ∧ ∃ D', QAt w' cb v mb (Hp.sw l i i) D' ∧ Pl (Hp.sw l i i) D' ∧ KQ cb mb v w w' := by
  have HH := Lib.hid h
  have HP := Lib.hid hp
  obtain ⟨ao, cap, rfl, hao⟩ := h.slice
  obtain ⟨eb, rfl⟩ := hao (by omega)
  have c0 := h.c0
  have c1 := h.c1
  obtain ⟨p1, p2⟩ := h.cells i hi
  have f1 := h.free (i * 2)
  have f2 := h.free (i * 2 + 1)
  have hii : (0 : Int) ≤ (i : Int) ∧ (i : Int) < (l.length : Int) := by omega
  have hcbe : cb ≠ eb := fun e => h.ne (by rw [e]; rfl)
  clear h hp hao
  generalize hae : Hp.g l i = a at *
  have HA := Lib.hid hae
  clear hae
  obtain ⟨a1, a2⟩ := a
  go_enter Try.func63, Try.ntmps63
  go_wp2_with fail
  go_region
  obtain ⟨HQ1, HK1⟩ := HH.out.swapped hi hi HA.out HA.out
  generalize ((((w.setCell ⟨eb, i * 2, none⟩ (.int .i64 a1)).setCell ⟨eb, i * 2 + 1, none⟩ (.int .i64 a2)).setCell ⟨eb, i * 2, none⟩ (.int .i64 a1)).setCell ⟨eb, i * 2 + 1, none⟩ (.int .i64 a2)).drew = W1 at *
  have HL : Hid ((Hp.sw l i i).length = l.length) := Lib.hid (Hp.sw_length l i i)
  have HGI : Hid (Hp.g (Hp.sw l i i) i = (a1, a2)) := Lib.hid (by rw [Hp.g_sw hi hi, if_pos rfl, HA.out])
  have HT : Hid (Tidy D) := Lib.hid (HQ1.map.tidy keyedI)
  have HPS : Hid (Pl (Hp.sw l i i) ((D.put (.int .i64 a2) (.lit (.int .i64 (i : Int)))).put (.int .i64 a2) (.lit (.int .i64 (i : Int))))) := Lib.hid (by
    have := HP.out.swap HT.out hi hi
    rwa [HA.out] at this)
  have hwb : (Lit.int .i64 a2).wf = true := by have := HP.out.wf i hi; rwa [HA.out] at this
  have hlen := HP.out.len
  have HWB := Lib.hid hwb
  clear hwb
  generalize hlp : Hp.sw l i i = l' at *
  have HLP := Lib.hid hlp
  clear hlp
  have c0' := HQ1.c0
  have c1' := HQ1.c1
  obtain ⟨p1', p2'⟩ := HQ1.cells i (by rw [HL.out]; exact hi)
  rw [HGI.out] at p1' p2'
  have HQ1H := Lib.hid HQ1
  have HK1H := Lib.hid HK1
  clear HQ1 HK1 c0 c1 p1 p2 f1 f2
  go_wp2_with fail
  go_still_tail 13, (by kernel_rfl)
  change wpList _ _ _ _ _ W1.drew
  go_wp2_with (at_mapUpdate; refine wpList_mapUpdate_own _ rfl _ _ _ 26 rfl 3 3 keyedI Try.underlying26 _ mb 1000000 D rfl HQ1H.out.map (by unfold maxLen; omega) _ _ _ rfl rfl (keyOf_int_mk Try.underlying3 HWB.out) _ [] (plainElem_int Try.underlying3 (WalkArith.wf_i64 (by omega))) ?_; intro w2 hown2 hgrow2)
  have hT1 := HT.out.put (isKey a2) (.lit (.int .i64 (i : Int)))
  have hasj : Maps.has D (.int .i64 a2) = true := (HP.out.has _).2 ⟨i, hi, by rw [HA.out]⟩
  have hz1 : Maps.size (D.put (.int .i64 a2) (.lit (.int .i64 (i : Int)))) = l.length := by rw [size_put HT.out, if_pos hasj, HP.out.size]
  have hz2 : Maps.size ((D.put (.int .i64 a2) (.lit (.int .i64 (i : Int)))).put (.int .i64 a2) (.lit (.int .i64 (i : Int)))) = l.length := by
    rw [size_put hT1, if_pos ((has_put HT.out _ _ _).2 (Or.inr hasj)), hz1]
  have HQ2 := Lib.hid (HQ1H.out.putMap (ownsMap_fit hown2 (by omega)) (undrewG hgrow2))
  have HK2 : Hid (Keeps (fun b => b = mb) W1 w2) := Lib.hid (Keeps.of_grownBy (undrewG hgrow2) fun k _ e => by cases e; rfl)
  have HZ2 := Lib.hid hz2
  clear hz1 hz2 hT1 hasj hown2 hgrow2 c0' c1' p1' p2'
  generalize D.put (.int .i64 a2) (.lit (.int .i64 (i : Int))) = D1 at *
  have c0'' := HQ2.out.c0
  have c1'' := HQ2.out.c1
  obtain ⟨q1'', q2''⟩ := HQ2.out.cells i (by rw [HL.out]; exact hi)
  rw [HGI.out] at q1'' q2''
  go_still_tail 13, (by kernel_rfl)
  change wpList _ _ _ _ _ w2.drew
  go_wp2_with (at_mapUpdate; refine wpList_mapUpdate_own _ rfl _ _ _ 26 rfl 3 3 keyedI Try.underlying26 _ mb 1000000 D1 rfl HQ2.out.map (by unfold maxLen; omega) _ _ _ rfl rfl (keyOf_int_mk Try.underlying3 HWB.out) _ [] (plainElem_int Try.underlying3 (WalkArith.wf_i64 (by omega))) ?_; intro w3 hown3 hgrow3)
  have HQ3 := Lib.hid (HQ2.out.putMap (ownsMap_fit hown3 (by have := HZ2.out; omega)) (undrewG hgrow3))
  have HK3 : Hid (Keeps (fun b => b = mb) w2 w3) := Lib.hid (Keeps.of_grownBy (undrewG hgrow3) fun k _ e => by cases e; rfl)
  go_end0
  rw [HLP.out]
  exact ⟨rfl, _, HQ3.out, HPS.out, KQ.rows ((HK1H.out.mono (fun b _ e => Or.inr (by rw [e]; rfl))).trans ((HK2.out.trans HK3.out).mono (fun b _ e => Or.inl e))) HH.out.lt HH.out.nem HH.out.ne⟩
end Go.Proofs.Ytonpbbflloljgaa
