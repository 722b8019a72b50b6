/-
  The walk of package pipe's Talk.
-/
import Derived.Test.YtpehmghnfbkaaaaDoorPipeWE
import Derived.Test.YtpehmghnfbkaaaaDoorPipeM3
namespace Go.Proofs.YtpehmghnfbkaaaaDoor
open Go.RowKit Go.Maps Pp

/-- What comes of a talk. -/
structure TalkP (w w' : World) (ρ : Nat → Role) (pb N : Nat) (r : Pp.Told) (vw : Value) : Prop where
  pipes : ∃ ρ', Pipes w' ρ' pb (N + 1) r.st ∧ (∀ g, g < w.heap.size → ρ' g = ρ g) ∧ ∀ g, vw.ownBlock = some g → ρ' g = .free
  wk : w'.ownsRow w.heap.size 65 3 vw r.wakes.length (cellsK r.wakes)
  keep : Keeps (fun b => ρ b ≠ .free) w w'
/-- The same, ahead of the answer's note, in the block that the talk has made for it. -/
structure TalkI (w W : World) (ρ : Nat → Role) (pb N : Nat) (r : Pp.Told) (vw : Value) : Prop where
  pipes : ∃ ρ', Pipes W ρ' pb (N + 1) r.st ∧ (∀ g, g < w.heap.size + 1 → ρ' g = ρ g) ∧ ∀ g, vw.ownBlock = some g → ρ' g = .free
  wk : W.ownsRow (w.heap.size + 1) 65 3 vw r.wakes.length (cellsK r.wakes)
  keep : Keeps (fun b => ρ b ≠ .free) w W
  c0 : W.cell? ⟨w.heap.size, 0, none⟩ = some (.int .i64 0)
  c1 : W.cell? ⟨w.heap.size, 1, none⟩ = some (.int .i64 0)
  z : ∀ j, W.frozen? ⟨w.heap.size, j, none⟩ = false
theorem own_sliceK {w : World} {B n : Nat} {v : Value} {xs : List Value} {e : TypeId} (h : w.ownsRow B e 3 v n xs) : ∃ ao cap, v = .slice ao n cap := by
  rcases h.2 with ⟨rfl, h0⟩ | ⟨g, cap, cur, rfl, _⟩
  · exact ⟨none, 0, by rw [h0]⟩
  · exact ⟨_, _, rfl⟩
theorem TalkI.fin0 {w W : World} {ρ : Nat → Role} {pb N : Nat} {r : Pp.Told} {vw : Value} (h : TalkI w W ρ pb N r vw) : TalkP w W ρ pb N r vw := by
  obtain ⟨ρ', h1, h2, h3⟩ := h.pipes
  exact ⟨⟨ρ', h1, fun g hg => h2 g (by omega), h3⟩, own_mono h.wk (Nat.le_succ _), h.keep⟩
theorem TalkI.fin {w W : World} {ρ : Nat → Role} {pb N : Nat} {r : Pp.Told} {vw : Value} (h : TalkI w W ρ pb N r vw) (hd : ∀ b, ρ b ≠ .free → b < w.heap.size) (a b : Value) :
    TalkP w ((W.setCell ⟨w.heap.size, 0, none⟩ a).setCell ⟨w.heap.size, 1, none⟩ b) ρ pb N r vw ∧ ((W.setCell ⟨w.heap.size, 0, none⟩ a).setCell ⟨w.heap.size, 1, none⟩ b).cell? ⟨w.heap.size, 0, none⟩ = some a ∧
      ((W.setCell ⟨w.heap.size, 0, none⟩ a).setCell ⟨w.heap.size, 1, none⟩ b).cell? ⟨w.heap.size, 1, none⟩ = some b := by
  have hk : Keeps (fun g => g = w.heap.size) W ((W.setCell ⟨w.heap.size, 0, none⟩ a).setCell ⟨w.heap.size, 1, none⟩ b) := ((Keeps.refl (fun g => g = w.heap.size) W).setCell (p := ⟨w.heap.size, 0, none⟩) (Or.inl rfl) a).setCell (p := ⟨w.heap.size, 1, none⟩) (Or.inl rfl) b
  have hf : ρ w.heap.size = .free := Classical.byContradiction fun e => by
    have := hd _ e
    omega
  refine ⟨⟨?_, ?_, h.keep.trans' hk fun g hg e => by omega⟩, ?_, ?_⟩
  · obtain ⟨ρ', h1, h2, h3⟩ := h.pipes
    exact ⟨ρ', h1.keeps hk fun g _ e => by rw [e, h2 _ (Nat.lt_succ_self _)]; exact hf, fun g hg => h2 g (by omega), h3⟩
  · exact own_mono (hk.row h.wk fun g hg e => by
      have := (World.ownsRow.lt h.wk g hg).1
      omega) (Nat.le_succ _)
  · rw [cell_set_other (off_ne (by decide) _)]; exact cell_set_same h.c0
  · exact cell_set_same (u := .int .i64 0) (by rw [cell_set_other (off_ne (by decide) _)]; exact h.c1)
section
variable {w w' : World} {ρ : Nat → Role} {pb : Nat} {vch : Value} {ptr : List Nat} {mb : Option Nat} {D : DataW Value} {N M : Nat} {s : St}
/-- Whether a task waits. -/
theorem PipesAt.waits (h : PipesAt w ρ pb vch ptr mb D N M s) {t : Int} (hwf : (Lit.int .i64 t).wf = true) : ∃ u, (Instr.lookup 29 (.map mb) (.int .i64 t) true).run Tryd.prog w = .ok (.tuple #[u, .bool (s.asks t).isSome]) w := by
  have hz : (zeroValue 32).run Tryd.prog w = .ok (.slice none 0 0) w := by simp [Tryd.zeroValue32]
  cases mb with
  | none =>
    have h1 := h.has t
    rw [h.map0 rfl] at h1
    rw [← h1]
    exact ⟨_, Maps.look_nil (P := Tryd.prog) (t := 29) (w := w) true keyedP Tryd.underlying29 hz (keyOf_int_mk Tryd.underlying3 hwf)⟩
  | some b =>
    obtain ⟨v, ps, h1, h2⟩ := (h.map1 b rfl).1.look_ok keyedP Tryd.underlying29 hz (zd := .held (.slice none 0 0)) (zp := []) rfl (keyOf_int_mk Tryd.underlying3 hwf)
    rw [h.has] at h1
    exact ⟨v, h1⟩
end
theorem drew_pipes {w : World} {ρ : Nat → Role} {pb N : Nat} {s : St} (h : Pipes w ρ pb N s) : Pipes w ρ pb (N + 1) s := by
  obtain ⟨h0, vch, ptr, mb, D, h1⟩ := h
  exact ⟨h0, vch, ptr, mb, D, h1.mono (Nat.le_succ N) (by omega)⟩

set_option maxRecDepth 100000 in
set_option maxHeartbeats 6400000 in
theorem talk_any {w : World} {ρ : Nat → Role} {pb N : Nat} {s : St} (h : Pipes w ρ pb N s) (hN : N ≤ 100000) (task : Int) (hwf : (Lit.int .i64 task).wf = true) {v : Value} {l : List Tk} (hl : TalksAt w v l) (hvo : ∀ g, v.ownBlock = some g → ρ g = .free)
    (draw : Int) (hd : -9223372036854775808 ≤ draw ∧ draw ≤ 9223372036854775807) :
    Calls Tryd.prog 9 #[.pointer (some ⟨pb, 0, none⟩), .int .i64 task, v, .int .i64 draw] w fun e w' => ∃ vw, e = .returned (.tuple #[.agg #[.int .i64 (Pp.talk s task l draw).case, .int .i64 (Pp.talk s task l draw).n], vw, .bool (Pp.talk s task l draw).waits, errV (Pp.talk s task l draw).err]) ∧
      TalkP w w' ρ pb N (Pp.talk s task l draw) vw := by
  obtain ⟨r, hr⟩ : ∃ r, Pp.talk s task l draw = r := ⟨_, rfl⟩
  have hrok : Ok r.st := hr ▸ h.1.talk task l draw
  rw [hr]
  obtain ⟨hok, vch, ptr, mb, D, hp⟩ := h
  obtain ⟨ao, cap, rfl, hc1, hc2⟩ := hl.slice
  have hlm : l.length ≤ 9223372036854775807 := by unfold maxLen at hc2; omega
  have hka : Keeps (fun _ => False) w (w.alloc (.cells #[.int .i64 0, .int .i64 0] 44)) := (Keeps.refl _ w).alloc _
  have hp1 := hp.keeps hka fun _ _ e => e.elim
  have hl1 := hl.keeps hka fun _ _ e => e
  obtain ⟨u, hlook⟩ := hp1.waits hwf
  have p1 := hp1.c1
  have r0 : (w.alloc (.cells #[.int .i64 0, .int .i64 0] 44)).cell? ⟨w.heap.size, 0, none⟩ = some (.int .i64 0) := by rw [World.cell?_alloc_at _ _ _ _ rfl]; rfl
  have r1 : (w.alloc (.cells #[.int .i64 0, .int .i64 0] 44)).cell? ⟨w.heap.size, 1, none⟩ = some (.int .i64 0) := by rw [World.cell?_alloc_at _ _ _ _ rfl]; rfl
  have f0 : ∀ j, (w.alloc (.cells #[.int .i64 0, .int .i64 0] 44)).frozen? ⟨w.heap.size, j, none⟩ = false := fun j => by rw [World.frozen?_alloc_at _ _ _ _ rfl]
  have hsz : w.heap.size + 1 ≤ (w.alloc (.cells #[.int .i64 0, .int .i64 0] 44)).heap.size := by simp
  have HDOM := Lib.hid hp.dom
  have HP1 := Lib.hid hp1
  have HL1 := Lib.hid hl1
  have HKA := Lib.hid hka
  have HR := Lib.hid hr
  have HROK := Lib.hid hrok
  have HVO := Lib.hid hvo
  have HWF := Lib.hid hwf
  have HD := Lib.hid hd
  have HOK := Lib.hid hok
  have HF0 := Lib.hid f0
  have g0 := f0 0
  have g1 := f0 1
  -- where nothing is done
  have HN : Hid (∀ W, Keeps (fun _ => False) (w.alloc (.cells #[.int .i64 0, .int .i64 0] 44)) W → ∀ (q : Pp.Told), q.st = s → q.wakes = [] → TalkI w W ρ pb N q (.slice none 0 0)) := Lib.hid fun W hW q h1 h2 => by
    refine ⟨⟨ρ, by rw [h1]; exact drew_pipes ⟨hok, vch, ptr, mb, D, hp1.keeps hW fun _ _ e => e.elim⟩, fun _ _ => rfl, fun g hg => by cases hg⟩, by rw [h2]; exact World.ownsRow_nil _ _ _ _, (hka.trans hW).mono fun _ _ e => e.elim, hW.cell_of r0 id, hW.cell_of r1 id, fun j => by rw [hW.frozen (p := ⟨w.heap.size, j, none⟩) (by simp) id]; exact f0 j⟩
  clear hp hp1 hl1 hka hr hrok hvo hwf hd hok f0 hl
  go_enter Tryd.func9, Tryd.ntmps9
  cases hw : (s.asks task).isSome with
  | true =>
    rw [hw] at hlook
    have HRE : Hid (r = ⟨s, 0, 0, [], false, 6⟩) := Lib.hid (by rw [← HR.out]; unfold Pp.talk; rw [if_pos hw])
    clear hw
    go_wp2_with fail
    have hI := HN.out _ (Keeps.refl _ _) r (by rw [HRE.out]) (by rw [HRE.out])
    have q0 := hI.c0
    have q1 := hI.c1
    refine bodyPost_ret (v := .tuple #[.agg #[.int .i64 0, .int .i64 0], .slice none 0 0, .bool false, .iface 35 (.int .i64 6)]) (by simp [results, Tryd.results9, go_sem, q0, q1] <;> rfl) rfl ?_
    exact ⟨_, by rw [HRE.out]; first | rfl | simp only [hev], hI.fin0⟩
  | false =>
    rw [hw] at hlook
    by_cases h6 : 6 < l.length
    · have HRE : Hid (r = ⟨s, 0, 0, [], false, 4⟩) := Lib.hid (by rw [← HR.out]; unfold Pp.talk; rw [if_neg (by rw [hw]; decide), if_pos h6])
      have h6i : (6 : Int) < (l.length : Int) := by omega
      clear hw
      go_wp2_with fail
      have hI := HN.out _ (Keeps.refl _ _) r (by rw [HRE.out]) (by rw [HRE.out])
      have q0 := hI.c0
      have q1 := hI.c1
      refine bodyPost_ret (v := .tuple #[.agg #[.int .i64 0, .int .i64 0], .slice none 0 0, .bool false, .iface 35 (.int .i64 4)]) (by simp [results, Tryd.results9, go_sem, q0, q1] <;> rfl) rfl ?_
      exact ⟨_, by rw [HRE.out]; first | rfl | simp only [hev], hI.fin0⟩
    · have hrr : r = if (Pp.other s.chs.length l 0 (-1)).2 ≠ 0 then ⟨s, 0, 0, [], false, (Pp.other s.chs.length l 0 (-1)).2⟩ else (Pp.talk s task l draw) := by
        rw [HR.out]
        split
        · next h9 => rw [← HR.out]; unfold Pp.talk; rw [if_neg (by rw [hw]; decide), if_neg h6, if_pos h9]
        · rfl
      have HRR := Lib.hid hrr
      have HOT := Lib.hid (other_any HP1.out HL1.out (by omega))
      have h6i : ¬ (6 : Int) < (l.length : Int) := by omega
      have HFINE : Hid ((Pp.other s.chs.length l 0 (-1)).2 = 0 → Fine s.chs.length l) := Lib.hid other_fine
      have HGOOD : Hid ((Pp.other s.chs.length l 0 (-1)).2 = 0 → (Pp.other s.chs.length l 0 (-1)).1 < 0 → ∀ x ∈ l, x.good s.chs.length) := Lib.hid fun e1 e2 => other_good e1 e2 (by decide)
      have HTALK : Hid ((Pp.other s.chs.length l 0 (-1)).2 = 0 → r = if 0 < (frees s.chs l 0).length then
            (let k := (frees s.chs l 0).getD (drawn draw (frees s.chs l 0).length) 0
            let g := doT s (l.getD k ⟨0, 0, 0⟩)
            if g.err ≠ 0 then ⟨g.st, 0, 0, [], false, g.err⟩ else ⟨g.st, (k : Nat), g.n, g.wakes, false, 0⟩)
          else if 0 ≤ (Pp.other s.chs.length l 0 (-1)).1 then ⟨s, (Pp.other s.chs.length l 0 (-1)).1, 0, [], false, 0⟩
          else ⟨Pp.wait s task l, 0, 0, [], true, 0⟩) := Lib.hid fun e => by
        rw [← HR.out]; unfold Pp.talk; rw [if_neg (by rw [hw]; decide), if_neg h6, if_neg (by rw [e]; decide)]
      have HNONE : Hid (s.asks task = none) := Lib.hid (by cases h9 : s.asks task with
        | none => rfl
        | some m => rw [h9] at hw; cases hw)
      clear hw hrr
      generalize Pp.other s.chs.length l 0 (-1) = oe at *
      obtain ⟨o, e⟩ := oe
      simp only at HOT HRR HFINE HGOOD HTALK
      by_cases he : e = 0
      · subst he
        have HF2 := Lib.hid (HFINE.out rfl)
        have HG2 := Lib.hid (HGOOD.out rfl)
        have HT2 := Lib.hid (HTALK.out rfl)
        clear HFINE HGOOD HTALK HRR
        have heV : errV 0 = .nilIface := rfl
        rw [heV] at HOT
        clear heV
        go_wp2_with fail
        refine HOT.out.mono ?_
        rintro e w2 ⟨rfl, hk2⟩
        have HP2 := Lib.hid (HP1.out.keeps hk2 fun _ _ e => e.elim)
        have HL2 := Lib.hid (HL1.out.keeps hk2 fun _ _ e => e)
        have HK2 := Lib.hid hk2
        have HFR := Lib.hid (free_any HP2.out HL2.out (by omega) HF2.out)
        clear hk2
        go_wp2_with fail
        refine HFR.out.mono ?_
        rintro e w3 ⟨fv, rfl, hof, hk3⟩
        have HOF := Lib.hid hof
        have HP3 := Lib.hid (HP2.out.keeps hk3 fun _ _ e => e.elim)
        have HL3 := Lib.hid (HL2.out.keeps hk3 fun _ _ e => e)
        have HK3 := Lib.hid (HK2.out.trans hk3)
        obtain ⟨af, cf, hfv⟩ := hof.slice
        rw [List.length_map] at hfv
        subst hfv
        clear hof hk3
        by_cases hfr : 0 < (frees s.chs l 0).length
        · have hT2 := HT2.out
          rw [if_pos hfr] at hT2
          have hdl : drawn draw (frees s.chs l 0).length < (frees s.chs l 0).length := by
            unfold drawn
            have h8 : draw % ((frees s.chs l 0).length : Int) < ((frees s.chs l 0).length : Int) := Int.emod_lt_of_pos _ (by omega)
            have h9 : 0 ≤ draw % ((frees s.chs l 0).length : Int) := Int.emod_nonneg _ (by omega)
            omega
          have hlen6 : (frees s.chs l 0).length ≤ 6 := Nat.le_trans (frees_le s.chs l 0) (by omega)
          have HDR := Lib.hid (drawn_any w3 draw (frees s.chs l 0).length hfr HD.out (by omega))
          have hfrI : (0 : Int) < ((frees s.chs l 0).length : Int) := by omega
          generalize hkd : drawn draw (frees s.chs l 0).length = kd at *
          obtain ⟨kk, hkk⟩ : ∃ kk, (frees s.chs l 0)[kd]? = some kk := ⟨_, List.getElem?_eq_getElem hdl⟩
          have hgd : (frees s.chs l 0).getD kd 0 = kk := by rw [List.getD_eq_getElem?_getD, hkk]; rfl
          rw [hgd] at hT2
          obtain ⟨_, x, hx, hxf⟩ := mem_frees (List.mem_of_getElem? hkk)
          rw [Nat.sub_zero] at hx
          have hld : l.getD kk ⟨0, 0, 0⟩ = x := by rw [List.getD_eq_getElem?_getD, hx]; rfl
          rw [hld] at hT2
          have hx0 : 0 ≤ x.chan := by
            rcases HF2.out x (List.mem_of_getElem? hx) with h9 | h9
            · unfold isFree at hxf; simp [h9] at hxf
            · exact h9.1.1
          obtain ⟨kc, c, hxc, hcg, _, _⟩ := isFree_chan hxf hx0
          obtain ⟨xw, xcc, xn⟩ := x
          simp only at hxc
          subst hxc
          -- the place's number, and the talk
          obtain ⟨a0, n0, c0, hv0, hn0, hnc0, hcc0, hxx⟩ := HOF.out.ints
          rw [Value.slice.injEq] at hv0
          obtain ⟨rfl, rfl, rfl⟩ := hv0
          obtain ⟨vb, vo, rfl, hvb, hcell⟩ := hxx hfr
          have hck := hcell kd hdl
          have hgm : ((frees s.chs l 0).map fun (j : Nat) => (j : Int)).getD kd 0 = (kk : Int) := by rw [List.getD_eq_getElem?_getD, List.getElem?_map, hkk]; rfl
          rw [hgm] at hck
          obtain ⟨tb, to, rfl, htb, t1, t2, t3⟩ := HL3.out.at hx
          simp only at t1 t2 t3
          have hkl := (List.getElem?_eq_some_iff.1 hx).1
          have hkdi : (0 : Int) ≤ (kd : Int) ∧ (kd : Int) < ((frees s.chs l 0).length : Int) := by omega
          have hkki : (0 : Int) ≤ (kk : Int) ∧ (kk : Int) < (l.length : Int) := by omega
          have HDO := Lib.hid (do_any HP3.out HOK.out (by omega) xw xn hcg)
          have HT3 := Lib.hid hT2
          clear hT2 hcell hxx hnc0 hcc0 hn0 hgm hx0 hxf hld hx hgd hkk hkd hcg htb hvb HOF HFR
          generalize (frees s.chs l 0).length = nf at *
          generalize doT s ⟨xw, (kc : Int) + 1, xn⟩ = G at *
          go_wp2_with fail
          refine HDR.out.mono ?_
          rintro e w4 ⟨rfl, rfl⟩
          go_wp2_with fail
          refine HDO.out.mono ?_
          rintro e w5 ⟨vw, rfl, hg⟩
          have HGT := Lib.hid hg
          have hfree : ρ w.heap.size = .free := Classical.byContradiction fun e => by
            have := HDOM.out _ e
            omega
          have hb0 : w.heap.size < w3.heap.size := Nat.lt_of_lt_of_le (by simp) HK3.out.size
          have z0 := hg.keep.cell_of (HK3.out.cell_of r0 id) (fun e => e hfree)
          have z1 := hg.keep.cell_of (HK3.out.cell_of r1 id) (fun e => e hfree)
          have hz : ∀ j, w5.frozen? ⟨w.heap.size, j, none⟩ = false := fun j => by
            rw [hg.keep.frozen (p := ⟨w.heap.size, j, none⟩) hb0 (fun e => e hfree), HK3.out.frozen (p := ⟨w.heap.size, j, none⟩) (by simp) id]; exact HF0.out j
          have y0 := hz 0
          have y1 := hz 1
          have HI : Hid (∀ (q : Pp.Told) (u : Value), r = q → q.st = G.st → (u = vw ∧ q.wakes = G.wakes) ∨ (u = .slice none 0 0 ∧ q.wakes = []) → TalkI w w5 ρ pb N r u) := Lib.hid fun q u e1 e2 e3 => by
            obtain ⟨D5, h5⟩ := HGT.out.at_
            have hok5 := HROK.out
            rw [e1, e2] at hok5
            have hbase : w.heap.size + 1 ≤ w3.heap.size := hb0
            refine ⟨⟨ρ, ?_, fun _ _ => rfl, fun g hg2 => ?_⟩, ?_, ?_, z0, z1, hz⟩
            · rw [e1, e2]; exact ⟨hok5, vch, ptr, mb, D5, h5.mono (Nat.le_succ N) (by omega)⟩
            · rcases e3 with ⟨rfl, _⟩ | ⟨rfl, _⟩
              · have h7 := (World.ownsRow.lt HGT.out.wk g hg2).1
                exact Classical.byContradiction fun e => by
                  have := HDOM.out g e
                  omega
              · cases hg2
            · rw [e1]
              rcases e3 with ⟨rfl, e4⟩ | ⟨rfl, e4⟩
              · rw [e4]; exact own_mono HGT.out.wk hbase
              · rw [e4]; exact World.ownsRow_nil _ _ _ _
            · exact ((HKA.out.trans HK3.out).mono fun _ _ e => e.elim).trans HGT.out.keep
          clear hg hz hfree hb0
          by_cases hge : G.err = 0
          · have HRE : Hid (r = ⟨G.st, (kk : Nat), G.n, G.wakes, false, 0⟩) := Lib.hid (by have := HT3.out; rwa [if_neg (by rw [hge]; decide)] at this)
            have hev : errV G.err = .nilIface := by rw [hge]; rfl
            rw [hev]
            clear hge
            obtain ⟨av, cv, hvw⟩ := own_sliceK HGT.out.wk
            subst hvw
            go_wp2_with fail
            obtain ⟨hT, q0, q1⟩ := (HI.out _ _ HRE.out rfl (Or.inl ⟨rfl, rfl⟩)).fin HDOM.out (.int .i64 (kk : Nat)) (.int .i64 G.n)
            refine bodyPost_ret (v := .tuple #[.agg #[.int .i64 (kk : Nat), .int .i64 G.n], .slice av G.wakes.length cv, .bool false, .nilIface]) (by simp [results, Tryd.results9, go_sem, q0, q1] <;> rfl) rfl ?_
            exact ⟨_, by rw [HRE.out]; first | rfl | simp only [hev], hT⟩
          · have HRE : Hid (r = ⟨G.st, 0, 0, [], false, G.err⟩) := Lib.hid (by have := HT3.out; rwa [if_pos hge] at this)
            have hev : errV G.err = .iface 35 (.int .i64 G.err) := by unfold errV; rw [if_neg hge]
            rw [hev]
            go_wp2_with fail
            obtain ⟨hT, q0, q1⟩ := (HI.out _ _ HRE.out rfl (Or.inr ⟨rfl, rfl⟩)).fin HDOM.out (.int .i64 0) (.int .i64 0)
            refine bodyPost_ret (v := .tuple #[.agg #[.int .i64 0, .int .i64 0], .slice none 0 0, .bool false, .iface 35 (.int .i64 G.err)]) (by simp [results, Tryd.results9, go_sem, q0, q1] <;> rfl) rfl ?_
            exact ⟨_, by rw [HRE.out]; first | rfl | simp only [hev], hT⟩
        · have hf0 : ¬ (0 : Int) < ((frees s.chs l 0).length : Int) := by omega
          have hT2 := HT2.out
          rw [if_neg hfr] at hT2
          have z0 := HK3.out.cell_of r0 id
          have z1 := HK3.out.cell_of r1 id
          have y0 : w3.frozen? ⟨w.heap.size, 0, none⟩ = false := by rw [HK3.out.frozen (p := ⟨w.heap.size, 0, none⟩) (by simp) id]; exact g0
          have y1 : w3.frozen? ⟨w.heap.size, 1, none⟩ = false := by rw [HK3.out.frozen (p := ⟨w.heap.size, 1, none⟩) (by simp) id]; exact g1
          clear hfr
          generalize (frees s.chs l 0).length = nf at *
          by_cases ho : 0 ≤ o
          · rw [if_pos ho] at hT2
            have HRE := Lib.hid hT2
            clear hT2
            go_wp2_with fail
            obtain ⟨hT, q0, q1⟩ := (HN.out _ HK3.out r (by rw [HRE.out]) (by rw [HRE.out])).fin HDOM.out (.int .i64 o) (.int .i64 0)
            refine bodyPost_ret (v := .tuple #[.agg #[.int .i64 o, .int .i64 0], .slice none 0 0, .bool false, .nilIface]) (by simp [results, Tryd.results9, go_sem, q0, q1] <;> rfl) rfl ?_
            exact ⟨_, by rw [HRE.out]; first | rfl | simp only [hev], hT⟩
          · rw [if_neg ho] at hT2
            have HRE := Lib.hid hT2
            have HWT := Lib.hid (wait_any HP3.out (by omega) (by omega) task HWF.out HL3.out HVO.out (HG2.out (by omega)) (by omega))
            have hfree : ρ w.heap.size = .free := Classical.byContradiction fun e => by
              have := HDOM.out _ e
              omega
            have hb0 : w.heap.size < w3.heap.size := Nat.lt_of_lt_of_le (by simp) HK3.out.size
            have HFREE := Lib.hid hfree
            have HBB := Lib.hid hb0
            clear hT2 z0 z1 y0 y1 hfree hb0
            go_wp2_with fail
            refine HWT.out.mono ?_
            rintro e w5 ⟨rfl, ⟨ρ', mb', D', h5, hx5⟩, hk5⟩
            have z0 := hk5.cell_of (HK3.out.cell_of r0 id) (fun e => e HFREE.out)
            have z1 := hk5.cell_of (HK3.out.cell_of r1 id) (fun e => e HFREE.out)
            have hz : ∀ j, w5.frozen? ⟨w.heap.size, j, none⟩ = false := fun j => by
              rw [hk5.frozen (p := ⟨w.heap.size, j, none⟩) HBB.out (fun e => e HFREE.out), HK3.out.frozen (p := ⟨w.heap.size, j, none⟩) (by simp) id]; exact HF0.out j
            have y0 := hz 0
            have y1 := hz 1
            have HI : Hid (TalkI w w5 ρ pb N r (.slice none 0 0)) := Lib.hid (by
              have hok5 := HROK.out
              rw [HRE.out] at hok5 ⊢
              exact ⟨⟨ρ', ⟨hok5, vch, ptr, mb', D', h5.mono (Nat.le_refl _) (by omega)⟩, fun g hg => hx5 g (Nat.lt_of_lt_of_le hg HBB.out), fun g hg => by cases hg⟩, World.ownsRow_nil _ _ _ _, ((HKA.out.trans HK3.out).mono fun _ _ e => e.elim).trans hk5, z0, z1, hz⟩)
            clear h5 hx5 hk5 hz
            go_wp2_with fail
            obtain ⟨hT, q0, q1⟩ := (HI.out).fin HDOM.out (.int .i64 0) (.int .i64 0)
            refine bodyPost_ret (v := .tuple #[.agg #[.int .i64 0, .int .i64 0], .slice none 0 0, .bool true, .nilIface]) (by simp [results, Tryd.results9, go_sem, q0, q1] <;> rfl) rfl ?_
            exact ⟨_, by rw [HRE.out]; first | rfl | simp only [hev], hT⟩
      · have HRE : Hid (r = ⟨s, 0, 0, [], false, e⟩) := Lib.hid (by have := HRR.out; rwa [if_pos he] at this)
        have heV : errV e = .iface 35 (.int .i64 e) := by unfold errV; rw [if_neg he]
        rw [heV] at HOT
        clear heV
        go_wp2_with fail
        refine HOT.out.mono ?_
        rintro e' w2 ⟨rfl, hk2⟩
        have HK2 := Lib.hid hk2
        have z0 := hk2.cell_of r0 id
        have z1 := hk2.cell_of r1 id
        have y0 : w2.frozen? ⟨w.heap.size, 0, none⟩ = false := by rw [hk2.frozen (p := ⟨w.heap.size, 0, none⟩) (by simp) id]; exact g0
        have y1 : w2.frozen? ⟨w.heap.size, 1, none⟩ = false := by rw [hk2.frozen (p := ⟨w.heap.size, 1, none⟩) (by simp) id]; exact g1
        clear hk2
        go_wp2_with fail
        have hev : errV e = .iface 35 (.int .i64 e) := by unfold errV; rw [if_neg he]
        obtain ⟨hT, q0, q1⟩ := (HN.out _ HK2.out r (by rw [HRE.out]) (by rw [HRE.out])).fin HDOM.out (.int .i64 0) (.int .i64 0)
        refine bodyPost_ret (v := .tuple #[.agg #[.int .i64 0, .int .i64 0], .slice none 0 0, .bool false, .iface 35 (.int .i64 e)]) (by simp [results, Tryd.results9, go_sem, q0, q1] <;> rfl) rfl ?_
        exact ⟨_, by rw [HRE.out]; first | rfl | simp only [hev], hT⟩
end Go.Proofs.YtpehmghnfbkaaaaDoor
