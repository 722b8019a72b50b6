/-
  Texts of one proof, in build order: The walk of package pipe's Talk. | A channel is shut: what turns in memory; one more that goes on. | The walk of package pipe's Make. | The walk of package pipe's Make. | Small words for what a room does. | The walk of package pipe's Close. | What a ring holds, laid into a row of its own. | All of a ring: what the function that All hands back tells, whatever the loop's body does with the ring. | A variable that lies in a block of its own. Of no chapter. | 'xs = append(xs, y)' on a slice of numbers of the call's own, within a fence (a loop's body over a function). | The walk of package pipe's look at a channel: all that is to be seen of it. | The walk of package pipe's Look: all channels, one behind the other. | Plain mathematics: heaps of pairs in a list (swaps, the way up, the way down). No program. | Package clock's queue in memory, and the walks of sooner, Len, Less. | The walk of the queue's Swap. | The walks of the queue's Push and Pop. | The walk of the queue's Pop. | The walks of package heap's up, down, Push, Pop, Remove at the clock's queue. | The walk of package heap's down at the clock's queue. | The walks of package heap's Push, Pop, Remove at the clock's queue. | The walks of package clock: Now, Len, Next, When, Drop, Set. | A clock's ids; which blocks it may grow by. | The walk of package clock's Set.
-/
import Derived.Test.YtnjdmijcoadidaaGreatDoorR1
import Derived.Deep.Cut
import Derived.BigQuiet
import Derived.RangeFuncBox
import Derived.RangeFuncLeaves
import Derived.RangeFuncWrites
import Derived.Shelf.Abstract
import Derived.OwnWalkIn
import Derived.TacticsInMore
import Derived.LoopNIn
import Derived.LoopIn
import Derived.Maps.OwnIn
import Derived.TacticsIn
import Derived.RegionIn
import Derived.ControlIn
import Derived.RangeFuncCalls
import Derived.Deep.RegionHeld3
import Derived.Deep.DeepCutAuto
import Derived.Deep.CutRange
import Derived.Test.YtnjdmijcoadidaaGreatDoorRows
import Derived.WalkKit
import Derived.WalkSpells
import Derived.WalkLawsBesides
import Derived.Lib.Hide
import Derived.IntWalk
import Derived.Deep.Draws
import Derived.Deep.QuietTactic
import Derived.StillTailTactics
import Derived.Maps.OwnOps
import Derived.RegionTactic
import Derived.ChangeAlike
import Derived.BigRegion
import Derived.WalkArith
import Derived.Deep.RegionLaw
import Derived.Maps.AppendAt
import Derived.Maps.OwnSet
import Derived.Laws.EntriesVeiled
namespace Go.Proofs.YtnjdmijcoadidaaGreatDoor
open Go.RowKit Go.Maps Pp

/-- What comes of a talk. -/
structure TalkP (w w' : World) (ρ : Nat → Role) (pb : Home) (N : Nat) (r : Pp.Told) (vw : Value) : Prop where
  pipes : ∃ ρ', Pipes w' ρ' pb (N + 1) r.st ∧ (∀ g, g < w.heap.size → ρ' g = ρ g) ∧ ∀ g, vw.ownBlock = some g → ρ' g = .free
  wk : w'.ownsRow w.heap.size 162 3 vw r.wakes.length (cellsK r.wakes)
  keep : Keeps (fun b => ρ b ≠ .free) w w'
/-- The same, ahead of the answer's note, in the block that the talk has made for it. -/
structure TalkI (w W : World) (ρ : Nat → Role) (pb : Home) (N : Nat) (r : Pp.Told) (vw : Value) : Prop where
  pipes : ∃ ρ', Pipes W ρ' pb (N + 1) r.st ∧ (∀ g, g < w.heap.size + 1 → ρ' g = ρ g) ∧ ∀ g, vw.ownBlock = some g → ρ' g = .free
  wk : W.ownsRow (w.heap.size + 1) 162 3 vw r.wakes.length (cellsK r.wakes)
  keep : Keeps (fun b => ρ b ≠ .free) w W
  c0 : W.cell? ⟨w.heap.size, 0, none⟩ = some (.int .i64 0)
  c1 : W.cell? ⟨w.heap.size, 1, none⟩ = some (.int .i64 0)
  z : ∀ j, W.frozen? ⟨w.heap.size, j, none⟩ = false
theorem own_sliceK {w : World} {B n : Nat} {v : Value} {xs : List Value} {e : TypeId} (h : w.ownsRow B e 3 v n xs) : ∃ ao cap, v = .slice ao n cap := by
  rcases h.2 with ⟨rfl, h0⟩ | ⟨g, cap, cur, rfl, _⟩
  · exact ⟨none, 0, by rw [h0]⟩
  · exact ⟨_, _, rfl⟩
theorem TalkI.fin0 {w W : World} {ρ : Nat → Role} {pb : Home} {N : Nat} {r : Pp.Told} {vw : Value} (h : TalkI w W ρ pb N r vw) : TalkP w W ρ pb N r vw := by
  obtain ⟨ρ', h1, h2, h3⟩ := h.pipes
  exact ⟨⟨ρ', h1, fun g hg => h2 g (by omega), h3⟩, own_mono h.wk (Nat.le_succ _), h.keep⟩
theorem TalkI.fin {w W : World} {ρ : Nat → Role} {pb : Home} {N : Nat} {r : Pp.Told} {vw : Value} (h : TalkI w W ρ pb N r vw) (hd : ∀ b, ρ b ≠ .free → b < w.heap.size) (a b : Value) :
    TalkP w ((W.setCell ⟨w.heap.size, 0, none⟩ a).setCell ⟨w.heap.size, 1, none⟩ b) ρ pb N r vw ∧ ((W.setCell ⟨w.heap.size, 0, none⟩ a).setCell ⟨w.heap.size, 1, none⟩ b).cell? ⟨w.heap.size, 0, none⟩ = some a ∧
      ((W.setCell ⟨w.heap.size, 0, none⟩ a).setCell ⟨w.heap.size, 1, none⟩ b).cell? ⟨w.heap.size, 1, none⟩ = some b := by
  have hk : Keeps (fun g => g = w.heap.size) W ((W.setCell ⟨w.heap.size, 0, none⟩ a).setCell ⟨w.heap.size, 1, none⟩ b) := ((Keeps.refl (fun g => g = w.heap.size) W).setCell (p := ⟨w.heap.size, 0, none⟩) (Or.inl rfl) a).setCell (p := ⟨w.heap.size, 1, none⟩) (Or.inl rfl) b
  have hf : ρ w.heap.size = .free := Classical.byContradiction fun e => by
    have := hd _ e
    omega
  refine ⟨⟨?_, ?_, h.keep.trans' hk fun g hg e => by omega⟩, ?_, ?_⟩
  · obtain ⟨ρ', h1, h2, h3⟩ := h.pipes
    exact ⟨ρ', h1.keeps hk fun g _ e => by rw [e, h2 _ (Nat.lt_succ_self _)]; exact hf, fun g hg => h2 g (by omega), h3⟩
  · exact own_mono (hk.row h.wk fun g hg e => by
      have := (World.ownsRow.lt h.wk g hg).1
      omega) (Nat.le_succ _)
  · rw [cell_set_other (off_ne (by decide) _)]; exact cell_set_same h.c0
  · exact cell_set_same (u := .int .i64 0) (by rw [cell_set_other (off_ne (by decide) _)]; exact h.c1)
section
variable {w w' : World} {ρ : Nat → Role} {pb : Home} {vch : Value} {ptr : List Nat} {mb : Option Nat} {D : DataW Value} {N M : Nat} {s : St}
/-- Whether a task waits. -/
theorem PipesAt.waits (h : PipesAt w ρ pb vch ptr mb D N M s) {t : Int} (hwf : (Lit.int .i64 t).wf = true) : ∃ u, (Instr.lookup 99 (.map mb) (.int .i64 t) true).run Tryz.prog w = .ok (.tuple #[u, .bool (s.asks t).isSome]) w := by
  have hz : (zeroValue 86).run Tryz.prog w = .ok (.slice none 0 0) w := by simp [Tryz.zeroValue86]
  cases mb with
  | none =>
    have h1 := h.has t
    rw [h.map0 rfl] at h1
    rw [← h1]
    exact ⟨_, Maps.look_nil (P := Tryz.prog) (t := 99) (w := w) true keyedP Tryz.underlying99 hz (keyOf_int_mk Tryz.underlying3 hwf)⟩
  | some b =>
    obtain ⟨v, ps, h1, h2⟩ := (h.map1 b rfl).1.look_ok keyedP Tryz.underlying99 hz (zd := .held (.slice none 0 0)) (zp := []) rfl (keyOf_int_mk Tryz.underlying3 hwf)
    rw [h.has] at h1
    exact ⟨v, h1⟩
end
theorem drew_pipes {w : World} {ρ : Nat → Role} {pb : Home} {N : Nat} {s : St} (h : Pipes w ρ pb N s) : Pipes w ρ pb (N + 1) s := by
  obtain ⟨h0, vch, ptr, mb, D, h1⟩ := h
  exact ⟨h0, vch, ptr, mb, D, h1.mono (Nat.le_succ N) (by omega)⟩

set_option maxRecDepth 100000 in
set_option maxHeartbeats 6400000 in
theorem talk_any0 {w : World} {ρ : Nat → Role} {pb : Home} {N : Nat} {s : St} (h : Pipes w ρ pb N s) (hN : N ≤ 100000) (task : Int) (hwf : (Lit.int .i64 task).wf = true) {v : Value} {l : List Tk} (hl : TalksAt w v l) (hvo : 0 < l.length → ∀ g, v.ownBlock = some g → ρ g = .free)
    (draw : Int) (hd : -9223372036854775808 ≤ draw ∧ draw ≤ 9223372036854775807) :
    Calls Tryz.prog 106 #[.pointer (some ⟨pb.b, 8, none⟩), .int .i64 task, v, .int .i64 draw] w fun e w' => ∃ vw, e = .returned (.tuple #[.agg #[.int .i64 (Pp.talk s task l draw).case, .int .i64 (Pp.talk s task l draw).n], vw, .bool (Pp.talk s task l draw).waits, errV (Pp.talk s task l draw).err]) ∧
      TalkP w w' ρ pb N (Pp.talk s task l draw) vw := by
  obtain ⟨r, hr⟩ : ∃ r, Pp.talk s task l draw = r := ⟨_, rfl⟩
  have hrok : Ok r.st := hr ▸ h.1.talk task l draw
  rw [hr]
  obtain ⟨hok, vch, ptr, mb, D, hp⟩ := h
  obtain ⟨ao, cap, rfl, hc1, hc2⟩ := hl.slice
  have hlm : l.length ≤ 9223372036854775807 := by unfold maxLen at hc2; omega
  have hka : Keeps (fun _ => False) w (w.alloc (.cells #[.int .i64 0, .int .i64 0] 124)) := (Keeps.refl _ w).alloc _
  have hp1 := hp.keeps hka fun _ _ e => e.elim
  have hl1 := hl.keeps hka fun _ _ e => e
  obtain ⟨u, hlook⟩ := hp1.waits hwf
  have p1 := hp1.c1
  have r0 : (w.alloc (.cells #[.int .i64 0, .int .i64 0] 124)).cell? ⟨w.heap.size, 0, none⟩ = some (.int .i64 0) := by rw [World.cell?_alloc_at _ _ _ _ rfl]; rfl
  have r1 : (w.alloc (.cells #[.int .i64 0, .int .i64 0] 124)).cell? ⟨w.heap.size, 1, none⟩ = some (.int .i64 0) := by rw [World.cell?_alloc_at _ _ _ _ rfl]; rfl
  have f0 : ∀ j, (w.alloc (.cells #[.int .i64 0, .int .i64 0] 124)).frozen? ⟨w.heap.size, j, none⟩ = false := fun j => by rw [World.frozen?_alloc_at _ _ _ _ rfl]
  have hsz : w.heap.size + 1 ≤ (w.alloc (.cells #[.int .i64 0, .int .i64 0] 124)).heap.size := by simp
  have HDOM := Lib.hid hp.dom
  have HP1 := Lib.hid hp1
  have HL1 := Lib.hid hl1
  have HKA := Lib.hid hka
  have HR := Lib.hid hr
  have HROK := Lib.hid hrok
  have HVO := Lib.hid hvo
  have HWF := Lib.hid hwf
  have HD := Lib.hid hd
  have HOK := Lib.hid hok
  have HF0 := Lib.hid f0
  have g0 := f0 0
  have g1 := f0 1
  -- where nothing is done
  have HN : Hid (∀ W, Keeps (fun _ => False) (w.alloc (.cells #[.int .i64 0, .int .i64 0] 124)) W → ∀ (q : Pp.Told), q.st = s → q.wakes = [] → TalkI w W ρ pb N q (.slice none 0 0)) := Lib.hid fun W hW q h1 h2 => by
    refine ⟨⟨ρ, by rw [h1]; exact drew_pipes ⟨hok, vch, ptr, mb, D, hp1.keeps hW fun _ _ e => e.elim⟩, fun _ _ => rfl, fun g hg => by cases hg⟩, by rw [h2]; exact World.ownsRow_nil _ _ _ _, (hka.trans hW).mono fun _ _ e => e.elim, hW.cell_of r0 id, hW.cell_of r1 id, fun j => by rw [hW.frozen (p := ⟨w.heap.size, j, none⟩) (by simp) id]; exact f0 j⟩
  clear hp hp1 hl1 hka hr hrok hvo hwf hd hok f0 hl
  go_enter Tryz.func106, Tryz.ntmps106
  cases hw : (s.asks task).isSome with
  | true =>
    rw [hw] at hlook
    have HRE : Hid (r = ⟨s, 0, 0, [], false, 6⟩) := Lib.hid (by rw [← HR.out]; unfold Pp.talk; rw [if_pos hw])
    clear hw
    go_wp2_with fail
    have hI := HN.out _ (Keeps.refl _ _) r (by rw [HRE.out]) (by rw [HRE.out])
    have q0 := hI.c0
    have q1 := hI.c1
    refine bodyPost_ret (v := .tuple #[.agg #[.int .i64 0, .int .i64 0], .slice none 0 0, .bool false, .iface 37 (.int .i64 6)]) (by simp [results, Tryz.results106, go_sem, q0, q1] <;> rfl) rfl ?_
    exact ⟨_, by rw [HRE.out]; first | rfl | simp only [hev], hI.fin0⟩
  | false =>
    rw [hw] at hlook
    by_cases h6 : 6 < l.length
    · have HRE : Hid (r = ⟨s, 0, 0, [], false, 4⟩) := Lib.hid (by rw [← HR.out]; unfold Pp.talk; rw [if_neg (by rw [hw]; decide), if_pos h6])
      have h6i : (6 : Int) < (l.length : Int) := by omega
      clear hw
      go_wp2_with fail
      have hI := HN.out _ (Keeps.refl _ _) r (by rw [HRE.out]) (by rw [HRE.out])
      have q0 := hI.c0
      have q1 := hI.c1
      refine bodyPost_ret (v := .tuple #[.agg #[.int .i64 0, .int .i64 0], .slice none 0 0, .bool false, .iface 37 (.int .i64 4)]) (by simp [results, Tryz.results106, go_sem, q0, q1] <;> rfl) rfl ?_
      exact ⟨_, by rw [HRE.out]; first | rfl | simp only [hev], hI.fin0⟩
    · have hrr : r = if (Pp.other s.chs.length l 0 (-1)).2 ≠ 0 then ⟨s, 0, 0, [], false, (Pp.other s.chs.length l 0 (-1)).2⟩ else (Pp.talk s task l draw) := by
        rw [HR.out]
        split
        · next h9 => rw [← HR.out]; unfold Pp.talk; rw [if_neg (by rw [hw]; decide), if_neg h6, if_pos h9]
        · rfl
      have HRR := Lib.hid hrr
      have HOT := Lib.hid (other_any HP1.out HL1.out (by omega))
      have h6i : ¬ (6 : Int) < (l.length : Int) := by omega
      have HFINE : Hid ((Pp.other s.chs.length l 0 (-1)).2 = 0 → Fine s.chs.length l) := Lib.hid other_fine
      have HGOOD : Hid ((Pp.other s.chs.length l 0 (-1)).2 = 0 → (Pp.other s.chs.length l 0 (-1)).1 < 0 → ∀ x ∈ l, x.good s.chs.length) := Lib.hid fun e1 e2 => other_good e1 e2 (by decide)
      have HTALK : Hid ((Pp.other s.chs.length l 0 (-1)).2 = 0 → r = if 0 < (frees s.chs l 0).length then
            (let k := (frees s.chs l 0).getD (drawn draw (frees s.chs l 0).length) 0
            let g := doT s (l.getD k ⟨0, 0, 0⟩)
            if g.err ≠ 0 then ⟨g.st, 0, 0, [], false, g.err⟩ else ⟨g.st, (k : Nat), g.n, g.wakes, false, 0⟩)
          else if 0 ≤ (Pp.other s.chs.length l 0 (-1)).1 then ⟨s, (Pp.other s.chs.length l 0 (-1)).1, 0, [], false, 0⟩
          else ⟨Pp.wait s task l, 0, 0, [], true, 0⟩) := Lib.hid fun e => by
        rw [← HR.out]; unfold Pp.talk; rw [if_neg (by rw [hw]; decide), if_neg h6, if_neg (by rw [e]; decide)]
      have HNONE : Hid (s.asks task = none) := Lib.hid (by cases h9 : s.asks task with
        | none => rfl
        | some m => rw [h9] at hw; cases hw)
      clear hw hrr
      generalize Pp.other s.chs.length l 0 (-1) = oe at *
      obtain ⟨o, e⟩ := oe
      simp only at HOT HRR HFINE HGOOD HTALK
      by_cases he : e = 0
      · subst he
        have HF2 := Lib.hid (HFINE.out rfl)
        have HG2 := Lib.hid (HGOOD.out rfl)
        have HT2 := Lib.hid (HTALK.out rfl)
        clear HFINE HGOOD HTALK HRR
        have heV : errV 0 = .nilIface := rfl
        rw [heV] at HOT
        clear heV
        go_wp2_with fail
        refine HOT.out.mono ?_
        rintro e w2 ⟨rfl, hk2⟩
        have HP2 := Lib.hid (HP1.out.keeps hk2 fun _ _ e => e.elim)
        have HL2 := Lib.hid (HL1.out.keeps hk2 fun _ _ e => e)
        have HK2 := Lib.hid hk2
        have HFR := Lib.hid (free_any HP2.out HL2.out (by omega) HF2.out)
        clear hk2
        go_wp2_with fail
        refine HFR.out.mono ?_
        rintro e w3 ⟨fv, rfl, hof, hk3⟩
        have HOF := Lib.hid hof
        have HP3 := Lib.hid (HP2.out.keeps hk3 fun _ _ e => e.elim)
        have HL3 := Lib.hid (HL2.out.keeps hk3 fun _ _ e => e)
        have HK3 := Lib.hid (HK2.out.trans hk3)
        obtain ⟨af, cf, hfv⟩ := hof.slice
        rw [List.length_map] at hfv
        subst hfv
        clear hof hk3
        by_cases hfr : 0 < (frees s.chs l 0).length
        · have hT2 := HT2.out
          rw [if_pos hfr] at hT2
          have hdl : drawn draw (frees s.chs l 0).length < (frees s.chs l 0).length := by
            unfold drawn
            have h8 : draw % ((frees s.chs l 0).length : Int) < ((frees s.chs l 0).length : Int) := Int.emod_lt_of_pos _ (by omega)
            have h9 : 0 ≤ draw % ((frees s.chs l 0).length : Int) := Int.emod_nonneg _ (by omega)
            omega
          have hlen6 : (frees s.chs l 0).length ≤ 6 := Nat.le_trans (frees_le s.chs l 0) (by omega)
          have HDR := Lib.hid (drawn_any w3 draw (frees s.chs l 0).length hfr HD.out (by omega))
          have hfrI : (0 : Int) < ((frees s.chs l 0).length : Int) := by omega
          generalize hkd : drawn draw (frees s.chs l 0).length = kd at *
          obtain ⟨kk, hkk⟩ : ∃ kk, (frees s.chs l 0)[kd]? = some kk := ⟨_, List.getElem?_eq_getElem hdl⟩
          have hgd : (frees s.chs l 0).getD kd 0 = kk := by rw [List.getD_eq_getElem?_getD, hkk]; rfl
          rw [hgd] at hT2
          obtain ⟨_, x, hx, hxf⟩ := mem_frees (List.mem_of_getElem? hkk)
          rw [Nat.sub_zero] at hx
          have hld : l.getD kk ⟨0, 0, 0⟩ = x := by rw [List.getD_eq_getElem?_getD, hx]; rfl
          rw [hld] at hT2
          have hx0 : 0 ≤ x.chan := by
            rcases HF2.out x (List.mem_of_getElem? hx) with h9 | h9
            · unfold isFree at hxf; simp [h9] at hxf
            · exact h9.1.1
          obtain ⟨kc, c, hxc, hcg, _, _⟩ := isFree_chan hxf hx0
          obtain ⟨xw, xcc, xn⟩ := x
          simp only at hxc
          subst hxc
          -- the place's number, and the talk
          obtain ⟨a0, n0, c0, hv0, hn0, hnc0, hcc0, hxx⟩ := HOF.out.ints
          rw [Value.slice.injEq] at hv0
          obtain ⟨rfl, rfl, rfl⟩ := hv0
          obtain ⟨vb, vo, rfl, hvb, hcell⟩ := hxx hfr
          have hck := hcell kd hdl
          have hgm : ((frees s.chs l 0).map fun (j : Nat) => (j : Int)).getD kd 0 = (kk : Int) := by rw [List.getD_eq_getElem?_getD, List.getElem?_map, hkk]; rfl
          rw [hgm] at hck
          obtain ⟨tb, tq, rfl, htb, t1, t2, t3⟩ := HL3.out.at hx
          simp only at t1 t2 t3
          have hkl := (List.getElem?_eq_some_iff.1 hx).1
          have hkdi : (0 : Int) ≤ (kd : Int) ∧ (kd : Int) < ((frees s.chs l 0).length : Int) := by omega
          have hkki : (0 : Int) ≤ (kk : Int) ∧ (kk : Int) < (l.length : Int) := by omega
          have HDO := Lib.hid (do_any HP3.out HOK.out (by omega) xw xn hcg)
          have HT3 := Lib.hid hT2
          clear hT2 hcell hxx hnc0 hcc0 hn0 hgm hx0 hxf hld hx hgd hkk hkd hcg htb hvb HOF HFR
          generalize (frees s.chs l 0).length = nf at *
          generalize doT s ⟨xw, (kc : Int) + 1, xn⟩ = G at *
          go_wp2_with fail
          refine HDR.out.mono ?_
          rintro e w4 ⟨rfl, rfl⟩
          go_wp2_with fail
          refine HDO.out.mono ?_
          rintro e w5 ⟨vw, rfl, hg⟩
          have HGT := Lib.hid hg
          have hfree : ρ w.heap.size = .free := Classical.byContradiction fun e => by
            have := HDOM.out _ e
            omega
          have hb0 : w.heap.size < w3.heap.size := Nat.lt_of_lt_of_le (by simp) HK3.out.size
          have z0 := hg.keep.cell_of (HK3.out.cell_of r0 id) (fun e => e hfree)
          have z1 := hg.keep.cell_of (HK3.out.cell_of r1 id) (fun e => e hfree)
          have hz : ∀ j, w5.frozen? ⟨w.heap.size, j, none⟩ = false := fun j => by
            rw [hg.keep.frozen (p := ⟨w.heap.size, j, none⟩) hb0 (fun e => e hfree), HK3.out.frozen (p := ⟨w.heap.size, j, none⟩) (by simp) id]; exact HF0.out j
          have y0 := hz 0
          have y1 := hz 1
          have HI : Hid (∀ (q : Pp.Told) (u : Value), r = q → q.st = G.st → (u = vw ∧ q.wakes = G.wakes) ∨ (u = .slice none 0 0 ∧ q.wakes = []) → TalkI w w5 ρ pb N r u) := Lib.hid fun q u e1 e2 e3 => by
            obtain ⟨D5, h5⟩ := HGT.out.at_
            have hok5 := HROK.out
            rw [e1, e2] at hok5
            have hbase : w.heap.size + 1 ≤ w3.heap.size := hb0
            refine ⟨⟨ρ, ?_, fun _ _ => rfl, fun g hg2 => ?_⟩, ?_, ?_, z0, z1, hz⟩
            · rw [e1, e2]; exact ⟨hok5, vch, ptr, mb, D5, h5.mono (Nat.le_succ N) (by omega)⟩
            · rcases e3 with ⟨rfl, _⟩ | ⟨rfl, _⟩
              · have h7 := (World.ownsRow.lt HGT.out.wk g hg2).1
                exact Classical.byContradiction fun e => by
                  have := HDOM.out g e
                  omega
              · cases hg2
            · rw [e1]
              rcases e3 with ⟨rfl, e4⟩ | ⟨rfl, e4⟩
              · rw [e4]; exact own_mono HGT.out.wk hbase
              · rw [e4]; exact World.ownsRow_nil _ _ _ _
            · exact ((HKA.out.trans HK3.out).mono fun _ _ e => e.elim).trans HGT.out.keep
          clear hg hz hfree hb0
          by_cases hge : G.err = 0
          · have HRE : Hid (r = ⟨G.st, (kk : Nat), G.n, G.wakes, false, 0⟩) := Lib.hid (by have := HT3.out; rwa [if_neg (by rw [hge]; decide)] at this)
            have hev : errV G.err = .nilIface := by rw [hge]; rfl
            rw [hev]
            clear hge
            obtain ⟨av, cv, hvw⟩ := own_sliceK HGT.out.wk
            subst hvw
            go_wp2_with fail
            obtain ⟨hT, q0, q1⟩ := (HI.out _ _ HRE.out rfl (Or.inl ⟨rfl, rfl⟩)).fin HDOM.out (.int .i64 (kk : Nat)) (.int .i64 G.n)
            refine bodyPost_ret (v := .tuple #[.agg #[.int .i64 (kk : Nat), .int .i64 G.n], .slice av G.wakes.length cv, .bool false, .nilIface]) (by simp [results, Tryz.results106, go_sem, q0, q1] <;> rfl) rfl ?_
            exact ⟨_, by rw [HRE.out]; first | rfl | simp only [hev], hT⟩
          · have HRE : Hid (r = ⟨G.st, 0, 0, [], false, G.err⟩) := Lib.hid (by have := HT3.out; rwa [if_pos hge] at this)
            have hev : errV G.err = .iface 37 (.int .i64 G.err) := by unfold errV; rw [if_neg hge]
            rw [hev]
            go_wp2_with fail
            obtain ⟨hT, q0, q1⟩ := (HI.out _ _ HRE.out rfl (Or.inr ⟨rfl, rfl⟩)).fin HDOM.out (.int .i64 0) (.int .i64 0)
            refine bodyPost_ret (v := .tuple #[.agg #[.int .i64 0, .int .i64 0], .slice none 0 0, .bool false, .iface 37 (.int .i64 G.err)]) (by simp [results, Tryz.results106, go_sem, q0, q1] <;> rfl) rfl ?_
            exact ⟨_, by rw [HRE.out]; first | rfl | simp only [hev], hT⟩
        · have hf0 : ¬ (0 : Int) < ((frees s.chs l 0).length : Int) := by omega
          have hT2 := HT2.out
          rw [if_neg hfr] at hT2
          have z0 := HK3.out.cell_of r0 id
          have z1 := HK3.out.cell_of r1 id
          have y0 : w3.frozen? ⟨w.heap.size, 0, none⟩ = false := by rw [HK3.out.frozen (p := ⟨w.heap.size, 0, none⟩) (by simp) id]; exact g0
          have y1 : w3.frozen? ⟨w.heap.size, 1, none⟩ = false := by rw [HK3.out.frozen (p := ⟨w.heap.size, 1, none⟩) (by simp) id]; exact g1
          clear hfr
          generalize (frees s.chs l 0).length = nf at *
          by_cases ho : 0 ≤ o
          · rw [if_pos ho] at hT2
            have HRE := Lib.hid hT2
            clear hT2
            go_wp2_with fail
            obtain ⟨hT, q0, q1⟩ := (HN.out _ HK3.out r (by rw [HRE.out]) (by rw [HRE.out])).fin HDOM.out (.int .i64 o) (.int .i64 0)
            refine bodyPost_ret (v := .tuple #[.agg #[.int .i64 o, .int .i64 0], .slice none 0 0, .bool false, .nilIface]) (by simp [results, Tryz.results106, go_sem, q0, q1] <;> rfl) rfl ?_
            exact ⟨_, by rw [HRE.out]; first | rfl | simp only [hev], hT⟩
          · rw [if_neg ho] at hT2
            have HRE := Lib.hid hT2
            have HWT := Lib.hid (wait_any0 HP3.out (by omega) (by omega) task HWF.out HL3.out HVO.out (HG2.out (by omega)) (by omega))
            have hfree : ρ w.heap.size = .free := Classical.byContradiction fun e => by
              have := HDOM.out _ e
              omega
            have hb0 : w.heap.size < w3.heap.size := Nat.lt_of_lt_of_le (by simp) HK3.out.size
            have HFREE := Lib.hid hfree
            have HBB := Lib.hid hb0
            clear hT2 z0 z1 y0 y1 hfree hb0
            go_wp2_with fail
            refine HWT.out.mono ?_
            rintro e w5 ⟨rfl, ⟨ρ', mb', D', h5, hx5⟩, hk5⟩
            have z0 := hk5.cell_of (HK3.out.cell_of r0 id) (fun e => e HFREE.out)
            have z1 := hk5.cell_of (HK3.out.cell_of r1 id) (fun e => e HFREE.out)
            have hz : ∀ j, w5.frozen? ⟨w.heap.size, j, none⟩ = false := fun j => by
              rw [hk5.frozen (p := ⟨w.heap.size, j, none⟩) HBB.out (fun e => e HFREE.out), HK3.out.frozen (p := ⟨w.heap.size, j, none⟩) (by simp) id]; exact HF0.out j
            have y0 := hz 0
            have y1 := hz 1
            have HI : Hid (TalkI w w5 ρ pb N r (.slice none 0 0)) := Lib.hid (by
              have hok5 := HROK.out
              rw [HRE.out] at hok5 ⊢
              exact ⟨⟨ρ', ⟨hok5, vch, ptr, mb', D', h5.mono (Nat.le_refl _) (by omega)⟩, fun g hg => hx5 g (Nat.lt_of_lt_of_le hg HBB.out), fun g hg => by cases hg⟩, World.ownsRow_nil _ _ _ _, ((HKA.out.trans HK3.out).mono fun _ _ e => e.elim).trans hk5, z0, z1, hz⟩)
            clear h5 hx5 hk5 hz
            go_wp2_with fail
            obtain ⟨hT, q0, q1⟩ := (HI.out).fin HDOM.out (.int .i64 0) (.int .i64 0)
            refine bodyPost_ret (v := .tuple #[.agg #[.int .i64 0, .int .i64 0], .slice none 0 0, .bool true, .nilIface]) (by simp [results, Tryz.results106, go_sem, q0, q1] <;> rfl) rfl ?_
            exact ⟨_, by rw [HRE.out]; first | rfl | simp only [hev], hT⟩
      · have HRE : Hid (r = ⟨s, 0, 0, [], false, e⟩) := Lib.hid (by have := HRR.out; rwa [if_pos he] at this)
        have heV : errV e = .iface 37 (.int .i64 e) := by unfold errV; rw [if_neg he]
        rw [heV] at HOT
        clear heV
        go_wp2_with fail
        refine HOT.out.mono ?_
        rintro e' w2 ⟨rfl, hk2⟩
        have HK2 := Lib.hid hk2
        have z0 := hk2.cell_of r0 id
        have z1 := hk2.cell_of r1 id
        have y0 : w2.frozen? ⟨w.heap.size, 0, none⟩ = false := by rw [hk2.frozen (p := ⟨w.heap.size, 0, none⟩) (by simp) id]; exact g0
        have y1 : w2.frozen? ⟨w.heap.size, 1, none⟩ = false := by rw [hk2.frozen (p := ⟨w.heap.size, 1, none⟩) (by simp) id]; exact g1
        clear hk2
        go_wp2_with fail
        have hev : errV e = .iface 37 (.int .i64 e) := by unfold errV; rw [if_neg he]
        obtain ⟨hT, q0, q1⟩ := (HN.out _ HK2.out r (by rw [HRE.out]) (by rw [HRE.out])).fin HDOM.out (.int .i64 0) (.int .i64 0)
        refine bodyPost_ret (v := .tuple #[.agg #[.int .i64 0, .int .i64 0], .slice none 0 0, .bool false, .iface 37 (.int .i64 e)]) (by simp [results, Tryz.results106, go_sem, q0, q1] <;> rfl) rfl ?_
        exact ⟨_, by rw [HRE.out]; first | rfl | simp only [hev], hT⟩
theorem talk_any {w : World} {ρ : Nat → Role} {pb : Home} {N : Nat} {s : St} (h : Pipes w ρ pb N s) (hN : N ≤ 100000) (task : Int) (hwf : (Lit.int .i64 task).wf = true) {v : Value} {l : List Tk} (hl : TalksAt w v l) (hvo : ∀ g, v.ownBlock = some g → ρ g = .free)
    (draw : Int) (hd : -9223372036854775808 ≤ draw ∧ draw ≤ 9223372036854775807) :
    Calls Tryz.prog 106 #[.pointer (some ⟨pb.b, 8, none⟩), .int .i64 task, v, .int .i64 draw] w fun e w' => ∃ vw, e = .returned (.tuple #[.agg #[.int .i64 (Pp.talk s task l draw).case, .int .i64 (Pp.talk s task l draw).n], vw, .bool (Pp.talk s task l draw).waits, errV (Pp.talk s task l draw).err]) ∧
      TalkP w w' ρ pb N (Pp.talk s task l draw) vw :=
  talk_any0 h hN task hwf hl (fun _ => hvo) draw hd
end Go.Proofs.YtnjdmijcoadidaaGreatDoor

namespace Go.Proofs.YtnjdmijcoadidaaGreatDoor
open Go.RowKit Go.Maps Pp

theorem ChC.shutS {w : World} {ρ : Nat → Role} {k cb rb sb : Nat} {v1 v2 : Value} {c : Ch} (h : ChC w ρ k cb rb sb v1 v2 c) : ChC (w.setCell ⟨cb, 1, none⟩ (.bool true)) ρ k cb rb sb v1 v2 { c with shut := true } := by
  have hs := keeps_set1 w ⟨cb, 1, none⟩ (.bool true)
  have hm : ∀ g q, ρ g = q → q ≠ .chan k → ¬ g = cb := fun g q hq h3 e => h3 (by rw [← hq, e]; exact h.p0)
  refine ⟨?_, World.cell?_setCell_same _ _ _ h.c1, ?_, ?_, fun j => by rw [World.frozen?_setCell]; exact h.z j, ?_, Nat.lt_of_lt_of_le h.lt hs.size, h.r1.keeps hs fun b hb => hm b _ (h.p3 b hb) (by simp), h.r2.keeps hs fun b hb => hm b _ (h.p4 b hb) (by simp), h.p0, h.p1, h.p2, h.p3, h.p4⟩
  · rw [cell_set_other (off_ne (by decide) cb)]; exact h.c0
  · rw [cell_set_other (off_ne (by decide) cb)]; exact h.c2
  · rw [cell_set_other (off_ne (by decide) cb)]; exact h.c3
  · exact h.ring.keeps hs (hm _ _ h.p1 (by simp)) (hm _ _ h.p2 (by simp))
/-- Whose row it was, nobody's it is. -/
def freeOf (ρ : Nat → Role) (v : Value) : Nat → Role := fun b => if v.ownBlock = some b then .free else ρ b
theorem freeOf_other {ρ : Nat → Role} {v : Value} {k : Nat} (hv : ∀ b, v.ownBlock = some b → ρ b = .recvs k) {b : Nat} (hb : ρ b ≠ .recvs k) : freeOf ρ v b = ρ b := by
  unfold freeOf
  rw [if_neg fun e => hb (hv b e)]
theorem freeOf_own {ρ : Nat → Role} {v : Value} {b : Nat} (h : v.ownBlock = some b) : freeOf ρ v b = .free := if_pos h
theorem freeOf_or (ρ : Nat → Role) (v : Value) (b : Nat) : freeOf ρ v b = ρ b ∨ freeOf ρ v b = .free := by
  unfold freeOf
  split
  · exact Or.inr rfl
  · exact Or.inl rfl
theorem freeOf_sub {ρ : Nat → Role} {v : Value} {b : Nat} (h : freeOf ρ v b ≠ .free) : ρ b ≠ .free := by
  rcases freeOf_or ρ v b with e | e
  · rw [← e]; exact h
  · exact absurd e h
theorem PipesAt.freed {w : World} {ρ : Nat → Role} {pb : Home} {vch : Value} {ptr : List Nat} {mb : Option Nat} {D : DataW Value} {N M : Nat} {s : St} (h : PipesAt w ρ pb vch ptr mb D N M s) {k : Nat} {v : Value} (hv : ∀ b, v.ownBlock = some b → ρ b = .recvs k)
    (hk : ∀ cb c, ptr[k]? = some cb → s.chs[k]? = some c → ∃ rb sb v1, ChC w ρ k cb rb sb v1 (.slice none 0 0) c) : PipesAt w (freeOf ρ v) pb vch ptr mb D N M s := by
  have key : ∀ {b r}, ρ b = r → r ≠ .recvs k → freeOf ρ v b = r := fun {b r} hr hne => by rw [freeOf_other hv (by rw [hr]; exact hne), hr]
  refine ⟨h.c0, h.c1, h.z, h.row, h.len, h.many, fun j cb c hcb hc => ?_, h.rows, h.map0, fun b hb => ⟨(h.map1 b hb).1, key (h.map1 b hb).2 (by simp)⟩, h.has, fun t l hl => ?_, key h.p0 (by simp), fun b hb => key (h.p1 b hb) (by simp), fun b hb => h.dom b (freeOf_sub hb), h.rest⟩
  · by_cases e : j = k
    · subst e
      obtain ⟨rb, sb, v1, hx⟩ := hk cb c hcb hc
      exact ⟨rb, sb, v1, _, hx.c0, hx.c1, hx.c2, hx.c3, hx.z, hx.ring, hx.lt, hx.r1, hx.r2, key hx.p0 (by simp), key hx.p1 (by simp), key hx.p2 (by simp), fun b hb => key (hx.p3 b hb) (by simp), fun b hb => by cases hb⟩
    · obtain ⟨rb, sb, v1, v2, hx⟩ := h.chs j cb c hcb hc
      exact ⟨rb, sb, v1, v2, hx.c0, hx.c1, hx.c2, hx.c3, hx.z, hx.ring, hx.lt, hx.r1, hx.r2, key hx.p0 (by simp), key hx.p1 (by simp), key hx.p2 (by simp), fun b hb => key (hx.p3 b hb) (by simp), fun b hb => key (hx.p4 b hb) (by simp [e])⟩
  · obtain ⟨h1, u, h2, h3, h4⟩ := h.talk t l hl
    exact ⟨h1, u, h2, h3, fun b hb => key (h4 b hb) (by simp)⟩
/-- The world behind both stores. -/
def shutW (w : World) (cb : Nat) : World := (w.setCell ⟨cb, 1, none⟩ (.bool true)).setCell ⟨cb, 3, none⟩ (.slice none 0 0)
theorem PipesAt.shuts {w : World} {ρ : Nat → Role} {pb : Home} {vch : Value} {ptr : List Nat} {mb : Option Nat} {D : DataW Value} {N M : Nat} {s : St} (h : PipesAt w ρ pb vch ptr mb D N M s) {k cb rb sb : Nat} {v1 v2 : Value} {c : Ch} (hcb : ptr[k]? = some cb) (hc : s.chs[k]? = some c) (hx : ChC w ρ k cb rb sb v1 v2 c) :
    PipesAt (shutW w cb) (freeOf ρ v2) pb vch ptr mb D N M ⟨s.chs.modify k fun c => { c with shut := true, recvs := [] }, s.asks⟩ ∧ Keeps (fun b => b = cb) w (shutW w cb) := by
  have hk : Keeps (fun b => b = cb) w (shutW w cb) := ((Keeps.refl (fun b => b = cb) w).setCell (p := ⟨cb, 1, none⟩) (Or.inl rfl) _).setCell (p := ⟨cb, 3, none⟩) (Or.inl rfl) _
  have hx2 : ChC (shutW w cb) ρ k cb rb sb v1 (.slice none 0 0) { c with shut := true, recvs := [] } := hx.shutS.recvs (Keeps.refl _ _) (rowW_nil _) fun b hb => by cases hb
  refine ⟨?_, hk⟩
  have hp : PipesAt (shutW w cb) ρ pb vch ptr mb D N M ⟨s.chs.set k { c with shut := true, recvs := [] }, s.asks⟩ := by
    refine h.put hk (fun _ _ => rfl) (fun g hg => Nat.lt_of_lt_of_le (h.dom g hg) hk.size) k (fun b e => Or.inr (by rw [e, hx.p0]; rfl)) (fun cb' hcb' => ?_) ⟨(h.rows k c hc).1, Nat.zero_le _⟩ (Nat.le_refl _)
    rw [hcb] at hcb'
    cases hcb'
    exact ⟨_, _, _, _, hx2⟩
  rw [modify_set _ hc]
  refine hp.freed hx.p4 fun cb' c' hcb' hc' => ?_
  rw [hcb] at hcb'
  cases hcb'
  rw [List.getElem?_set_self (List.getElem?_eq_some_iff.1 hc).1] at hc'
  cases hc'
  exact ⟨_, _, _, hx2⟩
theorem cellsK_append (a b : List Wk) : cellsK (a ++ b) = cellsK a ++ cellsK b := by simp [cellsK]
theorem info_wake : (Tryz.prog.info? 162).map (fun i => (i.zero, i.size, i.bytes)) = some (some (.agg #[.int .i64 0, .int .i64 0, .int .i64 0]), 3, 24) := by kernel_rfl
/-- 'wakes = append(wakes, w)'. -/
theorem wpList_appendK {ops : Array Oper} {rest : List Oper} {o : Oper} {a : Act} {Q : Exit → Act → World → Prop} (hgd : o.guard = none) (s x : Operand)
    (ho : o.op = .call { callee := .builtin .append, args := #[s, x], argTypes := #[157, 157] }) (w : World) (B : Nat) (v : Value) (l : List Wk) (y : Wk) (hown : w.ownsRow B 162 3 v l.length (cellsK l)) (hs : a.eval s = v) {b : Nat} (hb : b = w.heap.size)
    (hx : a.eval x = .slice (some ⟨b, 0, none⟩) 1 1) (hl : l.length ≤ 100000000) (hB : B ≤ w.heap.size)
    (h : ∀ ao' cap' w', w'.ownsRow B 162 3 (.slice ao' (l ++ [y]).length cap') (l ++ [y]).length (cellsK (l ++ [y])) → Keeps (fun b => v.ownBlock = some b) w w' →
      wpList Tryz.prog ops Q rest (a.put o.dst (.slice ao' (l ++ [y]).length cap')) w') : wpList Tryz.prog ops Q (o :: rest) a (w.alloc (.cells #[.int .i64 y.task, .int .i64 (y.case : Int), .int .i64 y.n] 162)) := by
  subst hb
  obtain ⟨i0, hi, hz0, hz1, hz2⟩ := tinfoP info_wake
  have hnew : ∀ j u, [Value.int .i64 y.task, Value.int .i64 (y.case : Int), Value.int .i64 y.n][j]? = some u → (w.alloc (.cells #[.int .i64 y.task, .int .i64 (y.case : Int), .int .i64 y.n] 162)).cell? ((⟨w.heap.size, 0, none⟩ : Addr).add j) = some u := fun j u hu => by
    rw [addr_addP, World.cell?_alloc_at _ _ _ _ rfl]
    rcases j with _ | _ | _ | j
    · exact hu
    · exact hu
    · exact hu
    · simp at hu
  refine wpList_append_own_at _ hgd s x 157 ho B 162 i0 (.agg #[.int .i64 0, .int .i64 0, .int .i64 0]) 3 24 Tryz.underlying157 hi hz0 hz1 hz2 rfl (by decide) v l.length (cellsK l) hs (World.ownsRow.alloc hown _) ⟨w.heap.size, 0, none⟩ 1 1 [.int .i64 y.task, .int .i64 (y.case : Int), .int .i64 y.n] hx rfl
    hnew (fun u hu => by simp at hu; rcases hu with rfl | rfl | rfl <;> rfl) (by unfold maxLen; omega) (by omega) (by simp; omega) ?_
  intro v' w' h1 h2 _ h4
  have hO : w'.ownsRow B 162 3 v' (l ++ [y]).length (cellsK (l ++ [y])) := by
    rw [cellsK_append, List.length_append]
    exact h1
  obtain ⟨ao', cap', rfl⟩ := own_sliceK hO
  exact h _ _ _ hO (keeps_append h2 fun k e => e)
section
variable {w w' : World} {ρ : Nat → Role} {pb : Home} {vch : Value} {ptr : List Nat} {mb : Option Nat} {D : DataW Value} {N M : Nat} {s : St}
set_option maxRecDepth 100000 in
/-- Whether a task waits, whatever is drawn. -/
theorem PipesAt.waitsN (h : PipesAt w ρ pb vch ptr mb D N M s) {t : Int} (hwf : (Lit.int .i64 t).wf = true) : ∃ u, ∀ z, (Instr.lookup 99 (.map mb) (.int .i64 t) true).run Tryz.prog (w.drewN z) = .ok (.tuple #[u, .bool (s.asks t).isSome]) (w.drewN z) := by
  have hz : ∀ w : World, (zeroValue 86).run Tryz.prog w = .ok (.slice none 0 0) w := fun w => by simp [Tryz.zeroValue86]
  cases mb with
  | none =>
    have h1 := h.has t
    rw [h.map0 rfl] at h1
    rw [← h1]
    exact ⟨_, fun z => Maps.look_nil (P := Tryz.prog) (t := 99) (w := w.drewN z) true keyedP Tryz.underlying99 (hz _) (keyOf_int_mk Tryz.underlying3 hwf)⟩
  | some b =>
    have ho := (h.map1 b rfl).1
    have hd : ∀ z, (w.drewN z).ownsMap Tryz.prog 3 heldE b N D := fun z => (keeps_drewN (Keeps.refl (fun _ => False) w) z).map ho id
    obtain ⟨v, ps, h1, h2⟩ := (hd 0).look_ok keyedP Tryz.underlying99 (hz _) (zd := .held (.slice none 0 0)) (zp := []) rfl (keyOf_int_mk Tryz.underlying3 hwf)
    refine ⟨v, fun z => ?_⟩
    obtain ⟨v', ps', h3, h4⟩ := (hd z).look_ok keyedP Tryz.underlying99 (hz _) (zd := .held (.slice none 0 0)) (zp := []) rfl (keyOf_int_mk Tryz.underlying3 hwf)
    have e : v' = v := by
      have r : DataW.held v' = DataW.held v := (congrArg Prod.fst (Option.some.inj h4)).trans (congrArg Prod.fst (Option.some.inj h2)).symm
      injection r
    rw [e, h.has] at h3
    exact h3
end
end Go.Proofs.YtnjdmijcoadidaaGreatDoor

namespace Go.Proofs.YtnjdmijcoadidaaGreatDoor
open Go.RowKit Go.Maps Pp

/-- What comes of making a channel: its number, what is wrong, and the channels. -/
structure Made where
  n : Int
  err : Int
  st : Pp.St
def makeV (s : Pp.St) (size : Int) : Made :=
  if size < 0 ∨ 8 < size then ⟨0, 2, s⟩ else if 32 ≤ s.chs.length then ⟨0, 12, s⟩ else ⟨(s.chs.length : Int) + 1, 0, ⟨s.chs ++ [newCh size.toNat], s.asks⟩⟩
theorem info_pch : (Tryz.prog.info? 180).map (fun i => (i.zero, i.size, i.bytes)) = some (some (.pointer none), 1, 8) := by kernel_rfl
/-- The roles of a new channel's blocks. -/
def roleNew (ρ : Nat → Role) (s0 k hi : Nat) (b : Nat) : Role := if b < s0 then ρ b else if b = s0 then .slots k else if b = s0 + 1 then .ring k else if b = s0 + 2 then .chan k else if b < hi then .chans else ρ b
/-- One more channel in memory. -/
theorem PipesAt.grow {w w1 w4 : World} {ρ : Nat → Role} {pb : Home} {vch v' : Value} {ptr : List Nat} {mb : Option Nat} {D : DataW Value} {N M : Nat} {s : St} (h : PipesAt w ρ pb vch ptr mb D N M s) {n : Nat} (hm : s.chs.length < 32)
    (hb1 : Below w.heap.size w w1) (hs1 : w1.heap.size = w.heap.size + 2) (hr : RingL eI w1 (w.heap.size + 1) w.heap.size n []) {tc te : TypeId}
    (hg : ((w1.alloc (.cells #[.pointer (some ⟨w.heap.size + 1, 0, none⟩), .bool false, .slice none 0 0, .slice none 0 0] tc)).alloc (.cells #[.pointer (some ⟨w.heap.size + 2, 0, none⟩)] te)).grownBy w4 vch.ownBlock)
    (ho : w4.ownsRow 0 180 1 v' (ptr.length + 1) ((ptr.map fun b => .pointer (some ⟨b, 0, none⟩)) ++ [.pointer (some ⟨w.heap.size + 2, 0, none⟩)])) (hv : ∀ g, v'.ownBlock = some g → vch.ownBlock = some g ∨ w.heap.size + 3 ≤ g) :
    PipesAt (w4.setCell ⟨pb.b, 8, none⟩ v') (roleNew ρ w.heap.size s.chs.length w4.heap.size) pb v' (ptr ++ [w.heap.size + 2]) mb D N M ⟨s.chs ++ [newCh n], s.asks⟩ ∧
      Keeps (fun b => ρ b ≠ .free) w (w4.setCell ⟨pb.b, 8, none⟩ v') := by
  obtain ⟨w2, hw2⟩ : ∃ w2, w2 = w1.alloc (.cells #[.pointer (some ⟨w.heap.size + 1, 0, none⟩), .bool false, .slice none 0 0, .slice none 0 0] tc) := ⟨_, rfl⟩
  rw [← hw2] at hg
  have hs2 : w2.heap.size = w.heap.size + 3 := by rw [hw2]; simp; omega
  have hkb : Keeps (fun b => vch.ownBlock = some b ∨ b = pb.b) w2 (w4.setCell ⟨pb.b, 8, none⟩ v') :=
    (((Keeps.refl (fun b => vch.ownBlock = some b ∨ b = pb.b) w2).alloc _).trans (Keeps.of_grownBy hg fun k _ e => Or.inl e)).setCell (p := ⟨pb.b, 8, none⟩) (Or.inl (Or.inr rfl)) v'
  have hka : Keeps (fun _ => False) w w2 := by rw [hw2]; exact (Keeps.of_new hb1).alloc _
  have hk : Keeps (fun b => vch.ownBlock = some b ∨ b = pb.b) w (w4.setCell ⟨pb.b, 8, none⟩ v') := (hka.mono fun _ _ e => e.elim).trans hkb
  have hs4 : w.heap.size + 4 ≤ w4.heap.size := by have := hg.size; simp at this; omega
  have hold : ∀ g, g < w.heap.size → roleNew ρ w.heap.size s.chs.length w4.heap.size g = ρ g := fun g hg => by unfold roleNew; rw [if_pos hg]
  have hvlt : ∀ g, vch.ownBlock = some g → g < w.heap.size := fun g hg => (World.ownsRow.lt h.row g hg).2
  have hnS : ∀ g q, ρ g = q → q ≠ .pipes → q ≠ .chans → ¬ (vch.ownBlock = some g ∨ g = pb.b) := fun g q hq h1 h2 e => by
    rcases e with e | e
    · exact h2 (by rw [← hq]; exact h.p1 g e)
    · exact h1 (by rw [← hq, e]; exact h.p0)
  have hpb4 : ∀ j, w4.frozen? ⟨pb.b, j, none⟩ = false := fun j => by
    have hk4 : Keeps (fun b => vch.ownBlock = some b) w w4 := (hka.mono fun _ _ e => e.elim).trans (((Keeps.refl (fun b => vch.ownBlock = some b) w2).alloc _).trans (Keeps.of_grownBy hg fun k _ e => e))
    rw [hk4.frozen (p := ⟨pb.b, j, none⟩) h.lt (fun e => by have h5 := h.p1 pb.b e; rw [h.p0] at h5; cases h5)]; exact h.z j
  have hpbc : w4.cell? ⟨pb.b, 8, none⟩ = some vch := by
    have hk4 : Keeps (fun b => vch.ownBlock = some b) w w4 := (hka.mono fun _ _ e => e.elim).trans (((Keeps.refl (fun b => vch.ownBlock = some b) w2).alloc _).trans (Keeps.of_grownBy hg fun k _ e => e))
    exact hk4.cell_of h.c0 (fun e => by have h5 := h.p1 pb.b e; rw [h.p0] at h5; cases h5)
  have hnv' : ∀ g, v'.ownBlock = some g → roleNew ρ w.heap.size s.chs.length w4.heap.size g = .chans := fun g hg2 => by
    have hgl := (World.ownsRow.lt ho g hg2).2
    rcases hv g hg2 with h1 | h1
    · rw [hold g (hvlt g h1)]; exact h.p1 g h1
    · unfold roleNew; rw [if_neg (by omega), if_neg (by omega), if_neg (by omega), if_neg (by omega), if_pos hgl]
  refine ⟨⟨World.cell?_setCell_same _ _ _ hpbc, ?_, fun j => by rw [World.frozen?_setCell]; exact hpb4 j, ?_, by simp [h.len], by simp; omega, fun k cb c hcb hc => ?_, fun k c hc => ?_, h.map0, fun b hb => ?_, h.has, fun t l hl => ?_, by rw [hold pb.b h.lt]; exact h.p0, hnv', fun g hg2 => ?_, fun j h8 h9 => ?_⟩, hk.mono fun g _ e => ?_⟩
  · rw [cell_set_other (off_ne (by decide) pb.b)]
    have hk4 : Keeps (fun b => vch.ownBlock = some b) w w4 := (hka.mono fun _ _ e => e.elim).trans (((Keeps.refl (fun b => vch.ownBlock = some b) w2).alloc _).trans (Keeps.of_grownBy hg fun k _ e => e))
    exact hk4.cell_of h.c1 (fun e => by have h5 := h.p1 pb.b e; rw [h.p0] at h5; cases h5)
  · have h2 := (keeps_set1 w4 ⟨pb.b, 8, none⟩ v').row ho fun g hg2 e => by
      have h3 := hnv' g hg2
      rw [show g = pb.b from e, hold pb.b h.lt, h.p0] at h3; cases h3
    simpa using h2
  · rw [List.getElem?_append] at hcb hc
    rw [h.len] at hcb
    split at hcb
    · next hlt =>
      rw [if_pos hlt] at hc
      obtain ⟨rb, sb, v1, v2, h1⟩ := h.chs k cb c hcb hc
      refine ⟨rb, sb, v1, v2, (h1.role hold).keeps hk fun g hgl hgr => ?_⟩
      rw [hold g hgl] at hgr
      exact hnS g _ rfl (fun e => by rw [e] at hgr; exact hgr) (fun e => by rw [e] at hgr; exact hgr)
    · next hlt =>
      rw [if_neg hlt] at hc
      have hk0 : k = s.chs.length := by
        have := (List.getElem?_eq_some_iff.1 hc).1
        simp at this; omega
      subst hk0
      simp at hcb hc
      subst hcb
      subst hc
      have hcell : ∀ (j : Nat) (u : Value), (#[Value.pointer (some ⟨w.heap.size + 1, 0, none⟩), .bool false, .slice none 0 0, .slice none 0 0] : Array Value)[j]? = some u → (w4.setCell ⟨pb.b, 8, none⟩ v').cell? ⟨w.heap.size + 2, j, none⟩ = some u := fun j u hu => by
        refine hkb.cell_of (w := w2) ?_ fun e => ?_
        · rw [hw2, World.cell?_alloc_at _ _ _ _ (show w.heap.size + 2 = w1.heap.size by omega)]; exact hu
        · rcases e with e | e
          · have := hvlt _ e; simp at this; omega
          · have := h.lt; simp at e; omega
      have hnew : ∀ g, w.heap.size ≤ g → ¬ (vch.ownBlock = some g ∨ g = pb.b) := fun g hge e => by
        rcases e with e | e
        · have := hvlt _ e; omega
        · have := h.lt; omega
      refine ⟨w.heap.size + 1, w.heap.size, .slice none 0 0, .slice none 0 0, hcell 0 _ rfl, hcell 1 _ rfl, hcell 2 _ rfl, hcell 3 _ rfl, fun j => ?_, ?_, ?_, rowW_nil _, rowW_nil _, ?_, ?_, ?_, fun b hb => (by cases hb), fun b hb => (by cases hb)⟩
      · rw [hkb.frozen (p := ⟨w.heap.size + 2, j, none⟩) (by simp [hs2]) (hnew _ (by simp)), hw2, World.frozen?_alloc_at _ _ _ _ (show w.heap.size + 2 = w1.heap.size by omega)]
      · have h1 : RingL eI w2 (w.heap.size + 1) w.heap.size n [] := by rw [hw2]; exact hr.keeps ((Keeps.refl (fun _ => False) w1).alloc _) id id
        exact h1.keeps hkb (hnew _ (by omega)) (hnew _ (by omega))
      · have := hk.size; have := hs4; simp; omega
      · unfold roleNew; rw [if_neg (by omega), if_neg (by omega), if_neg (by omega), if_pos rfl]
      · unfold roleNew; rw [if_neg (by omega), if_neg (by omega), if_pos rfl]
      · unfold roleNew; rw [if_neg (by omega), if_pos rfl]
  · rw [List.getElem?_append] at hc
    split at hc
    · exact h.rows k c hc
    · rcases hj : k - s.chs.length with _ | j
      · rw [hj] at hc; cases hc; exact ⟨Nat.zero_le _, Nat.zero_le _⟩
      · rw [hj] at hc; simp at hc
  · obtain ⟨h1, h2⟩ := h.map1 b hb
    exact ⟨hk.map h1 (hnS _ _ h2 (by simp) (by simp)), by rw [hold b h1.lt]; exact h2⟩
  · obtain ⟨h1, v, h2, h3, h4⟩ := h.talk t l hl
    exact ⟨h1, v, h2, h3.keeps hk fun b hb => hnS b _ (h4 b hb) (by simp) (by simp), fun b hb => by rw [hold b (h.dom b (by rw [h4 b hb]; simp))]; exact h4 b hb⟩
  · have hs5 : (w4.setCell ⟨pb.b, 8, none⟩ v').heap.size = w4.heap.size := by simp
    rw [hs5]
    unfold roleNew at hg2
    split at hg2
    · omega
    · split at hg2
      · omega
      · split at hg2
        · omega
        · split at hg2
          · omega
          · split at hg2
            · assumption
            · have := h.dom g hg2; omega
  · rw [World.cell?_setCell_other _ _ _ _ (fun e => h8 (by injection e with _ e; exact e.symm))]
    have hk4 : Keeps (fun b => vch.ownBlock = some b) w w4 := (hka.mono fun _ _ e => e.elim).trans (((Keeps.refl (fun b => vch.ownBlock = some b) w2).alloc _).trans (Keeps.of_grownBy hg fun k _ e => e))
    rw [hk4.cell (p := ⟨pb.b, j, none⟩) h.lt (fun e => by have h5 := h.p1 pb.b e; rw [h.p0] at h5; cases h5)]
    exact h.rest j h8 h9
  · rcases e with e | e
    · rw [h.p1 g e]; simp
    · rw [e, h.p0]; simp
end Go.Proofs.YtnjdmijcoadidaaGreatDoor

namespace Go.Proofs.YtnjdmijcoadidaaGreatDoor
open Go.RowKit Go.Maps Pp

theorem wpList_appendP {ops : Array Oper} {rest : List Oper} {o : Oper} {a : Act} {Q : Exit → Act → World → Prop} (hgd : o.guard = none) (s x : Operand)
    (ho : o.op = .call { callee := .builtin .append, args := #[s, x], argTypes := #[98, 98] }) (w : World) (v : Value) (ptr : List Nat) (y : Nat) (hown : w.ownsRow 0 180 1 v ptr.length (ptr.map fun b => .pointer (some ⟨b, 0, none⟩))) (hs : a.eval s = v)
    (hx : a.eval x = .slice (some ⟨w.heap.size, 0, none⟩) 1 1) (hl : ptr.length ≤ 1000000)
    (h : ∀ ao' cap' w', w'.ownsRow 0 180 1 (.slice ao' (ptr.length + 1) cap') (ptr.length + 1) ((ptr.map fun b => .pointer (some ⟨b, 0, none⟩)) ++ [.pointer (some ⟨y, 0, none⟩)]) → (w.alloc (.cells #[.pointer (some ⟨y, 0, none⟩)] 180)).grownBy w' v.ownBlock →
      (∀ k, (Value.slice ao' (ptr.length + 1) cap').ownBlock = some k → v.ownBlock = some k ∨ w.heap.size ≤ k) →
      wpList Tryz.prog ops Q rest (a.put o.dst (.slice ao' (ptr.length + 1) cap')) w') : wpList Tryz.prog ops Q (o :: rest) a (w.alloc (.cells #[.pointer (some ⟨y, 0, none⟩)] 180)) := by
  obtain ⟨i0, hi, hz0, hz1, hz2⟩ := tinfoP info_pch
  refine wpList_append_own_at _ hgd s x 98 ho 0 180 i0 (.pointer none) 1 8 Tryz.underlying98 hi hz0 hz1 hz2 rfl (by decide) v ptr.length _ hs (World.ownsRow.alloc hown _) ⟨w.heap.size, 0, none⟩ 1 1 [.pointer (some ⟨y, 0, none⟩)] hx rfl
    (cell_one_new _ _ _) (fun u hu => by simp at hu; subst hu; rfl) (by unfold maxLen; omega) (by omega) (Nat.zero_le _) ?_
  intro v' w' h1 h2 _ h4
  have hform : ∃ ao cap, v' = .slice ao (ptr.length + 1) cap := by
    rcases h1.2 with ⟨rfl, h0⟩ | ⟨g, cap, cur, rfl, _⟩
    · omega
    · exact ⟨_, _, rfl⟩
  obtain ⟨ao', cap', rfl⟩ := hform
  refine h _ _ _ h1 h2 fun k hk => ?_
  rcases h4 with h4 | h4
  · exact Or.inl (h4 ▸ hk)
  · rw [h4] at hk
    cases hk
    exact Or.inr (by simp)

theorem grow_keeps {w w1 w4 : World} {ρ : Nat → Role} {pb : Home} {vch : Value} {ptr : List Nat} {mb : Option Nat} {D : DataW Value} {N M : Nat} {s : St} (h : PipesAt w ρ pb vch ptr mb D N M s) (hb : Below w.heap.size w w1) {o1 o2 : Obj} (hg : ((w1.alloc o1).alloc o2).grownBy w4 vch.ownBlock) :
    w4.cell? ⟨pb.b, 8, none⟩ = some vch ∧ w4.frozen? ⟨pb.b, 8, none⟩ = false := by
  have hk : Keeps (fun b => vch.ownBlock = some b) w w4 := (((Keeps.of_new (S := fun b => vch.ownBlock = some b) hb).alloc _).alloc _).trans (Keeps.of_grownBy hg fun k _ e => e)
  have hn : ¬ vch.ownBlock = some pb.b := fun e => by
    have h5 := h.p1 pb.b e
    rw [h.p0] at h5; cases h5
  exact ⟨hk.cell_of h.c0 hn, by rw [hk.frozen (p := ⟨pb.b, 8, none⟩) h.lt hn]; exact h.z 8⟩

set_option maxRecDepth 100000 in
set_option maxHeartbeats 6400000 in
theorem make_any {w : World} {ρ : Nat → Role} {pb : Home} {N : Nat} {s : St} (h : Pipes w ρ pb N s) (size : Int) :
    Calls Tryz.prog 145 #[.pointer (some ⟨pb.b, 8, none⟩), .int .i64 size] w fun e w' => e = .returned (.tuple #[.int .i64 (makeV s size).n, errV (makeV s size).err]) ∧
      (∃ ρ', Pipes w' ρ' pb N (makeV s size).st ∧ ∀ g, g < w.heap.size → ρ' g = ρ g) ∧ Keeps (fun b => ρ b ≠ .free) w w' := by
  have hsame : (∃ ρ', Pipes w ρ' pb N s ∧ ∀ g, g < w.heap.size → ρ' g = ρ g) ∧ Keeps (fun b => ρ b ≠ .free) w w := ⟨⟨ρ, h, fun _ _ => rfl⟩, Keeps.refl _ _⟩
  have HS := Lib.hid hsame
  obtain ⟨hok, vch, ptr, mb, D, hp⟩ := h
  have HP := Lib.hid hp
  have HOK := Lib.hid hok
  obtain ⟨ao, cap, rfl, hc1, hc2, _⟩ := ptr_row hp.row
  have c0 := hp.c0
  have z0 := hp.z 0
  have hlen := hp.len
  have HPB := Lib.hid hp.lt
  clear hp hok hsame
  by_cases h0 : size < 0
  · have hv : makeV s size = ⟨0, 2, s⟩ := by unfold makeV; rw [if_pos (Or.inl h0)]
    rw [hv]
    clear hv hlen
    go_enter Tryz.func145, Tryz.ntmps145
    go_wp2_with fail
    go_ret2
    exact ⟨rfl, HS.out⟩
  · by_cases h8 : 8 < size
    · have hv : makeV s size = ⟨0, 2, s⟩ := by unfold makeV; rw [if_pos (Or.inr h8)]
      rw [hv]
      have d8 : decide (8 < size) = true := by rw [decide_eq_true_eq]; exact h8
      clear hv hlen
      go_enter Tryz.func145, Tryz.ntmps145
      go_wp2_with fail
      go_ret2
      exact ⟨rfl, HS.out⟩
    · obtain ⟨n, rfl⟩ : ∃ n : Nat, size = n := ⟨size.toNat, by omega⟩
      have hn8 : n ≤ 8 := by omega
      have d8 : decide (8 < (n : Int)) = false := by rw [decide_eq_false_iff_not]; exact h8
      by_cases h32 : 32 ≤ s.chs.length
      · have hv : makeV s (n : Int) = ⟨0, 12, s⟩ := by unfold makeV; rw [if_neg (by omega), if_pos h32]
        rw [hv]
        have d32 : (32 : Int) ≤ (ptr.length : Int) := by omega
        clear hv hlen h32
        generalize ptr.length = m at *
        go_enter Tryz.func145, Tryz.ntmps145
        go_wp2_with fail
        go_ret2
        exact ⟨rfl, HS.out⟩
      · have hv : makeV s (n : Int) = ⟨(s.chs.length : Int) + 1, 0, ⟨s.chs ++ [newCh n], s.asks⟩⟩ := by unfold makeV; rw [if_neg (by omega), if_neg h32, Int.toNat_natCast]
        rw [hv]
        have HNEW := Lib.hid (newI_ok w n (by omega))
        have d32 : ¬ (32 : Int) ≤ (ptr.length : Int) := by omega
        have HLEN := Lib.hid hlen
        have H32 := Lib.hid h32
        have hml : ptr.length ≤ 1000000 := by omega
        have hrl : (s.chs.length : Int) + 1 = ((ptr.length + 1 : Nat) : Int) := by omega
        have HRL := Lib.hid hrl
        clear hv h32 hlen hrl
        go_enter Tryz.func145, Tryz.ntmps145
        go_wp2_with fail
        refine HNEW.out.mono ?_
        rintro e w1 ⟨rfl, hr1, hb1, hs1⟩
        have HR1 := Lib.hid hr1
        have HB1 := Lib.hid hb1
        have HS1 := Lib.hid hs1
        have c1 : w1.cell? ⟨pb.b, 8, none⟩ = some (.slice ao ptr.length cap) := (hb1.cell (p := ⟨pb.b, 8, none⟩) HPB.out).trans c0
        have HRW : Hid (w1.ownsRow 0 180 1 (.slice ao ptr.length cap) ptr.length (ptr.map fun b => .pointer (some ⟨b, 0, none⟩))) := Lib.hid ((Keeps.of_new hb1).row (S := fun _ => False) HP.out.row fun _ _ e => e)
        have HRW2 : Hid ((w1.alloc (.cells #[.pointer (some ⟨w.heap.size + 1, 0, none⟩), .bool false, .slice none 0 0, .slice none 0 0] 232)).ownsRow 0 180 1 (.slice ao ptr.length cap) ptr.length (ptr.map fun b => .pointer (some ⟨b, 0, none⟩))) := Lib.hid (World.ownsRow.alloc HRW.out _)
        have hal : (w1.alloc (.cells #[.pointer (some ⟨w.heap.size + 1, 0, none⟩), .bool false, .slice none 0 0, .slice none 0 0] 232)).heap.size = w1.heap.size + 1 := by simp
        have HAL := Lib.hid hal
        clear hr1 hb1 hs1 hal
        go_wp2_with (at_builtin; go_loud (refine wpList_appendP rfl _ _ rfl (w1.alloc (.cells #[.pointer (some ⟨w.heap.size + 1, 0, none⟩), .bool false, .slice none 0 0, .slice none 0 0] 232)) _ ptr w1.heap.size HRW2.out rfl (by rw [HAL.out]; rfl) (by omega) ?_; intro a6 c6 w4 ho4 hg4 hn4; have HO4 := Lib.hid ho4; have HG4 := Lib.hid hg4; have HN4 := Lib.hid hn4; have y0 : w4.cell? ⟨pb.b, 8, none⟩ = some (.slice ao ptr.length cap) := (grow_keeps HP.out HB1.out HG4.out).1; have y1 : w4.frozen? ⟨pb.b, 8, none⟩ = false := (grow_keeps HP.out HB1.out HG4.out).2; clear ho4 hg4 hn4))
        go_ret2
        have ho4 := HO4.out
        have hg4 := HG4.out
        rw [HS1.out] at ho4 hg4
        obtain ⟨h5, hk5⟩ := HP.out.grow (n := n) (by have := H32.out; omega) HB1.out HS1.out HR1.out hg4 ho4 fun g hg => by
          rcases HN4.out g hg with h1 | h1
          · exact Or.inl h1
          · have := HAL.out; have := HS1.out; exact Or.inr (by omega)
        have hl := HLEN.out
        refine ⟨?_, ⟨_, ⟨HOK.out.make hn8 (by have := H32.out; omega), _, _, mb, D, h5⟩, fun g hg => by unfold roleNew; rw [if_pos hg]⟩, hk5⟩
        rw [HRL.out]; rfl
end Go.Proofs.YtnjdmijcoadidaaGreatDoor

namespace Go.Proofs.YtnjdmijcoadidaaGreatDoor
open Go.RowKit Go.Maps Pp
theorem alloc_new (w : World) (o : Obj) : Keeps (fun _ => False) w (w.alloc o) := (Keeps.refl _ w).alloc o
theorem wf_small (n : Int) (h : -9223372036854775808 ≤ n ∧ n ≤ 9223372036854775807) : (Lit.int .i64 n).wf = true := by
  simp [Lit.wf, IntKind.min, IntKind.max, IntKind.signed, IntKind.bits]
  omega
end Go.Proofs.YtnjdmijcoadidaaGreatDoor

namespace Go.Proofs.YtnjdmijcoadidaaGreatDoor
open Go.RowKit Go.Maps Pp

/-- What comes of a close. -/
structure CloseP (w w' : World) (ρ : Nat → Role) (pb : Home) (N : Nat) (g : Got) (vw : Value) : Prop where
  pipes : ∃ ρ', Pipes w' ρ' pb N g.st ∧ (∀ b, ρ' b ≠ .free → ρ b ≠ .free) ∧ ∀ b, vw.ownBlock = some b → ρ' b = .free
  wk : w'.ownsRow w.heap.size 162 3 vw g.wakes.length (cellsK g.wakes)
  keep : Keeps (fun b => ρ b ≠ .free) w w'
/-- So many of a row were gone through. -/
structure CloseJ (w3 wr : World) (ρ1 : Nat → Role) (pb : Home) (vch : Value) (ptr : List Nat) (mb : Option Nat) (N M : Nat) (s1 : St) (row : List (Int × Nat)) (i : Nat) (av : Value) : Prop where
  at_ : ∃ D', PipesAt wr ρ1 pb vch ptr mb D' N M (wakeAll s1 (row.take i)).1
  wk : wr.ownsRow w3.heap.size 162 3 av (wakeAll s1 (row.take i)).2.length (cellsK (wakeAll s1 (row.take i)).2)
  keep : Keeps (fun b => ρ1 b ≠ .free) w3 wr
theorem wakeAll_len : ∀ (r : List (Int × Nat)) (s : St), (wakeAll s r).2.length ≤ r.length := by
  intro r
  induction r with
  | nil => intro s; exact Nat.le_refl _
  | cons w r ih =>
    intro s
    rw [wakeAll]
    split
    · have := ih (wake s w.1)
      simp only [List.length_cons]
      omega
    · have := ih s
      simp only [List.length_cons]
      omega
theorem wakeAll_take {s : St} {row : List (Int × Nat)} {i : Nat} {x : Int × Nat} (hx : row[i]? = some x) : wakeAll s (row.take (i + 1)) = if ((wakeAll s (row.take i)).1.asks x.1).isSome then (wake (wakeAll s (row.take i)).1 x.1, (wakeAll s (row.take i)).2 ++ [⟨x.1, x.2, 0⟩]) else wakeAll s (row.take i) := by
  have hi := (List.getElem?_eq_some_iff.1 hx).1
  rw [List.take_succ_eq_append_getElem hi, (List.getElem?_eq_some_iff.1 hx).2, wakeAll_snoc]
theorem CloseJ.same {w3 wr w' : World} {ρ1 : Nat → Role} {pb : Home} {vch : Value} {ptr : List Nat} {mb : Option Nat} {N M : Nat} {s1 : St} {row : List (Int × Nat)} {i : Nat} {av : Value} {x : Int × Nat} (h : CloseJ w3 wr ρ1 pb vch ptr mb N M s1 row i av) (hx : row[i]? = some x)
    (ha : ((wakeAll s1 (row.take i)).1.asks x.1).isSome = false) (hk : Keeps (fun _ => False) wr w') : CloseJ w3 w' ρ1 pb vch ptr mb N M s1 row (i + 1) av := by
  have he : wakeAll s1 (row.take (i + 1)) = wakeAll s1 (row.take i) := by rw [wakeAll_take hx, if_neg (by rw [ha]; decide)]
  obtain ⟨D', h1⟩ := h.at_
  exact ⟨⟨D', by rw [he]; exact h1.keeps hk fun _ _ e => e.elim⟩, by rw [he]; exact hk.row h.wk fun _ _ => id, h.keep.trans (hk.mono fun _ _ e => e.elim)⟩
theorem CloseJ.more {w3 w6 : World} {ρ1 : Nat → Role} {pb : Home} {vch : Value} {ptr : List Nat} {mb : Option Nat} {N M : Nat} {s1 : St} {row : List (Int × Nat)} {i : Nat} {av' : Value} {x : Int × Nat} {D' : DataW Value} (hx : row[i]? = some x)
    (ha : ((wakeAll s1 (row.take i)).1.asks x.1).isSome = true) (hp : PipesAt w6 ρ1 pb vch ptr mb D' N M (wake (wakeAll s1 (row.take i)).1 x.1))
    (hr : w6.ownsRow w3.heap.size 162 3 av' ((wakeAll s1 (row.take i)).2 ++ [Wk.mk x.1 x.2 0]).length (cellsK ((wakeAll s1 (row.take i)).2 ++ [Wk.mk x.1 x.2 0]))) (hk : Keeps (fun b => ρ1 b ≠ .free) w3 w6) : CloseJ w3 w6 ρ1 pb vch ptr mb N M s1 row (i + 1) av' := by
  have he : wakeAll s1 (row.take (i + 1)) = (wake (wakeAll s1 (row.take i)).1 x.1, (wakeAll s1 (row.take i)).2 ++ [⟨x.1, x.2, 0⟩]) := by rw [wakeAll_take hx, if_pos ha]
  exact ⟨⟨D', by rw [he]; exact hp⟩, by rw [he]; exact hr, hk⟩
theorem CloseP.same {w : World} {ρ : Nat → Role} {pb : Home} {N : Nat} {s : St} (h : Pipes w ρ pb N s) (er : Int) : CloseP w w ρ pb N ⟨s, 0, [], er⟩ (.slice none 0 0) :=
  ⟨⟨ρ, h, fun _ e => e, fun b hb => by cases hb⟩, World.ownsRow_nil _ _ _ _, Keeps.refl _ _⟩

set_option maxRecDepth 100000 in
set_option maxHeartbeats 6400000 in
theorem close_any {w : World} {ρ : Nat → Role} {pb : Home} {N : Nat} {s : St} (h : Pipes w ρ pb N s) (hN : N ≤ 100000) (c : Int) :
    Calls Tryz.prog 110 #[.pointer (some ⟨pb.b, 8, none⟩), .int .i64 c] w fun e w' => ∃ vw, e = .returned (.tuple #[vw, errV (Pp.close s c).err]) ∧ CloseP w w' ρ pb N (Pp.close s c) vw := by
  have hrok : Ok (Pp.close s c).st := h.1.close c
  obtain ⟨r, hr⟩ : ∃ r, Pp.close s c = r := ⟨_, rfl⟩
  rw [hr] at hrok ⊢
  have HH := Lib.hid h
  obtain ⟨hok, vch, ptr, mb, D, hp⟩ := h
  have HP := Lib.hid hp
  have HROK := Lib.hid hrok
  have HOK := Lib.hid hok
  have HR := Lib.hid hr
  clear hok hp hrok hr
  cases hm : may s.chs.length c with
  | false =>
    have hre : r = ⟨s, 0, [], 2⟩ := by rw [← HR.out]; unfold Pp.close; rw [if_pos hm]
    have HC := Lib.hid (CloseP.same HH.out 2)
    subst hre
    go_enter Tryz.func110, Tryz.ntmps110
    go_wp2_with fail
    refine (may_any HP.out c).mono ?_
    rintro e w' ⟨rfl, rfl⟩
    rw [hm]
    go_wp2_with fail
    go_ret2
    exact ⟨_, rfl, HC.out⟩
  | true =>
    have HM := Lib.hid hm
    rcases HP.out.chan hm with ⟨h0, hn0, hc0⟩ | ⟨k, cb, rb, sb, v1, v2, x, hck, hx, hcb, hcp, hcx, hch⟩
    · have hre : r = ⟨s, 0, [], 1⟩ := by rw [← HR.out]; unfold Pp.close; rw [if_neg (by rw [hm]; decide), hc0]
      have HC := Lib.hid (CloseP.same HH.out 1)
      have HN0 := Lib.hid hn0
      subst hre
      clear hm h0 hn0 hc0
      go_enter Tryz.func110, Tryz.ntmps110
      go_wp2_with fail
      refine (may_any HP.out c).mono ?_
      rintro e w' ⟨rfl, rfl⟩
      rw [HM.out]
      go_wp2_with fail
      refine (channel_any HP.out c HM.out).mono ?_
      rintro e w' ⟨rfl, rfl⟩
      rw [HN0.out]
      go_wp2_with fail
      go_ret2
      exact ⟨_, rfl, HC.out⟩
    · have hre1 : x.shut = true → r = ⟨s, 0, [], 1⟩ := fun e => by rw [← HR.out]; unfold Pp.close; rw [if_neg (by rw [hm]; decide), hcx]; simp only; rw [if_pos e]
      have hre2 : x.shut = false → 0 < x.sends.length → r = ⟨s, 0, [], 13⟩ := fun e e2 => by rw [← HR.out]; unfold Pp.close; rw [if_neg (by rw [hm]; decide), hcx]; simp only; rw [if_neg (by rw [e]; decide), if_pos e2]
      have hre3 : x.shut = false → ¬ 0 < x.sends.length → r = ⟨(wakeAll ⟨s.chs.modify k fun c => { c with shut := true, recvs := [] }, s.asks⟩ x.recvs).1, 0, (wakeAll ⟨s.chs.modify k fun c => { c with shut := true, recvs := [] }, s.asks⟩ x.recvs).2, 0⟩ := fun e e2 => by
        rw [← HR.out]; unfold Pp.close; rw [if_neg (by rw [hm]; decide), hcx]; simp only; rw [if_neg (by rw [e]; decide), if_neg e2, show (c - 1).toNat = k by omega]
      have HCP := Lib.hid hcp
      obtain ⟨a1, k1, hv1, _, _⟩ := hch.r1.slice
      obtain ⟨a2, k2, hv2, _, _⟩ := hch.r2.slice
      subst hv1
      subst hv2
      have c1 := hch.c1
      have c2 := hch.c2
      have c3 := hch.c3
      have z1 := hch.z 1
      have z3 := hch.z 3
      have HCH := Lib.hid hch
      have HX := Lib.hid hx
      have HCB := Lib.hid hcb
      have HROWS := Lib.hid (HP.out.rows k x hx)
      clear hm hch hx hcb hcp hcx hck
      cases hs : x.shut with
      | true =>
        have hre := hre1 hs
        have HC := Lib.hid (CloseP.same HH.out 1)
        subst hre
        rw [hs] at c1
        clear hre1 hre2 hre3 hs z1 z3
        go_enter Tryz.func110, Tryz.ntmps110
        go_wp2_with fail
        refine (may_any HP.out c).mono ?_
        rintro e w' ⟨rfl, rfl⟩
        rw [HM.out]
        go_wp2_with fail
        refine (channel_any HP.out c HM.out).mono ?_
        rintro e w' ⟨rfl, rfl⟩
        rw [HCP.out]
        go_wp2_with fail
        go_ret2
        exact ⟨_, rfl, HC.out⟩
      | false =>
        rw [hs] at c1
        rcases Nat.eq_zero_or_pos x.sends.length with h0 | h0
        · have hre := hre3 hs (by omega)
          have hsh := HP.out.shuts HCB.out HX.out HCH.out
          have HSH := Lib.hid hsh
          have HRE := Lib.hid hre
          rw [h0] at c2
          have z0 : ¬ (0 : Int) < ((0 : Nat) : Int) := by decide
          have c3' : (w.setCell ⟨cb, 1, none⟩ (.bool true)).cell? ⟨cb, 3, none⟩ = some (.slice a2 x.recvs.length k2) := by rw [cell_set_other (off_ne (by decide) cb)]; exact c3
          have z3' : (w.setCell ⟨cb, 1, none⟩ (.bool true)).frozen? ⟨cb, 3, none⟩ = false := by rw [World.frozen?_setCell]; exact z3
          have hszw : (shutW w cb).heap.size = w.heap.size := by unfold shutW; simp
          have HSZW := Lib.hid hszw
          obtain ⟨row, hrow⟩ : ∃ row, row = x.recvs := ⟨_, rfl⟩
          have HROW := Lib.hid hrow
          obtain ⟨n, hn⟩ : ∃ n, n = row.length := ⟨_, rfl⟩
          have HNR := Lib.hid hn
          rw [← hrow, ← hn] at c3 c3'
          have hnl : n ≤ 600000 := by rw [hn, hrow]; have := HROWS.out.2; omega
          obtain ⟨s1, hs1⟩ : ∃ s1 : St, s1 = ⟨s.chs.modify k fun c => { c with shut := true, recvs := [] }, s.asks⟩ := ⟨_, rfl⟩
          have HS1 := Lib.hid hs1
          have HOK1 : Hid (Ok s1) := Lib.hid (by
            rw [hs1]
            exact HOK.out.modify k (fun c => { c with shut := true, recvs := [] }) (fun _ _ e => e) (fun _ _ e => absurd e List.not_mem_nil) fun c' hc' => ⟨rfl, (HOK.out.caps _ c' hc').2⟩)
          have HP1 : Hid (PipesAt (shutW w cb) (freeOf ρ (.slice a2 x.recvs.length k2)) pb vch ptr mb D N (6 * N) s1) := Lib.hid (by rw [hs1]; exact hsh.1)
          have HRW1 : Hid (RowW (shutW w cb) (.slice a2 n k2) row) := Lib.hid (by
            rw [hn, hrow]
            exact HCH.out.r2.keeps hsh.2 fun b hb e => by
              have h1 := HCH.out.p4 b hb
              rw [e, HCH.out.p0] at h1
              cases h1)
          have HFR : Hid (∀ b, (Value.slice a2 n k2).ownBlock = some b → freeOf ρ (.slice a2 x.recvs.length k2) b = .free) := Lib.hid fun b hb => freeOf_own (by rw [← hrow, ← hn]; exact hb)
          have HSUBR : Hid (∀ b, freeOf ρ (.slice a2 x.recvs.length k2) b ≠ .free → ρ b ≠ .free) := Lib.hid fun b hb => freeOf_sub hb
          have HRE2 : Hid (r = ⟨(wakeAll s1 row).1, 0, (wakeAll s1 row).2, 0⟩) := Lib.hid (by rw [hre, hs1, hrow])
          have HSUB : Hid (∀ b, freeOf ρ (.slice a2 x.recvs.length k2) b ≠ .free → b < w.heap.size) := Lib.hid fun b hb => HP.out.dom b (freeOf_sub hb)
          clear hre hre1 hre2 hre3 hs hsh h0 hrow hn hs1 hszw
          go_enter Tryz.func110, Tryz.ntmps110
          go_wp2_with fail
          refine (may_any HP.out c).mono ?_
          rintro e w' ⟨rfl, rfl⟩
          rw [HM.out]
          go_wp2_with fail
          refine (channel_any HP.out c HM.out).mono ?_
          rintro e w' ⟨rfl, rfl⟩
          rw [HCP.out]
          go_wp2_with fail
          change Code.wp _ _ _ _ (shutW w cb)
          generalize freeOf ρ (.slice a2 x.recvs.length k2) = ρ1 at *
          obtain ⟨w3, hw3⟩ : ∃ w3, w3 = shutW w cb := ⟨_, rfl⟩
          rw [← hw3] at HSH HP1 HRW1 HSZW ⊢
          clear hw3 c1 c2 c3 c3' z1 z3 z3' z0
          have HJ0 : Hid (CloseJ w3 w3 ρ1 pb vch ptr mb N (6 * N) s1 row 0 (.slice none 0 0)) := Lib.hid ⟨⟨D, HP1.out⟩, World.ownsRow_nil _ _ _ _, Keeps.refl _ _⟩
          go_loopw [8, 49] (fun av iv wr => ∃ i : Nat, i ≤ n ∧ iv = .int .i64 i ∧ CloseJ w3 wr ρ1 pb vch ptr mb N (6 * N) s1 row i av) (fun _ iv _ => n - (intOf iv).toNat)
          case atStart => exact ⟨0, Nat.zero_le _, rfl, HJ0.out⟩
          case round =>
            obtain ⟨i, hi, rfl, hJ⟩ := hrel
            rename World => wr
            obtain ⟨aw, kw, hav⟩ := own_sliceK hJ.wk
            subst hav
            have HJ := Lib.hid hJ
            have hwl := wakeAll_len (row.take i) s1
            rw [List.length_take] at hwl
            have hwl2 : (wakeAll s1 (row.take i)).2.length ≤ 600000 := by omega
            clear hJ HJ0 hwl
            by_cases hin : i < n
            · obtain ⟨⟨xt, xk⟩, hxi⟩ : ∃ y, row[i]? = some y := ⟨_, List.getElem?_eq_getElem (by rw [← HNR.out]; exact hin)⟩
              have hrw : RowW wr (.slice a2 n k2) row := HRW1.out.keeps HJ.out.keep fun b hb e => e (HFR.out b hb)
              obtain ⟨g, rfl, -, -, -, hgl, -⟩ := hrw.addr (by rw [← HNR.out]; omega)
              obtain ⟨y1, y2⟩ := hrw.cell hxi
              simp only at y1 y2
              obtain ⟨D', hpa⟩ := HJ.out.at_
              have hka := alloc_new wr (.cells #[.int .i64 xt, .int .i64 (xk : Nat)] 135)
              have hpa2 := hpa.keeps hka fun _ _ e => e.elim
              have hwf : (Lit.int .i64 xt).wf = true := by
                by_cases e : x.recvs = row
                · obtain ⟨l, y, h1, _⟩ := HOK.out.recvs k x HX.out (xt, xk) (by rw [e]; exact List.mem_of_getElem? hxi)
                  exact (HP.out.talk xt l h1).1
                · exact absurd HROW.out.symm e
              obtain ⟨u, hlk⟩ := hpa2.waitsN hwf
              have p1 := hpa2.c1
              have q0 : (wr.alloc (.cells #[.int .i64 xt, .int .i64 (xk : Nat)] 135)).cell? ⟨wr.heap.size, 0, none⟩ = some (.int .i64 xt) := by rw [World.cell?_alloc_at _ _ _ _ rfl]; rfl
              have q1 : (wr.alloc (.cells #[.int .i64 xt, .int .i64 (xk : Nat)] 135)).cell? ⟨wr.heap.size, 1, none⟩ = some (.int .i64 (xk : Nat)) := by rw [World.cell?_alloc_at _ _ _ _ rfl]; rfl
              have HPA := Lib.hid hpa2
              have HKA := Lib.hid hka
              have HXI := Lib.hid hxi
              have hii : (0 : Int) ≤ (i : Int) ∧ (i : Int) < (n : Int) := by omega
              have HBW : Hid (w3.heap.size ≤ wr.heap.size) := Lib.hid HJ.out.keep.size
              have HOKI : Hid (Ok (wakeAll s1 (row.take i)).1) := Lib.hid (HOK1.out.wakeAll _)
              have HTK := Lib.hid (wakeAll_take (s := s1) hxi)
              clear hpa hpa2 hka hwf hxi hrw
              cases hask : ((wakeAll s1 (row.take i)).1.asks xt).isSome with
              | true =>
                rw [hask] at hlk
                have HASK := Lib.hid hask
                clear hask
                go_wp2_with fail
                go_quiet (fail)
                clear hlk
                go_upto_region 17 with fail
                have HPQ : Hid (PipesAt ((wr.alloc (.cells #[.int .i64 xt, .int .i64 (xk : Nat)] 135)).drewN nq) ρ1 pb vch ptr mb D' N (6 * N) (wakeAll s1 (row.take i)).1) := Lib.hid (HPA.out.keeps (keeps_drewN (Keeps.refl (fun _ => False) _) nq) fun _ _ e => e.elim)
                have HKQ : Hid (Keeps (fun _ => False) wr ((wr.alloc (.cells #[.int .i64 xt, .int .i64 (xk : Nat)] 135)).drewN nq)) := Lib.hid (keeps_drewN HKA.out nq)
                have r0 : ((wr.alloc (.cells #[.int .i64 xt, .int .i64 (xk : Nat)] 135)).drewN nq).cell? ⟨wr.heap.size, 0, none⟩ = some (.int .i64 xt) := q0
                have r1 : ((wr.alloc (.cells #[.int .i64 xt, .int .i64 (xk : Nat)] 135)).drewN nq).cell? ⟨wr.heap.size, 1, none⟩ = some (.int .i64 (xk : Nat)) := q1
                clear q0 q1 p1 HPA HKA
                generalize (wr.alloc (.cells #[.int .i64 xt, .int .i64 (xk : Nat)] 135)).drewN nq = wq at *
                obtain ⟨l, hl⟩ := Option.isSome_iff_exists.1 HASK.out
                have HWK := Lib.hid (wake_any HPQ.out (by omega) xt xk 0 hl (fun x hx => (HOKI.out.talks _ _ hl).2 x hx) (HOKI.out.talks _ _ hl).1)
                clear hl
                go_wp2_with fail
                refine HWK.out.mono ?_
                rintro e w5 ⟨rfl, ⟨D5, h5⟩, hk5⟩
                have HP5 := Lib.hid h5
                have HOWN : Hid (∀ b, (Value.slice aw (wakeAll s1 (row.take i)).2.length kw).ownBlock = some b → ρ1 b = .free) := Lib.hid fun b hb => Classical.byContradiction fun e => by
                  have h7 := HSUB.out b e
                  have h8 := (World.ownsRow.lt HJ.out.wk b hb).1
                  have h9 := HSZW.out
                  omega
                have HK5 : Hid (Keeps (fun b => ρ1 b ≠ .free) wr w5) := Lib.hid ((HKQ.out.mono fun _ _ e => e.elim).trans hk5)
                have HW5 := Lib.hid (HK5.out.row HJ.out.wk fun b hb e => e (HOWN.out b hb))
                have HB5 : Hid (w3.heap.size ≤ w5.heap.size) := Lib.hid (Nat.le_trans HBW.out HK5.out.size)
                clear h5 hk5 r0 r1
                go_wp2_with (at_builtin; refine wpList_appendK rfl _ _ rfl w5 w3.heap.size _ (wakeAll s1 (row.take i)).2 ⟨xt, xk, 0⟩ HW5.out rfl rfl rfl (by omega) HB5.out ?_; intro a6 c6 w6 hO6 hK6; have HO6 := Lib.hid hO6; have HK6 := Lib.hid hK6; clear hO6 hK6)
                have HJ6 : Hid (CloseJ w3 w6 ρ1 pb vch ptr mb N (6 * N) s1 row (i + 1) (.slice a6 ((wakeAll s1 (row.take i)).2 ++ [Wk.mk xt xk 0]).length c6)) := Lib.hid (CloseJ.more HXI.out HASK.out (HP5.out.keeps HK6.out fun b _ e => HOWN.out b e) HO6.out ((HJ.out.keep.trans HK5.out).trans' HK6.out fun b hb e => by
                  have h8 := (World.ownsRow.lt HJ.out.wk b e).1
                  omega))
                go_roundw
                case rel =>
                  have := HJ6.out
                  rw [List.length_append] at this
                  exact ⟨i + 1, by omega, by go_num, this⟩
                case measure => simp [intOf]; omega
              | false =>
                rw [hask] at hlk
                have HASK := Lib.hid hask
                clear hask
                go_wp2_with fail
                go_quiet (fail)
                clear hlk
                have HJ6 := Lib.hid (HJ.out.same HXI.out HASK.out (keeps_drewN HKA.out nq))
                go_wp2_with fail
                go_roundw
                case rel => exact ⟨i + 1, by omega, by go_num, HJ6.out⟩
                case measure => simp [intOf]; omega
            · obtain rfl : i = n := by omega
              have hii : ¬ (i : Int) < (i : Int) := by omega
              go_wp2_with fail
              go_ret2
              have ht : row.take i = row := by rw [HNR.out]; exact List.take_length
              obtain ⟨⟨D', hp9⟩, hw9, hk9⟩ := HJ.out
              rw [ht] at hp9 hw9 ⊢
              have hro := HROK.out
              have hre := HRE2.out
              subst hre
              refine ⟨_, rfl, ⟨ρ1, ⟨hro, vch, ptr, mb, D', hp9⟩, HSUBR.out, fun b hb => Classical.byContradiction fun e => ?_⟩, ?_, ?_⟩
              · have h7 := HSUB.out b e
                have h8 := (World.ownsRow.lt hw9 b hb).1
                have h9 := HSZW.out
                omega
              · rw [← HSZW.out]; exact hw9
              · exact (HSH.out.2.mono fun b _ e => by rw [e, HCH.out.p0]; simp).trans (hk9.mono fun b _ e => HSUBR.out b e)
        · have hre := hre2 hs h0
          have HC := Lib.hid (CloseP.same HH.out 13)
          subst hre
          have h0i : (0 : Int) < (x.sends.length : Int) := by omega
          clear hre1 hre2 hre3 hs z1 z3
          go_enter Tryz.func110, Tryz.ntmps110
          go_wp2_with fail
          refine (may_any HP.out c).mono ?_
          rintro e w' ⟨rfl, rfl⟩
          rw [HM.out]
          go_wp2_with fail
          refine (channel_any HP.out c HM.out).mono ?_
          rintro e w' ⟨rfl, rfl⟩
          rw [HCP.out]
          go_wp2_with fail
          go_ret2
          exact ⟨_, rfl, HC.out⟩
end Go.Proofs.YtnjdmijcoadidaaGreatDoor

namespace Go.Proofs.YtnjdmijcoadidaaGreatDoor
open Go.RowKit

/-- A row of its own behind w's heap, filled so far. -/
structure FillI (w w' : World) (l : List Int) (k : Nat) : Prop where
  keep : Keeps (fun _ => False) w w'
  lt : w.heap.size < w'.heap.size
  cell : ∀ j, j < l.length → ∃ v, w'.cell? ⟨w.heap.size, j, none⟩ = some v ∧ (j < k → v = eI (l.getD j 0))
  free : ∀ j, j < l.length → w'.frozen? ⟨w.heap.size, j, none⟩ = false
section
variable {w w' : World} {l : List Int} {k : Nat}
theorem FillI.new (w : World) (l : List Int) (t : TypeId) : FillI w (w.alloc (.cells (madeCells #[eI 0] l.length) t)) l 0 := by
  refine ⟨(Keeps.refl _ _).alloc _, by simp, fun j hj => ⟨eI 0, ?_, fun h => by omega⟩, fun j _ => ?_⟩
  · rw [World.cell?_alloc_at _ _ _ _ rfl]
    exact made_get _ _ j hj
  · rw [World.frozen?_alloc_at _ _ _ _ rfl]
theorem FillI.set (h : FillI w w' l k) (hk : k < l.length) (m : Nat) : FillI w ((w'.drewN m).setCell ⟨w.heap.size, k, none⟩ (eI (l.getD k 0))) l (k + 1) := by
  obtain ⟨v0, hc0, -⟩ := h.cell k hk
  refine ⟨(keeps_drewN h.keep m).setCell (Or.inr (Nat.le_refl _)) _, ?_, fun j hj => ?_, fun j hj => ?_⟩
  · have := h.lt
    simpa using this
  · by_cases e : j = k
    · subst e
      exact ⟨_, cell_set_same (w := w'.drewN m) hc0, fun _ => rfl⟩
    · obtain ⟨v, hc, hv⟩ := h.cell j hj
      exact ⟨v, by rw [cell_set_other (off_ne (fun e' => e e'.symm) _)]; exact hc, fun hjk => hv (by omega)⟩
  · rw [World.frozen?_setCell]; exact h.free j hj
theorem FillI.drewN (h : FillI w w' l k) (m : Nat) : FillI w (w'.drewN m) l k := ⟨keeps_drewN h.keep m, h.lt, h.cell, h.free⟩
end

set_option maxRecDepth 100000 in
set_option maxHeartbeats 3200000 in
theorem listI_any {rb sb n : Nat} {l : List Int} (w : World) (h : RingL eI w rb sb n l) : Calls Tryz.prog 159 #[.pointer (some ⟨rb, 0, none⟩)] w fun e w' =>
    e = .returned (.slice (some ⟨w.heap.size, 0, none⟩) l.length l.length) ∧ FillI w w' l l.length := by
  obtain ⟨row, f, rfl, h⟩ := h
  have HH := Lib.hid h
  have c0 := h.c0
  have c2 := h.c2
  have ht := h.top
  have hcn := h.cnt
  have hmk := make_elI l.length (by omega)
  clear h
  go_enter Tryz.func159, Tryz.ntmps159
  go_wp2_with fail
  have HF : Hid (FillI w (w.alloc (.cells (madeCells #[eI 0] l.length) 3)) l 0) := Lib.hid (FillI.new w l _)
  go_loopw [12] (fun t wr => ∃ k : Nat, k ≤ l.length ∧ t = .int .i64 k ∧ FillI w wr l k) (fun t _ => l.length - (intOf t).toNat)
  case atStart => exact ⟨0, Nat.zero_le _, rfl, HF.out⟩
  case round =>
    obtain ⟨k, hk, rfl, hF⟩ := hrel
    clear HF
    by_cases hkl : k < l.length
    · have HR : Hid (RingAt eI wr rb sb row f l) := Lib.hid (HH.out.keeps hF.keep id id)
      have r0 := HR.out.c0
      have hf : f < row.length := by have := HH.out.fst; omega
      have hj : (f + k) % row.length < row.length := Nat.mod_lt _ (by omega)
      have hx : l[k]? = some (l.getD k 0) := by rw [List.getD_eq_getElem?_getD, List.getElem?_eq_getElem hkl]; rfl
      have hc := HR.out.cell _ _ (HR.out.holds k _ hx)
      have h64 : k ≤ 64 := by omega
      have hn0 : 0 < row.length := by omega
      have HS : Hid (∀ W : World, RingAt eI W rb sb row f l → Calls Tryz.prog 177 #[.pointer (some ⟨rb, 0, none⟩), .int .i64 k] W fun e w' => e = .returned (.int .i64 ((f + k) % row.length : Nat)) ∧ ∃ n, w' = W.drewN n) := Lib.hid fun W hW => slotI_any W hW k h64 hn0
      obtain ⟨v0, hc0, -⟩ := hF.cell k hkl
      have hz0 := hF.free k hkl
      have HF1 : Hid (∀ m, FillI w ((wr.drewN m).setCell ⟨w.heap.size, k, none⟩ (eI (l.getD k 0))) l (k + 1)) := Lib.hid fun m => hF.set hkl m
      generalize (f + k) % row.length = j at *
      generalize l.getD k 0 = x at *
      have hji : (0 : Int) ≤ (j : Int) ∧ (j : Int) < (row.length : Int) := by omega
      have hki : (0 : Int) ≤ (k : Int) ∧ (k : Int) < (l.length : Int) := by omega
      clear hF hx
      go_wp2_with fail
      go_region_with (go_at_call 177; refine (HS.out _ ?_).mono ?_; (first | exact HR.out.drewN _ | exact (HR.out.drewN _).drewN _); rintro e w' ⟨rfl, m, rfl⟩)
      all_goals
        go_wp2_with fail
        go_roundw
        case rel => exact ⟨k + 1, by omega, by go_num, HF1.out _⟩
        case measure => simp [intOf]; omega
    · obtain rfl : k = l.length := by omega
      have hki : ¬ (l.length : Int) < (l.length : Int) := by omega
      go_wp2_with fail
      go_ret
      exact ⟨rfl, hF⟩
end Go.Proofs.YtnjdmijcoadidaaGreatDoor

namespace Go.Proofs.YtnjdmijcoadidaaGreatDoor
open Go.RowKit Go.Shelf

attribute [local go_sem] Oper.semAt_some

/-- The first k places, each with what lies there. -/
def uptoP (zs : List Int) (k : Nat) : List (Nat × Int) := (List.range k).map fun j => (j, zs[j]?.getD 0)
theorem uptoP_succ (zs : List Int) (k : Nat) : uptoP zs (k + 1) = uptoP zs k ++ [(k, zs[k]?.getD 0)] := by simp [uptoP, List.range_succ]
theorem uptoP_length (zs : List Int) (k : Nat) : (uptoP zs k).length = k := by simp [uptoP]
/-- What a loop over All must leave as it is: what was copied, and where that is noted. -/
abbrev KpA (B Bs : Nat) : World → World → Prop := Keeps (fun k => k ≠ B ∧ k ≠ Bs)
theorem kpA_t {B Bs : Nat} {a b c : World} (h : KpA B Bs a b) (k : KpA B Bs b c) : KpA B Bs a c := h.trans k
theorem kpA_b {B Bs : Nat} {w : World} (hB : B < w.heap.size) (hBs : Bs < w.heap.size) (W : World) (l : Nat) (o o' : Obj) (hl : w.heap.size ≤ l) (_ : W.heap[l]? = some o) (_ : o.isCells = false) (_ : o.isWalk = false) : KpA B Bs W (W.putObj l o') :=
  Keeps.of_grownBy (grownBy_putObj' W l o') fun k _ e => by cases e; exact ⟨by omega, by omega⟩

set_option maxRecDepth 100000 in
set_option maxHeartbeats 2000000 in
theorem all1_in (F : Fence) (n : Nat) (h49 : F.fn 160) (hro : F.round = none) (_hn : 1 ≤ n) (l Bs B len : Nat) (zs : List Int) (hlen : len ≤ 64) (J Jx : List (Nat × Int) → World → Prop)
    (hY : ∀ pre (x : Nat × Int) W, J pre W → pre.length < len → YieldAt F (n - 1) Tryz.prog l #[.int .i64 (x.1 : Int), .int .i64 x.2] W fun e W' =>
      (e = .returned (.bool true) ∧ J (pre ++ [x]) W' ∧ KpA B Bs W W') ∨ (e = .returned (.bool false) ∧ Jx (pre ++ [x]) W'))
    (W : World) (hBs : W.cell? ⟨Bs, 0, none⟩ = some (.slice (some ⟨B, 0, none⟩) len len)) (hc : ∀ j, j < len → W.cell? ⟨B, j, none⟩ = some (.int .i64 (zs[j]?.getD 0))) (h0 : J [] W) :
    CallsIn F n Tryz.prog 160 #[.func (.yield l) #[] #[], .pointer (some ⟨Bs, 0, none⟩)] W fun e W' => (∃ v, e = .returned v) ∧
      ((∃ ys, ys = uptoP zs len ∧ J ys W') ∨ (∃ pre, (∃ k, k ≤ len ∧ pre = uptoP zs k) ∧ Jx pre W')) := by
  have HC : Hid (∀ j, j < len → W.cell? ⟨B, j, none⟩ = some (.int .i64 (zs[j]?.getD 0)) ∧ B < W.heap.size) := Lib.hid fun j hj => ⟨hc j hj, block_lt_of_cell (hc j hj)⟩
  clear hc
  refine callsIn_of_wp Tryz.func160 rfl h49 ?_ hro
  simp only [Tryz.ntmps160, List.size_toArray, List.length_cons, List.length_nil, Nat.reduceAdd, Nat.reduceSub, Array.replicate_succ, Array.replicate_zero, List.push_toArray, List.append_toArray, List.nil_append, List.cons_append]
  gi_wp2
  gi_loopw [7] (fun i wr => ∃ k : Nat, k ≤ len ∧ i = .int .i64 k ∧ J (uptoP zs k) wr ∧ KpA B Bs W wr)
    (fun i _ => len - (intOf i).toNat)
  case atStart => exact ⟨0, Nat.zero_le _, rfl, h0, Keeps.refl _ _⟩
  case round =>
    obtain ⟨k, hk, rfl, hJs, hnx⟩ := hrel
    by_cases hlt : k < len
    · obtain ⟨fn, tmps, assign, body, hy, hR⟩ := hY _ (k, zs[k]?.getD 0) wr hJs (by rw [uptoP_length]; exact hlt)
      have hcx : wr.cell? ⟨B, k, none⟩ = some (.int .i64 (zs[k]?.getD 0)) := hnx.cell_of (HC.out k hlt).1 (fun h => h.1 rfl)
      have hki : (0 : Int) ≤ (k : Int) ∧ (k : Int) < (len : Int) := by omega
      dsimp only at hy
      gi_wp2
      refine hR.mono ?_
      rintro e W3 (⟨rfl, hJ3, hk3⟩ | ⟨rfl, hJx3⟩)
      · gi_wp2
        go_roundw
        case rel => exact ⟨k + 1, by omega, by simp, by rw [uptoP_succ]; exact hJ3, hnx.trans hk3⟩
        case measure => simp [intOf]; omega
      · gi_wp2
        refine bodyPost_ret (results_none rfl _ _ _) rfl ?_
        exact ⟨⟨_, rfl⟩, .inr ⟨_, ⟨k + 1, by omega, (uptoP_succ _ _).symm⟩, hJx3⟩⟩
    · obtain rfl : k = len := by omega
      gi_wp2
      go_end0
      exact ⟨⟨_, rfl⟩, .inl ⟨_, rfl, hJs⟩⟩

/-- What All hands back: all that there is, in order; or the first few. -/
theorem all_stops (F : Fence) (n : Nat) (h49 : F.fn 160) (hro : F.round = none) (hn : 1 ≤ n) (Bs B : Nat) (zs : List Int) (hlen : zs.length ≤ 64) (w : World)
    (hc : w.cell? ⟨Bs, 0, none⟩ = some (.slice (some ⟨B, 0, none⟩) zs.length zs.length)) (hI : ∀ j, j < zs.length → w.cell? ⟨B, j, none⟩ = some (.int .i64 (zs[j]?.getD 0))) :
    SeqStopsK F n Tryz.prog 160 #[.pointer (some ⟨Bs, 0, none⟩)] (fun x : Nat × Int => #[Value.int .i64 (x.1 : Int), Value.int .i64 x.2]) (KpA B Bs) (fun ys => ys = uptoP zs zs.length)
      (fun pre => ∃ k, k ≤ zs.length ∧ pre = uptoP zs k) zs.length w := fun l J Jx W hW _ _ hY h0 =>
  all1_in F n h49 hro hn l Bs B zs.length zs hlen J Jx hY W ((hW.cell (p := ⟨Bs, 0, none⟩) (block_lt_of_cell hc)).trans hc) (fun j hj => (hW.cell (p := ⟨B, j, none⟩) (block_lt_of_cell (hI j hj))).trans (hI j hj)) h0

/-- What All has laid. -/
structure AllI (w w' : World) (l : List Int) (Bs : Nat) : Prop where
  keep : Keeps (fun _ => False) w w'
  lo : w.heap.size < Bs
  hi : Bs < w'.heap.size
  box : w'.cell? ⟨Bs, 0, none⟩ = some (.slice (some ⟨w.heap.size, 0, none⟩) l.length l.length)
  cell : ∀ j, j < l.length → w'.cell? ⟨w.heap.size, j, none⟩ = some (.int .i64 (l[j]?.getD 0))

set_option maxHeartbeats 1000000 in
theorem allI_any {rb sb n : Nat} {l : List Int} (w : World) (h : RingL eI w rb sb n l) : Calls Tryz.prog 127 #[.pointer (some ⟨rb, 0, none⟩)] w fun e w' =>
    ∃ Bs, e = .returned (.func (.func 160) #[] #[.pointer (some ⟨Bs, 0, none⟩)]) ∧ AllI w w' l Bs := by
  go_enter Tryz.func127, Tryz.ntmps127
  go_wp2_with fail
  refine (listI_any w h).mono ?_
  rintro e w1 ⟨rfl, hF⟩
  go_wp2_with fail
  go_ret
  have hlt := hF.lt
  refine ⟨w1.heap.size, rfl, hF.keep.alloc _, hlt, by simp, ?_, fun j hj => ?_⟩
  · rw [World.cell?_alloc_at _ _ _ _ rfl]; rfl
  · obtain ⟨v, hc, hv⟩ := hF.cell j hj
    rw [World.cell?_alloc_past _ _ _ (block_lt_of_cell hc), hc, hv hj, List.getD_eq_getElem?_getD]
end Go.Proofs.YtnjdmijcoadidaaGreatDoor

namespace Go.Proofs.YtnjdmijcoadidaaGreatDoor
open Go.RowKit

/-- A variable of its own block. -/
structure Box (W : World) (b : Nat) (x : Value) : Prop where
  cell : W.cell? ⟨b, 0, none⟩ = some x
  free : W.frozen? ⟨b, 0, none⟩ = false
theorem Box.lt {W : World} {b : Nat} {x : Value} (h : Box W b x) : b < W.heap.size := block_lt_of_cell h.cell
theorem Box.keeps {S : Nat → Prop} {W W' : World} {b : Nat} {x : Value} (h : Box W b x) (hk : Keeps S W W') (hS : ¬ S b) : Box W' b x :=
  ⟨hk.cell_of h.cell hS, by rw [hk.frozen (p := ⟨b, 0, none⟩) h.lt hS]; exact h.free⟩
theorem Box.new (W : World) (x : Value) (t : TypeId) : Box (W.alloc (.cells #[x] t)) W.heap.size x :=
  ⟨by rw [World.cell?_alloc_at _ _ _ _ rfl]; rfl, by rw [World.frozen?_alloc_at _ _ _ _ rfl]⟩
theorem Box.new' (W : World) (x : Value) (t : TypeId) {b : Nat} (hb : b = W.heap.size) : Box (W.alloc (.cells #[x] t)) b x := hb ▸ Box.new W x t
theorem Box.alloc {W : World} {b : Nat} {x : Value} (h : Box W b x) (o : Obj) : Box (W.alloc o) b x := h.keeps ((Keeps.refl (fun _ => False) W).alloc o) id
theorem keeps_set (w : World) (a : Nat) (v : Value) : Keeps (fun k => k = a) w (w.setCell ⟨a, 0, none⟩ v) := (Keeps.refl (fun k => k = a) w).setCell (p := ⟨a, 0, none⟩) (Or.inl rfl) v
theorem two_boxes (W : World) (x y : Value) (t u : TypeId) : Box ((W.alloc (.cells #[x] t)).alloc (.cells #[y] u)) W.heap.size x ∧ Box ((W.alloc (.cells #[x] t)).alloc (.cells #[y] u)) (W.heap.size + 1) y ∧
    Keeps (fun _ => False) W ((W.alloc (.cells #[x] t)).alloc (.cells #[y] u)) ∧ ((W.alloc (.cells #[x] t)).alloc (.cells #[y] u)).heap.size = W.heap.size + 2 :=
  ⟨(Box.new W x t).alloc _, Box.new' _ _ _ (by simp), ((Keeps.refl _ W).alloc _).alloc _, by simp⟩
theorem Box.set {W : World} {b : Nat} {x : Value} (h : Box W b x) (y : Value) : Box (W.setCell ⟨b, 0, none⟩ y) b y :=
  ⟨cell_set_same h.cell, by rw [World.frozen?_setCell]; exact h.free⟩
end Go.Proofs.YtnjdmijcoadidaaGreatDoor

namespace Go.Proofs.YtnjdmijcoadidaaGreatDoor
open Go.RowKit

theorem wpListIn_appendI {F : Fence} {nF : Nat} {ops : Array Oper} {rest : List Oper} {o : Oper} {a : Act} {Q : Exit → Act → World → Prop} (hgd : o.guard = none) (s x : Operand)
    (ho : o.op = .call { callee := .builtin .append, args := #[s, x], argTypes := #[26, 26] }) (w : World) (B : Nat) (v : Value) (xs : List Int) (y : Int) (hown : OwnI w B v xs) (hs : a.eval s = v)
    (hx : a.eval x = .slice (some ⟨w.heap.size, 0, none⟩) 1 1) (hl : xs.length ≤ 1000000) (hB : B ≤ w.heap.size)
    (h : ∀ ao' cap' w', OwnI w' B (.slice ao' (xs.length + 1) cap') (xs ++ [y]) → Keeps (fun b => v.ownBlock = some b) w w' → (∀ k, (Value.slice ao' (xs.length + 1) cap').ownBlock = some k → v.ownBlock = some k ∨ w.heap.size ≤ k) →
      wpListIn F nF Tryz.prog ops Q rest (a.put o.dst (.slice ao' (xs.length + 1) cap')) w') : wpListIn F nF Tryz.prog ops Q (o :: rest) a (w.alloc (.cells #[.int .i64 y] 3)) := by
  obtain ⟨i0, hi, hz0, hz1, hz2⟩ := info_parts info_int
  refine wpListIn_append_own_at _ hgd s x 26 ho B 3 i0 (.int .i64 0) 1 8 Tryz.underlying26 hi hz0 hz1 hz2 rfl (by decide) v xs.length (xs.map (Value.int .i64)) hs (World.ownsRow.alloc hown _) ⟨w.heap.size, 0, none⟩ 1 1 [.int .i64 y] hx rfl
    (cell_one_new _ _ _) (fun u hu => by simp at hu; subst hu; rfl) (by unfold maxLen; omega) (by omega) (by simp; omega) ?_
  intro v' w' h1 h2 _ h4
  have hO : OwnI w' B v' (xs ++ [y]) := OwnI.mk _ y rfl h1
  obtain ⟨ao', cap', e⟩ := hO.slice
  rw [List.length_append] at e
  have e' : v' = .slice ao' (xs.length + 1) cap' := e
  subst e'
  refine h _ _ _ hO (keeps_append h2 fun k e => e) fun k hk => ?_
  rcases h4 with h4 | h4
  · exact Or.inl (h4 ▸ hk)
  · rw [h4] at hk
    cases hk
    exact Or.inr (by simp)
end Go.Proofs.YtnjdmijcoadidaaGreatDoor

namespace Go.Proofs.YtnjdmijcoadidaaGreatDoor
open Go.RowKit Go.Shelf Go.Maps Pp
attribute [local go_sem] Oper.semAt_some

theorem kf_cells {S : Nat → Prop} {B : Nat} {W W' : World} (hk : Keeps S W W') (h : ∀ k, S k → k < B ∨ ∃ o : Obj, W.heap[k]? = some o ∧ o.isCells = true) : KeepsFrom B W W' :=
  ⟨hk.size, fun k o hB ho hc => by
    by_cases hS : S k
    · rcases h k hS with h1 | ⟨o', h1, h2⟩
      · omega
      · rw [ho] at h1; cases h1; rw [hc] at h2; cases h2
    · rw [hk.block k (Array.getElem?_eq_some_iff.1 ho).1 hS]; exact ho⟩
theorem rowCells {W : World} {B : Nat} {t : TypeId} {n : Nat} {v : Value} {m : Nat} {cs : List Value} (h : W.ownsRow B t n v m cs) : ∀ k, v.ownBlock = some k → ∃ o : Obj, W.heap[k]? = some o ∧ o.isCells = true := fun k hk => by
  rcases h.2 with ⟨rfl, h0⟩ | ⟨g, cap, cur, rfl, hb, hg, _⟩
  · cases hk
  · cases hk
    exact ⟨_, hg, rfl⟩
theorem uptoP_snd (l : List Int) : (uptoP l l.length).map (·.2) = l := by
  apply List.ext_getElem
  · simp [uptoP]
  · intro i h1 h2
    simp [uptoP, h2]
theorem bel_step {W V V' : World} (h : Below W.heap.size W V) (k : Below V.heap.size V V') : Below W.heap.size W V' := h.trans (k.mono h.size)
theorem bel_step' {W V V' : World} (h : Below W.heap.size W V) (k : Below V.drew.heap.size V.drew V') : Below W.heap.size W V' := bel_step h.drew k
theorem cloneS_any (w : World) {v : Value} {r : List (Int × Nat)} (hl : RowW w v r) (h6 : r.length ≤ 1000000000) :
    Calls Tryz.prog 67 #[v] w fun e w' => ∃ au cu, e = .returned (.slice au r.length cu) ∧ w'.ownsRow w.heap.size 135 2 (.slice au r.length cu) r.length (cellsW r) ∧ Below w.heap.size w w' := by
  refine (cloneW_any w hl h6).mono ?_
  rintro e w' ⟨u, rfl, h1, h2⟩
  have h3 := h1
  rcases h1.2 with ⟨rfl, h0⟩ | ⟨g, cap, cur, rfl, _⟩
  · exact ⟨none, 0, by rw [h0], by rw [h0] at h3 ⊢; exact h3, h2⟩
  · exact ⟨_, _, rfl, h3, h2⟩
theorem set5 {w V : World} {r : Nat} (h : Keeps (fun k => k = r) w V) (a b c d e : Value) : Keeps (fun k => k = r) w (((((V.setCell ⟨r, 0, none⟩ a).setCell ⟨r, 1, none⟩ b).setCell ⟨r, 2, none⟩ c).setCell ⟨r, 3, none⟩ d).setCell ⟨r, 4, none⟩ e) :=
  ((((h.setCell (Or.inl rfl) a).setCell (Or.inl rfl) b).setCell (Or.inl rfl) c).setCell (Or.inl rfl) d).setCell (Or.inl rfl) e
theorem get5 {V : World} {r : Nat} {x0 x1 x2 x3 x4 : Value} (h0 : V.cell? ⟨r, 0, none⟩ = some x0) (h1 : V.cell? ⟨r, 1, none⟩ = some x1) (h2 : V.cell? ⟨r, 2, none⟩ = some x2) (h3 : V.cell? ⟨r, 3, none⟩ = some x3) (h4 : V.cell? ⟨r, 4, none⟩ = some x4) (a b c d e : Value) :
    let Z := ((((V.setCell ⟨r, 0, none⟩ a).setCell ⟨r, 1, none⟩ b).setCell ⟨r, 2, none⟩ c).setCell ⟨r, 3, none⟩ d).setCell ⟨r, 4, none⟩ e
    Z.cell? ⟨r, 0, none⟩ = some a ∧ Z.cell? ⟨r, 1, none⟩ = some b ∧ Z.cell? ⟨r, 2, none⟩ = some c ∧ Z.cell? ⟨r, 3, none⟩ = some d ∧ Z.cell? ⟨r, 4, none⟩ = some e := by
  have o : ∀ {W : World} {i j : Nat} {v : Value}, j ≠ i → (W.setCell ⟨r, j, none⟩ v).cell? ⟨r, i, none⟩ = W.cell? ⟨r, i, none⟩ := fun h => cell_set_other (off_ne h r)
  refine ⟨?_, ?_, ?_, ?_, ?_⟩
  · rw [o (by decide), o (by decide), o (by decide), o (by decide)]; exact cell_set_same h0
  · rw [o (by decide), o (by decide), o (by decide)]; exact cell_set_same ((o (by decide)).trans h1)
  · rw [o (by decide), o (by decide)]; exact cell_set_same ((o (by decide)).trans ((o (by decide)).trans h2))
  · rw [o (by decide)]; exact cell_set_same ((o (by decide)).trans ((o (by decide)).trans ((o (by decide)).trans h3)))
  · exact cell_set_same ((o (by decide)).trans ((o (by decide)).trans ((o (by decide)).trans ((o (by decide)).trans h4))))
theorem own_lower {w : World} {B B' : Nat} {t : TypeId} {n : Nat} {v : Value} {m : Nat} {cs : List Value} (h : w.ownsRow B t n v m cs) (hB : B' ≤ B) : w.ownsRow B' t n v m cs :=
  ⟨h.1, h.2.imp id fun ⟨g, cap, cur, e, hb, r⟩ => ⟨g, cap, cur, e, Nat.le_trans hB hb, r⟩⟩
/-- So many were noted. -/
structure LookJ (w9 : World) (bn : Nat) (pre : List (Nat × Int)) (W : World) : Prop where
  keep : Keeps (fun k => k = bn) w9 W
  row : ∃ vk, Box W bn vk ∧ OwnI W w9.heap.size vk (pre.map (·.2))
theorem lookJ_own {w9 : World} {bn : Nat} (hb : bn < w9.heap.size) : OwnFrom w9.heap.size (LookJ w9 bn) := fun pre W W' row h hg hrow => by
  have key : ∀ k, k < w9.heap.size → ¬ row = some k := fun k hk e => by have := (hrow k e).1; omega
  have keyc : ∀ k, (∃ o : Obj, W.heap[k]? = some o ∧ o.isCells = true) → ¬ row = some k := fun k ⟨o, h1, h2⟩ e => by
    obtain ⟨_, o', h3, h4⟩ := hrow k e
    rw [h1] at h3; cases h3; rw [h2] at h4; cases h4
  have hk : Keeps (fun k => row = some k) W W' := Keeps.of_grownBy hg fun _ _ e => e
  obtain ⟨vk, h1, h2⟩ := h.row
  exact ⟨h.keep.trans' hk fun i hi e => absurd e (key i hi), vk, h1.keeps hk (key _ hb), h2.keeps hk fun k e => keyc k (rowCells h2 k e)⟩

/-- What is seen of a channel. -/
structure SeenC (w' : World) (B : Nat) (c : Ch) (vn u1 u2 : Value) : Prop where
  nums : OwnI w' B vn c.nums
  sends : w'.ownsRow B 135 2 u1 c.sends.length (cellsW c.sends)
  recvs : w'.ownsRow B 135 2 u2 c.recvs.length (cellsW c.recvs)

set_option maxRecDepth 100000 in
set_option maxHeartbeats 3200000 in
theorem lookC_any (w : World) {ρ : Nat → Role} {k cb rb sb : Nat} {v1 v2 : Value} {c : Ch} (h : ChC w ρ k cb rb sb v1 v2 c) (hn : c.nums.length ≤ 64) (h1 : c.sends.length ≤ 1000000000) (h2 : c.recvs.length ≤ 1000000000) :
    Calls Tryz.prog 94 #[.pointer (some ⟨cb, 0, none⟩)] w fun e w' => ∃ vn u1 u2, e = .returned (.agg #[.int .i64 c.size, vn, .bool c.shut, u1, u2]) ∧ SeenC w' w.heap.size c vn u1 u2 ∧ Below w.heap.size w w' := by
  obtain ⟨size, nums, shut, sends, recvs⟩ := c
  have HC := Lib.hid h
  have H1 := Lib.hid h1
  have H2 := Lib.hid h2
  have hcl := block_lt_of_cell h.c0
  have c0 := h.c0
  simp only at hn
  clear h h1 h2
  refine (callsIn_wide (n := 5)).1 (callsIn_of_wp_marks Tryz.func94 rfl trivial ?_ rfl)
  simp only [Tryz.ntmps94, List.size_toArray, List.length_cons, List.length_nil, Nat.reduceAdd, Nat.reduceSub, Array.replicate_succ, Array.replicate_zero, List.push_toArray, List.append_toArray, List.nil_append, List.cons_append]
  refine wpIn_wide.2 ?_
  go_wp2_with fail
  have q0 : Box ((w.alloc (.cells #[.int .i64 0, .slice none 0 0, .bool false, .slice none 0 0, .slice none 0 0] 76)).alloc (.cells #[.slice none 0 0] 26)) (w.heap.size + 1) (.slice none 0 0) := Box.new' _ _ _ (by simp)
  obtain ⟨wA, hwA⟩ : ∃ wA, wA = (w.alloc (.cells #[.int .i64 0, .slice none 0 0, .bool false, .slice none 0 0, .slice none 0 0] 76)).alloc (.cells #[.slice none 0 0] 26) := ⟨_, rfl⟩
  have hkA : Keeps (fun _ => False) w wA := hwA ▸ ((Keeps.refl _ w).alloc _).alloc _
  have hsA : wA.heap.size = w.heap.size + 2 := by rw [hwA]; simp
  have hrA : ∀ i, i < 5 → (wA.cell? ⟨w.heap.size, i, none⟩).isSome = true ∧ wA.frozen? ⟨w.heap.size, i, none⟩ = false := fun i hi => by
    rw [hwA, World.cell?_alloc_past _ _ _ (by simp), World.frozen?_alloc_past _ _ _ (by simp), World.cell?_alloc_at _ _ _ _ rfl, World.frozen?_alloc_at _ _ _ _ rfl]
    match i, hi with
    | 0, _ => exact ⟨rfl, rfl⟩
    | 1, _ => exact ⟨rfl, rfl⟩
    | 2, _ => exact ⟨rfl, rfl⟩
    | 3, _ => exact ⟨rfl, rfl⟩
    | 4, _ => exact ⟨rfl, rfl⟩
  rw [← hwA] at q0 ⊢
  have HRA := Lib.hid hrA
  clear hwA hrA
  refine (allI_any _ (HC.out.keeps hkA fun _ _ _ => id).ring).mono ?_
  rintro e w9 ⟨Bs, rfl, hA⟩
  have HA := Lib.hid hA
  obtain ⟨B1, hB1⟩ : ∃ B1, B1 = wA.heap.size := ⟨_, rfl⟩
  have hlo9 := hA.lo
  have hhi9 := hA.hi
  have hbox9 := hA.box
  have hcel9 := hA.cell
  rw [← hB1] at hlo9 hbox9 hcel9
  have q9 := q0.keeps hA.keep id
  have HK9 := Lib.hid (hkA.trans hA.keep)
  have HJ : Hid (LookJ w9 (w.heap.size + 1) [] w9) := Lib.hid ⟨Keeps.refl _ _, _, q9, ownI_nil _ _⟩
  have hb1 : w.heap.size + 2 = B1 := by omega
  clear hA q0 hkA hB1 q9
  generalize hbn : w.heap.size + 1 = bn at *
  go_wp2_with fail
  refine (wpIn_wide (n := 5)).1 (wpIn_rangeFunc_ownG rfl (by omega) (gf := 160) (lb := #[.pointer (some ⟨Bs, 0, none⟩)]) rfl trivial (enters_of Tryz.func160 (by kernel_rfl) rfl)
    (all_stops Fence.wide _ trivial rfl (by omega) Bs B1 nums hn w9 hbox9 hcel9) kpA_t (kpA_b (by omega) (by omega)) (Below.refl _ _) (fun _ => rfl)
    (LookJ w9 bn) (fun _ _ _ => False) (lookJ_own (by omega)) (fun _ _ _ _ _ hs _ _ => hs) HJ.out ?act ?assign ?body ?done ?stop)
  case assign =>
    intro l x W K hK
    gi_wp2
    exact hK
  case body =>
    rintro l' pre ⟨kx, x⟩ W hJ hlt
    obtain ⟨vk, hbk, hok⟩ := hJ.row
    obtain ⟨ak, ck, hvk⟩ := hok.slice
    subst hvk
    have HJJ := Lib.hid hJ
    have HOK := Lib.hid hok
    have HBK := Lib.hid hbk
    have hpl : (pre.map (·.2)).length ≤ 64 := by rw [List.length_map]; omega
    have c1 := hbk.cell
    have c2 := hbk.free
    have hgv : ∀ c, c < w9.heap.size → ¬ (Value.slice ak (pre.map (·.2)).length ck).ownBlock = some c := fun c hc e => by have := hok.le c e; omega
    have HGV := Lib.hid hgv
    have hbig : w9.heap.size ≤ W.heap.size := hJ.keep.size
    clear hJ hok hbk hgv
    generalize hAf : pre.map (·.2) = Af at *
    have HAF := Lib.hid hAf
    clear hAf
    gi_wp2_with (gi_at_builtin; go_loud (refine wpListIn_appendI rfl _ _ rfl _ w9.heap.size _ Af x HOK.out rfl rfl (by omega) hbig ?_; intro a4 c4 w4 hO4 hK4 hN4; have HO4 := Lib.hid hO4; have HK4 := Lib.hid hK4; have c4k := (HBK.out.keeps hK4 (HGV.out bn (by omega))).cell; have z4k := (HBK.out.keeps hK4 (HGV.out bn (by omega))).free; clear hO4 hK4 hN4))
    have hAf := HAF.out
    subst hAf
    have hKs := keeps_set w4 bn (.slice a4 ((pre.map (·.2)).length + 1) c4)
    refine ⟨(kf_cells HK4.out fun k e => Or.inr (rowCells HOK.out k e)).trans ((KeepsOthers.setCell _ _ _).from _), (HK4.out.mono fun k _ e => ⟨fun e' => HGV.out k (by omega) e, fun e' => HGV.out k (by omega) e⟩).trans (hKs.mono fun k _ e => ⟨by omega, by omega⟩), ?_, _, (HBK.out.keeps HK4.out (HGV.out bn (by omega))).set _, ?_⟩
    · exact (HJJ.out.keep.trans' HK4.out fun i hi e => absurd e (HGV.out i hi)).trans hKs
    · rw [List.map_append]
      exact HO4.out.keeps hKs (HO4.out.off fun k e => by omega)
  case done =>
    rintro D ys W hD rfl hJ hK
    obtain ⟨vk, hbk, hok⟩ := hJ.row
    rw [uptoP_snd] at hok
    obtain ⟨ak, ck, rfl⟩ := hok.slice
    have hkW : Keeps (fun _ => False) w W := HK9.out.trans' hJ.keep fun i hi e => by omega
    have hCW := HC.out.keeps hkW fun _ _ _ => id
    have hkA : Keeps (fun k => k = bn) wA W := (HA.out.keep.mono fun _ _ e => e.elim).trans hJ.keep
    have hr0 : ∀ i, i < 5 → ∃ x, W.cell? ⟨w.heap.size, i, none⟩ = some x ∧ W.frozen? ⟨w.heap.size, i, none⟩ = false := fun i hi => by
      obtain ⟨x, hx⟩ := Option.isSome_iff_exists.1 (HRA.out i hi).1
      exact ⟨x, hkA.cell_of hx (by show ¬ w.heap.size = bn; omega), by rw [hkA.frozen (p := ⟨w.heap.size, i, none⟩) (by show w.heap.size < wA.heap.size; omega) (by show ¬ w.heap.size = bn; omega)]; exact (HRA.out i hi).2⟩
    obtain ⟨x0, y0, z0⟩ := hr0 0 (by omega)
    obtain ⟨x1, y1, z1⟩ := hr0 1 (by omega)
    obtain ⟨x2, y2, z2⟩ := hr0 2 (by omega)
    obtain ⟨x3, y3, z3⟩ := hr0 3 (by omega)
    obtain ⟨x4, y4, z4⟩ := hr0 4 (by omega)
    have hsW : w.heap.size + 2 < W.heap.size := by have := hJ.keep.size; omega
    have hn1 : ∀ b, v1.ownBlock = some b → ¬ b = w.heap.size := fun b hb e => by have := HC.out.r1.lt b hb; omega
    have hn2 : ∀ b, v2.ownBlock = some b → ¬ b = w.heap.size := fun b hb e => by have := HC.out.r2.lt b hb; omega
    have HS1 : Hid (∀ V, Keeps (fun k => k = w.heap.size) W V → Calls Tryz.prog 67 #[v1] V fun e V' => ∃ au cu, e = .returned (.slice au sends.length cu) ∧ V'.ownsRow V.heap.size 135 2 (.slice au sends.length cu) sends.length (cellsW sends) ∧ Below V.heap.size V V') := Lib.hid fun V hV => cloneS_any V (hCW.r1.keeps hV hn1) H1.out
    have HS2 : Hid (∀ V, Keeps (fun k => k = w.heap.size) W V → Calls Tryz.prog 67 #[v2] V fun e V' => ∃ au cu, e = .returned (.slice au recvs.length cu) ∧ V'.ownsRow V.heap.size 135 2 (.slice au recvs.length cu) recvs.length (cellsW recvs) ∧ Below V.heap.size V V') := Lib.hid fun V hV => cloneS_any V (hCW.r2.keeps hV hn2) H2.out
    have hrl : rb < w.heap.size := HC.out.ring.lt
    have hslt : sb < w.heap.size := HC.out.lt
    have HSZ : Hid (∀ V, Keeps (fun k => k = w.heap.size) W V → Calls Tryz.prog 128 #[.pointer (some ⟨rb, 0, none⟩)] V fun e V' => e = .returned (.int .i64 size) ∧ V = V') := Lib.hid fun V hV => lsizeI (hCW.ring.keeps hV (by omega) (by omega))
    have c1 := hCW.c0
    have c2 := hCW.c1
    have c3 := hCW.c2
    have c4 := hCW.c3
    have c5 := hbk.cell
    simp only at c2
    have HF : Hid (∀ V, Keeps (fun k => k = w.heap.size) W V → V.cell? ⟨cb, 0, none⟩ = some (.pointer (some ⟨rb, 0, none⟩)) ∧ V.cell? ⟨cb, 1, none⟩ = some (.bool shut) ∧ V.cell? ⟨cb, 2, none⟩ = some v1 ∧ V.cell? ⟨cb, 3, none⟩ = some v2 ∧ V.cell? ⟨bn, 0, none⟩ = some (.slice ak nums.length ck)) := Lib.hid fun V hV => by
      have hc : ¬ cb = w.heap.size := by omega
      have hb : ¬ bn = w.heap.size := by omega
      exact ⟨hV.cell_of c1 hc, hV.cell_of c2 hc, hV.cell_of c3 hc, hV.cell_of c4 hc, hV.cell_of c5 hb⟩
    have HR : Hid (∀ V, Below W.heap.size W V → (V.cell? ⟨w.heap.size, 0, none⟩ = some x0 ∧ V.cell? ⟨w.heap.size, 1, none⟩ = some x1 ∧ V.cell? ⟨w.heap.size, 2, none⟩ = some x2 ∧ V.cell? ⟨w.heap.size, 3, none⟩ = some x3 ∧ V.cell? ⟨w.heap.size, 4, none⟩ = some x4) ∧
        V.frozen? ⟨w.heap.size, 0, none⟩ = false ∧ V.frozen? ⟨w.heap.size, 1, none⟩ = false ∧ V.frozen? ⟨w.heap.size, 2, none⟩ = false ∧ V.frozen? ⟨w.heap.size, 3, none⟩ = false ∧ V.frozen? ⟨w.heap.size, 4, none⟩ = false) := Lib.hid fun V hV => by
      have h0W : w.heap.size < W.heap.size := by omega
      exact ⟨⟨(hV.cell (p := ⟨w.heap.size, 0, none⟩) h0W).trans y0, (hV.cell (p := ⟨w.heap.size, 1, none⟩) h0W).trans y1, (hV.cell (p := ⟨w.heap.size, 2, none⟩) h0W).trans y2, (hV.cell (p := ⟨w.heap.size, 3, none⟩) h0W).trans y3, (hV.cell (p := ⟨w.heap.size, 4, none⟩) h0W).trans y4⟩,
        (hV.frozen (p := ⟨w.heap.size, 0, none⟩) h0W).trans z0, (hV.frozen (p := ⟨w.heap.size, 1, none⟩) h0W).trans z1, (hV.frozen (p := ⟨w.heap.size, 2, none⟩) h0W).trans z2, (hV.frozen (p := ⟨w.heap.size, 3, none⟩) h0W).trans z3, (hV.frozen (p := ⟨w.heap.size, 4, none⟩) h0W).trans z4⟩
    have HKW := Lib.hid hkW
    have HOK := Lib.hid hok
    clear hJ hCW hkA hr0 hn1 hn2 hkW hok hbk HC HA HJ HK9 HRA c0 hbox9 hcel9
    have hb0 : Below W.heap.size W W := Below.refl _ _
    go_wp2_with fail
    refine wp_region_noPanic ?_
    go_region_held3 (fun V : World => V.cell? ⟨cb, 0, none⟩ = some (.pointer (some ⟨rb, 0, none⟩)) ∧ V.cell? ⟨cb, 1, none⟩ = some (.bool shut) ∧ V.cell? ⟨cb, 2, none⟩ = some v1 ∧ V.cell? ⟨cb, 3, none⟩ = some v2 ∧ V.cell? ⟨bn, 0, none⟩ = some (.slice ak nums.length ck))
      (first | exact HF.out _ (Keeps.of_new (by assumption)) | exact HF.out _ (Keeps.of_new (Below.drew (by assumption))) | exact HF.out _ (set5 (Keeps.of_new (by assumption)) _ _ _ _ _) | exact HF.out _ (set5 (Keeps.of_new (Below.drew (by assumption))) _ _ _ _ _)) ((first
      | (go_at_call 128; refine (HSZ.out _ ?_).mono ?_; (first | exact Keeps.of_new (by assumption) | exact Keeps.of_new (Below.drew (by assumption))); rintro e V ⟨rfl, rfl⟩)
      | (go_at_call 67; refine (HS1.out _ ?_).mono ?_; (first | exact Keeps.of_new (by assumption) | exact Keeps.of_new (Below.drew (by assumption))); rintro e V1 ⟨a1, k1, rfl, hu1, hv1⟩; have hw1 : Below W.heap.size W V1 := (by first | exact bel_step (by assumption) hv1 | exact bel_step' (by assumption) hv1); obtain ⟨⟨p10, p11, p12, p13, p14⟩, f10, f11, f12, f13, f14⟩ := HR.out _ hw1)
      | (go_at_call 67; refine (HS2.out _ ?_).mono ?_; (first | exact Keeps.of_new (by assumption) | exact Keeps.of_new (Below.drew (by assumption))); rintro e V2 ⟨a2, k2, rfl, hu2, hv2⟩; have hw2 : Below W.heap.size W V2 := (by first | exact bel_step (by assumption) hv2 | exact bel_step' (by assumption) hv2); obtain ⟨⟨p20, p21, p22, p23, p24⟩, f20, f21, f22, f23, f24⟩ := HR.out _ hw2)))
    all_goals refine NoPanic.normal ?_
    all_goals (go_wp2_with fail)
    have HU1 := Lib.hid hu1
    have HV1 := Lib.hid hv1
    have HU2 := Lib.hid hu2
    have HV2 := Lib.hid hv2
    have HW2 := Lib.hid hw2
    have hkz := set5 (w := V2) (V := V2) (r := w.heap.size) (Keeps.refl _ _) (.int .i64 size) (.slice ak nums.length ck) (.bool shut) (.slice a1 sends.length k1) (.slice a2 recvs.length k2)
    obtain ⟨g0, g1, g2, g3, g4⟩ := get5 (V := V2) (r := w.heap.size) p20 p21 p22 p23 p24 (.int .i64 size) (.slice ak nums.length ck) (.bool shut) (.slice a1 sends.length k1) (.slice a2 recvs.length k2)
    generalize (((((V2.setCell ⟨w.heap.size, 0, none⟩ (.int .i64 size)).setCell ⟨w.heap.size, 1, none⟩ (.slice ak nums.length ck)).setCell ⟨w.heap.size, 2, none⟩ (.bool shut)).setCell ⟨w.heap.size, 3, none⟩ (.slice a1 sends.length k1)).setCell ⟨w.heap.size, 4, none⟩ (.slice a2 recvs.length k2)) = VZ at *
    have hDW : D < W.heap.size := (Array.getElem?_eq_some_iff.1 hK).1
    have hDr : ¬ D = w.heap.size := by omega
    have hK' : VZ.heap[D]? = some (.deferred (some [])) := by
      rw [hkz.block D (Nat.lt_of_lt_of_le hDW HW2.out.size) hDr, HW2.out.block D hDW]; exact hK
    have hkD : Keeps (fun k => k = D) VZ (VZ.putObj D (.deferred none)) := Keeps.of_grownBy (grownBy_putObj' VZ D _) fun k _ e => by injection e with e; exact e.symm
    have hno : ∀ {B : Nat} {t : TypeId} {n : Nat} {v : Value} {m : Nat} {cs : List Value}, VZ.ownsRow B t n v m cs → (VZ.putObj D (.deferred none)).ownsRow B t n v m cs := fun h => hkD.row h fun b hb e => by
      obtain ⟨o, h1, h2⟩ := rowCells h b hb
      rw [e, hK'] at h1; cases h1; cases h2
    have CK : ∀ {q : Addr} {x : Value}, VZ.cell? q = some x → (VZ.putObj D (.deferred none)).cell? q = some x := fun h => cell_kept h (grownBy_putObj' _ D (.deferred none)) (fun r e => by cases e; exact ⟨_, hK', rfl⟩)
    have e0 := CK g0
    have e1 := CK g1
    have e2 := CK g2
    have e3 := CK g3
    have e4 := CK g4
    have hbel : Below w.heap.size w (VZ.putObj D (.deferred none)) := ((HKW.out.trans' (Keeps.of_new HW2.out) fun i hi e => e).trans' hkz fun i hi e => by omega).trans' hkD (fun i hi e => by omega) |>.below (Nat.le_refl _) fun _ _ e => e.elim
    have hseen : SeenC (VZ.putObj D (.deferred none)) w.heap.size ⟨size, nums, shut, sends, recvs⟩ (.slice ak nums.length ck) (.slice a1 sends.length k1) (.slice a2 recvs.length k2) := by
      have hW2 : W.heap.size ≤ V2.heap.size := HW2.out.size
      have hV1s : W.heap.size ≤ V1.heap.size := HV1.out.size
      have r1 : V2.ownsRow W.heap.size 135 2 (.slice a1 sends.length k1) sends.length (cellsW sends) := (Keeps.of_new (S := fun _ => False) HV2.out).row HU1.out fun _ _ => id
      have r2 : V2.ownsRow W.heap.size 135 2 (.slice a2 recvs.length k2) recvs.length (cellsW recvs) := own_lower HU2.out hV1s
      have r0 : V2.ownsRow w9.heap.size 3 1 (.slice ak nums.length ck) nums.length (nums.map (Value.int .i64)) := (Keeps.of_new (S := fun _ => False) HW2.out).row HOK.out fun _ _ => id
      have off : ∀ {B : Nat} {t : TypeId} {n : Nat} {v : Value} {m : Nat} {cs : List Value}, w.heap.size < B → V2.ownsRow B t n v m cs → (VZ.putObj D (.deferred none)).ownsRow w.heap.size t n v m cs := fun hB h => hno (own_lower (hkz.row h fun b hb e => by have := (World.ownsRow.lt h b hb).1; omega) (by omega))
      exact ⟨off (by omega) r0, off (by omega) r1, off (by omega) r2⟩
    refine ⟨by simp, .inl ⟨_, _, rfl, run_takeDeferred hK', ?_⟩⟩
    exact ⟨.agg #[.int .i64 size, .slice ak nums.length ck, .bool shut, .slice a1 sends.length k1, .slice a2 recvs.length k2], by simp [results, Tryz.f94, go_sem, e0, e1, e2, e3, e4] <;> rfl, _, _, _, rfl, hseen, hbel⟩
  case stop =>
    rintro D c pre W _ _ h _
    exact h.elim
end Go.Proofs.YtnjdmijcoadidaaGreatDoor

namespace Go.Proofs.YtnjdmijcoadidaaGreatDoor
open Go.RowKit Go.Maps Pp

/-- What is seen of one channel, and where its rows lie. -/
structure Sn where
  c : Ch
  vn : Value
  u1 : Value
  u2 : Value
def cellsP (l : List Sn) : List Value := l.flatMap fun x => [.int .i64 (x.c.size : Int), x.vn, .bool x.c.shut, x.u1, x.u2]
theorem cellsP_append (a b : List Sn) : cellsP (a ++ b) = cellsP a ++ cellsP b := by simp [cellsP]
theorem cellsP_len (l : List Sn) : (cellsP l).length = l.length * 5 := by
  induction l with
  | nil => rfl
  | cons w r ih =>
    have : cellsP (w :: r) = .int .i64 (w.c.size : Int) :: w.vn :: .bool w.c.shut :: w.u1 :: w.u2 :: cellsP r := rfl
    rw [this]; simp only [List.length_cons, ih]; omega
/-- All that was looked at. -/
structure Looked (w : World) (B : Nat) (v : Value) (L : List Sn) : Prop where
  row : w.ownsRow B 76 5 v L.length (cellsP L)
  seen : ∀ x ∈ L, SeenC w B x.c x.vn x.u1 x.u2
theorem own_apart {w : World} {B B' : Nat} {t t' : TypeId} {n n' : Nat} {v v' : Value} {m m' : Nat} {cs cs' : List Value} (h : w.ownsRow B t n v m cs) (h' : w.ownsRow B' t' n' v' m' cs') (ht : t ≠ t') : ∀ b, v.ownBlock = some b → ¬ v'.ownBlock = some b := fun b hb hb' => by
  rcases h.2 with ⟨rfl, _⟩ | ⟨g, cap, cur, rfl, _, hg, _⟩
  · cases hb
  · rcases h'.2 with ⟨rfl, _⟩ | ⟨g', cap', cur', rfl, _, hg', _⟩
    · cases hb'
    · cases hb
      have e : g' = g := Option.some.inj hb'
      subst e
      rw [hg] at hg'
      injection hg' with hg'
      injection hg' with _ e2
      exact ht e2
theorem SeenC.keeps {S : Nat → Prop} {w w' : World} {B : Nat} {c : Ch} {vn u1 u2 : Value} (h : SeenC w B c vn u1 u2) (hk : Keeps S w w') (h0 : ∀ b, vn.ownBlock = some b → ¬ S b) (h1 : ∀ b, u1.ownBlock = some b → ¬ S b) (h2 : ∀ b, u2.ownBlock = some b → ¬ S b) : SeenC w' B c vn u1 u2 :=
  ⟨h.nums.keeps hk h0, hk.row h.sends h1, hk.row h.recvs h2⟩
theorem SeenC.mono {w : World} {B B' : Nat} {c : Ch} {vn u1 u2 : Value} (h : SeenC w B c vn u1 u2) (hB : B' ≤ B) : SeenC w B' c vn u1 u2 := ⟨own_lower h.nums hB, own_lower h.sends hB, own_lower h.recvs hB⟩
theorem own_slice {w : World} {B : Nat} {t : TypeId} {n : Nat} {v : Value} {m : Nat} {cs : List Value} (h : w.ownsRow B t n v m cs) : ∃ ao cap, v = .slice ao m cap := by
  rcases h.2 with ⟨rfl, h0⟩ | ⟨g, cap, cur, rfl, _⟩
  · exact ⟨none, 0, by rw [h0]⟩
  · exact ⟨_, _, rfl⟩
theorem Looked.new {w w' : World} {B : Nat} {v : Value} {L : List Sn} (h : Looked w B v L) (hb : Below w.heap.size w w') : Looked w' B v L :=
  ⟨(Keeps.of_new (S := fun _ => False) hb).row h.row fun _ _ => id, fun x hx => (h.seen x hx).keeps (Keeps.of_new (S := fun _ => False) hb) (fun _ _ => id) (fun _ _ => id) fun _ _ => id⟩
/-- An append of another row leaves it. -/
theorem SeenC.far {w w' : World} {B B' : Nat} {c : Ch} {vn u1 u2 v : Value} {m : Nat} {cs : List Value} (h : SeenC w B c vn u1 u2) (hr : w.ownsRow B' 76 5 v m cs) (hk : Keeps (fun b => v.ownBlock = some b) w w') : SeenC w' B c vn u1 u2 :=
  h.keeps hk (own_apart h.nums hr (by decide)) (own_apart h.sends hr (by decide)) (own_apart h.recvs hr (by decide))
theorem info_pipe : (Tryz.prog.info? 76).map (fun i => (i.zero, i.size, i.bytes)) = some (some (.agg #[.int .i64 0, .slice none 0 0, .bool false, .slice none 0 0, .slice none 0 0]), 5, 88) := by kernel_rfl
/-- 'l = append(l, x)'. -/
theorem wpList_appendSn {ops : Array Oper} {rest : List Oper} {o : Oper} {a : Act} {Q : Exit → Act → World → Prop} (hgd : o.guard = none) (s x : Operand)
    (ho : o.op = .call { callee := .builtin .append, args := #[s, x], argTypes := #[45, 45] }) (w : World) (B : Nat) (v : Value) (L : List Sn) (c : Ch) {a0 a1 a2 : Option Addr} {n0 n1 n2 k0 k1 k2 : Nat} (hown : Looked w B v L) (hs : a.eval s = v) {b : Nat} (hb : b = w.heap.size)
    (hseen : SeenC w B c (.slice a0 n0 k0) (.slice a1 n1 k1) (.slice a2 n2 k2))
    (hx : a.eval x = .slice (some ⟨b, 0, none⟩) 1 1) (hl : L.length ≤ 1000000) (hB : B ≤ w.heap.size)
    (h : ∀ ao' cap' w', Looked w' B (.slice ao' (L.length + 1) cap') (L ++ [Sn.mk c (.slice a0 n0 k0) (.slice a1 n1 k1) (.slice a2 n2 k2)]) → Keeps (fun b => v.ownBlock = some b) w w' →
      wpList Tryz.prog ops Q rest (a.put o.dst (.slice ao' (L.length + 1) cap')) w') : wpList Tryz.prog ops Q (o :: rest) a (w.alloc (.cells #[.int .i64 (c.size : Int), .slice a0 n0 k0, .bool c.shut, .slice a1 n1 k1, .slice a2 n2 k2] 76)) := by
  subst hb
  obtain ⟨i0, hi, hz0, hz1, hz2⟩ := tinfoP info_pipe
  have hnew : ∀ j u, [Value.int .i64 (c.size : Int), .slice a0 n0 k0, .bool c.shut, .slice a1 n1 k1, .slice a2 n2 k2][j]? = some u → (w.alloc (.cells #[.int .i64 (c.size : Int), .slice a0 n0 k0, .bool c.shut, .slice a1 n1 k1, .slice a2 n2 k2] 76)).cell? ((⟨w.heap.size, 0, none⟩ : Addr).add j) = some u := fun j u hu => by
    rw [addr_addP, World.cell?_alloc_at _ _ _ _ rfl]
    rcases j with _ | _ | _ | _ | _ | j
    · exact hu
    · exact hu
    · exact hu
    · exact hu
    · exact hu
    · simp at hu
  refine wpList_append_own_at _ hgd s x 45 ho B 76 i0 _ 5 88 Tryz.underlying45 hi hz0 hz1 hz2 rfl (by decide) v L.length (cellsP L) hs (World.ownsRow.alloc hown.row _) ⟨w.heap.size, 0, none⟩ 1 1 [.int .i64 (c.size : Int), .slice a0 n0 k0, .bool c.shut, .slice a1 n1 k1, .slice a2 n2 k2] hx rfl
    hnew (fun u hu => by simp at hu; rcases hu with rfl | rfl | rfl | rfl | rfl <;> rfl) (by unfold maxLen; omega) (by omega) (by simp; omega) ?_
  intro v' w' h1 h2 _ h4
  have hk := keeps_append h2 (S := fun b => v.ownBlock = some b) fun k e => e
  have hO : w'.ownsRow B 76 5 v' (L ++ [Sn.mk c (.slice a0 n0 k0) (.slice a1 n1 k1) (.slice a2 n2 k2)]).length (cellsP (L ++ [Sn.mk c (.slice a0 n0 k0) (.slice a1 n1 k1) (.slice a2 n2 k2)])) := by
    rw [cellsP_append, List.length_append]
    exact h1
  have hsl : ∃ ao' cap', v' = .slice ao' (L.length + 1) cap' := by
    rcases hO.2 with ⟨_, h0⟩ | ⟨g, cap, cur, rfl, _⟩
    · simp at h0
    · exact ⟨some ⟨g, 0, none⟩, cap, by rw [List.length_append]; rfl⟩
  obtain ⟨ao', cap', rfl⟩ := hsl
  refine h _ _ _ ⟨hO, fun y hy => ?_⟩ hk
  rcases List.mem_append.1 hy with hy | hy
  · exact (hown.seen y hy).far hown.row hk
  · rw [List.mem_singleton.1 hy]
    exact hseen.far hown.row hk

set_option maxRecDepth 100000 in
set_option maxHeartbeats 3200000 in
theorem look_any {w : World} {ρ : Nat → Role} {pb : Home} {N : Nat} {s : St} (h : Pipes w ρ pb N s) (hN : N ≤ 1000000) : Calls Tryz.prog 57 #[.pointer (some ⟨pb.b, 8, none⟩)] w fun e w' =>
    ∃ ao cap, e = .returned (.slice ao s.chs.length cap) ∧ ∃ L, L.map Sn.c = s.chs ∧ Looked w' w.heap.size (.slice ao s.chs.length cap) L ∧ Below w.heap.size w w' := by
  obtain ⟨ok, vch, ptr, mb, D, h⟩ := h
  obtain ⟨av, capv, rfl, h1, h2, h3⟩ := ptr_row h.row
  have HH := Lib.hid h
  have HO := Lib.hid ok
  have H3 := Lib.hid h3
  have HL := Lib.hid h.len
  have hpl : ptr.length ≤ 32 := by have := h.len; have := h.many; omega
  have c0 := h.c0
  clear h ok h3
  go_enter Tryz.func57, Tryz.ntmps57
  go_wp2_with fail
  go_loopw [3, 11] (fun l i W => ∃ (k : Nat) (a : Option Addr) (cap : Nat) (L : List Sn), k ≤ ptr.length ∧ i = .int .i64 k ∧ l = .slice a k cap ∧ L.map Sn.c = s.chs.take k ∧ Looked W w.heap.size (.slice a k cap) L ∧ Below w.heap.size w W) (fun _ i _ => ptr.length - (intOf i).toNat)
  case atStart => exact ⟨0, none, 0, [], Nat.zero_le _, rfl, rfl, rfl, ⟨World.ownsRow_nil _ _ _ _, fun _ h => by cases h⟩, Below.refl _ _⟩
  case round =>
    obtain ⟨k, a, cap, L, hk, rfl, rfl, hm, hlk, hb⟩ := hrel
    have HM := Lib.hid hm
    have HLK := Lib.hid hlk
    have HB := Lib.hid hb
    have hLl : Hid (L.length = k) := Lib.hid (by
      have := congrArg List.length HM.out
      rw [List.length_map, List.length_take] at this
      have := HL.out
      omega)
    clear hm hlk hb
    by_cases hlt : k < ptr.length
    · obtain ⟨g, rfl, hg⟩ := H3.out (by omega)
      obtain ⟨cb, hcb⟩ : ∃ cb, ptr[k]? = some cb := ⟨_, List.getElem?_eq_getElem hlt⟩
      obtain ⟨c, hc⟩ : ∃ c, s.chs[k]? = some c := ⟨_, List.getElem?_eq_getElem (by have := HL.out; omega)⟩
      have hgw := hg k cb hcb
      have hgW : wr.cell? ⟨g, k, none⟩ = some (.pointer (some ⟨cb, 0, none⟩)) := (HB.out.cell (p := ⟨g, k, none⟩) (block_lt_of_cell hgw)).trans hgw
      obtain ⟨rb, sb, v1, v2, hx⟩ := HH.out.chs k cb c hcb hc
      have hxr := HH.out.rows k c hc
      have hcap := HO.out.caps k c hc
      have hcl := lookC_any wr (hx.keeps (Keeps.of_new (S := fun _ => False) HB.out) fun _ _ _ => id) (by omega) (by omega) (by omega)
      have HC := Lib.hid hc
      have hki : (0 : Int) ≤ (k : Int) ∧ (k : Int) < (ptr.length : Int) := by omega
      have hk32 : k ≤ 32 := by omega
      clear hgw hx hxr hcap hg hcb hc
      go_wp2_with fail
      refine hcl.mono ?_
      rintro e w2 ⟨vn, u1, u2, rfl, hs2, hb2⟩
      obtain ⟨a0, k0, rfl⟩ := OwnI.slice hs2.nums
      obtain ⟨a1, k1, rfl⟩ := own_slice hs2.sends
      obtain ⟨a2, k2, rfl⟩ := own_slice hs2.recvs
      have HS2 := Lib.hid (hs2.mono HB.out.size)
      have HB2 := Lib.hid (bel_step HB.out hb2)
      have HL2 := Lib.hid (HLK.out.new hb2)
      have hsz2 : w.heap.size ≤ w2.heap.size := HB2.out.size
      clear hs2 hb2 hcl
      have hLl32 : L.length ≤ 1000000 := by have := hLl.out; omega
      go_wp2_with (at_builtin; refine wpList_appendSn rfl _ _ rfl _ w.heap.size _ L c HL2.out rfl rfl HS2.out rfl hLl32 hsz2 ?_)
      intro a3 k3 w3 h3 hk3
      rw [hLl.out] at h3 ⊢
      have HL3 := Lib.hid h3
      have HB3 : Hid (Below w.heap.size w w3) := Lib.hid (HB2.out.trans (hk3.below hsz2 fun b _ hb => (World.ownsRow.lt HL2.out.row b hb).1))
      clear h3 hk3
      go_wp2_with fail
      go_roundw
      case rel => exact ⟨k + 1, _, _, _, by omega, by go_num, rfl, by rw [List.map_append, HM.out, List.take_add_one, HC.out]; rfl, HL3.out, HB3.out⟩
      case measure => simp [intOf]; omega
    · obtain rfl : k = ptr.length := by omega
      have hkk : ¬ (ptr.length : Int) < (ptr.length : Int) := by omega
      go_wp2_with fail
      go_ret
      have hm := HM.out
      have hl := HL.out
      rw [List.take_of_length_le (by omega)] at hm
      rw [← hl]
      exact ⟨a, cap, rfl, L, hm, HLK.out, HB.out⟩
end Go.Proofs.YtnjdmijcoadidaaGreatDoor

namespace Go.Proofs.YtnjdmijcoadidaaGreatDoor
namespace Hp

abbrev E := Int × Int
/-- Ahead of: by the first number, then by the second one. -/
def lt (a b : E) : Prop := a.1 < b.1 ∨ (a.1 = b.1 ∧ a.2 < b.2)
instance (a b : E) : Decidable (lt a b) := by unfold lt; infer_instance
def le (a b : E) : Prop := ¬ lt b a
theorem le_trans {a b c : E} (h : le a b) (k : le b c) : le a c := by unfold le lt at *; omega
theorem le_of_lt {a b : E} (h : lt a b) : le a b := by unfold le lt at *; omega
theorem le_refl (a : E) : le a a := by unfold le lt; omega
theorem le_fst {a b : E} (h : le a b) : a.1 ≤ b.1 := by unfold le lt at h; omega

def g (l : List E) (k : Nat) : E := l.getD k (0, 0)
theorem g_eq {l : List E} {k : Nat} (h : k < l.length) : g l k = l[k] := by unfold g; rw [List.getD_eq_getElem?_getD, List.getElem?_eq_getElem h]; rfl
def sw (l : List E) (i j : Nat) : List E := (l.set i (g l j)).set j (g l i)
theorem sw_length (l : List E) (i j : Nat) : (sw l i j).length = l.length := by simp [sw]
theorem g_set (l : List E) (i k : Nat) (x : E) (hi : i < l.length) : g (l.set i x) k = if k = i then x else g l k := by
  unfold g
  rw [List.getD_eq_getElem?_getD, List.getElem?_set, List.getD_eq_getElem?_getD]
  by_cases h : i = k
  · subst h; rw [if_pos rfl, if_pos hi, if_pos rfl]; rfl
  · rw [if_neg h, if_neg (fun e => h e.symm)]
theorem g_sw {l : List E} {i j : Nat} (hi : i < l.length) (hj : j < l.length) (k : Nat) : g (sw l i j) k = if k = j then g l i else if k = i then g l j else g l k := by
  unfold sw
  rw [g_set _ _ _ _ (by simpa using hj), g_set _ _ _ _ hi]
theorem sw_perm {l : List E} {i j : Nat} (hi : i < l.length) (hj : j < l.length) : (sw l i j).Perm l := by
  unfold sw
  rw [g_eq hi, g_eq hj]
  exact List.set_set_perm hi hj

/-- The first n are a heap. -/
def Heap (l : List E) (n : Nat) : Prop := ∀ k, 0 < k → k < n → le (g l ((k - 1) / 2)) (g l k)
/-- But where j stands, which may go up. -/
structure Up (l : List E) (n j : Nat) : Prop where
  ord : ∀ k, 0 < k → k < n → k ≠ j → le (g l ((k - 1) / 2)) (g l k)
  gr : ∀ k, 0 < k → k < n → (k - 1) / 2 = j → 0 < j → le (g l ((j - 1) / 2)) (g l k)
theorem Up.step {l : List E} {n j : Nat} (h : Up l n j) (hn : n ≤ l.length) (hj : j < n) (h0 : 0 < j) (hl : lt (g l j) (g l ((j - 1) / 2))) : Up (sw l ((j - 1) / 2) j) n ((j - 1) / 2) := by
  have hp : (j - 1) / 2 < j := by omega
  have hs : ∀ k, g (sw l ((j - 1) / 2) j) k = if k = j then g l ((j - 1) / 2) else if k = (j - 1) / 2 then g l j else g l k := fun k => g_sw (by omega) (by omega) k
  refine ⟨fun k h1 h2 h3 => ?_, fun k h1 h2 h3 h4 => ?_⟩
  · rw [hs, hs]
    by_cases e : k = j
    · subst e
      rw [if_neg (by omega), if_pos rfl, if_pos rfl]
      exact le_of_lt hl
    · rw [if_neg e, if_neg h3]
      by_cases e1 : (k - 1) / 2 = j
      · rw [if_pos e1]; exact h.gr k h1 h2 e1 h0
      · rw [if_neg e1]
        by_cases e2 : (k - 1) / 2 = (j - 1) / 2
        · rw [if_pos e2]
          have := h.ord k h1 h2 e
          rw [e2] at this
          exact le_trans (le_of_lt hl) this
        · rw [if_neg e2]; exact h.ord k h1 h2 e
  · rw [hs, hs]
    have hq : ((j - 1) / 2 - 1) / 2 < (j - 1) / 2 := by omega
    have hA := h.ord ((j - 1) / 2) h4 (by omega) (by omega)
    rw [if_neg (by omega), if_neg (by omega)]
    by_cases e : k = j
    · rw [if_pos e]; exact hA
    · rw [if_neg e, if_neg (by omega)]
      have := h.ord k h1 h2 e
      rw [h3] at this
      exact le_trans hA this
theorem Up.stop {l : List E} {n j : Nat} (h : Up l n j) (h0 : j = 0 ∨ ¬ lt (g l j) (g l ((j - 1) / 2))) : Heap l n := fun k h1 h2 => by
  by_cases e : k = j
  · subst e
    rcases h0 with h0 | h0
    · omega
    · exact h0
  · exact h.ord k h1 h2 e

/-- On the way down from i0, being at i. -/
structure Down (l : List E) (n i0 i : Nat) : Prop where
  ord : ∀ k, 0 < k → k < n → (k - 1) / 2 ≠ i → (i = i0 → k ≠ i0) → le (g l ((k - 1) / 2)) (g l k)
  gr : ∀ k, 0 < k → k < n → (k - 1) / 2 = i → 0 < i → le (g l ((i - 1) / 2)) (g l k)
theorem Down.step {l : List E} {n i0 i j : Nat} (h : Down l n i0 i) (hn : n ≤ l.length) (hi0 : i0 ≤ i) (hj : j < n) (hc : (j - 1) / 2 = i) (h0 : 0 < j)
    (hm : ∀ k, 0 < k → k < n → (k - 1) / 2 = i → le (g l j) (g l k)) (hl : lt (g l j) (g l i)) : Down (sw l i j) n i0 j := by
  have hij : i < j := by omega
  have hs : ∀ k, g (sw l i j) k = if k = j then g l i else if k = i then g l j else g l k := fun k => g_sw (by omega) (by omega) k
  refine ⟨fun k h1 h2 h3 h4 => ?_, fun k h1 h2 h3 h4 => ?_⟩
  · rw [hs, hs, if_neg h3]
    by_cases e : k = j
    · subst e
      rw [if_pos hc, if_pos rfl]
      exact le_of_lt hl
    · rw [if_neg e]
      by_cases e1 : k = i
      · subst e1
        rw [if_neg (by omega), if_pos rfl]
        exact h.gr j h0 hj hc h1
      · rw [if_neg e1]
        by_cases e2 : (k - 1) / 2 = i
        · rw [if_pos e2]; exact hm k h1 h2 e2
        · rw [if_neg e2]; exact h.ord k h1 h2 e2 (fun e3 => by omega)
  · rw [hs, hs, if_neg (by omega), if_pos hc, if_neg (by omega), if_neg (by omega)]
    have := h.ord k h1 h2 (by omega) (fun e3 => by omega)
    rw [h3] at this
    exact this
theorem Down.moved {l : List E} {n i0 i : Nat} (h : Down l n i0 i) (hne : i ≠ i0) (hst : ∀ k, 0 < k → k < n → (k - 1) / 2 = i → le (g l i) (g l k)) : Heap l n := fun k h1 h2 => by
  by_cases e : (k - 1) / 2 = i
  · rw [e]; exact hst k h1 h2 e
  · exact h.ord k h1 h2 e (fun e3 => absurd e3 hne)
theorem Down.stays {l : List E} {n i0 : Nat} (h : Down l n i0 i0) (hst : ∀ k, 0 < k → k < n → (k - 1) / 2 = i0 → le (g l i0) (g l k)) : Up l n i0 :=
  ⟨fun k h1 h2 h3 => by
    by_cases e : (k - 1) / 2 = i0
    · rw [e]; exact hst k h1 h2 e
    · exact h.ord k h1 h2 e (fun _ => h3), h.gr⟩
theorem Up.zero {l : List E} {n : Nat} (h : Up l n 0) : Heap l n := h.stop (Or.inl rfl)

/-- The last one laid in i's place: the way down from there begins. -/
theorem Heap.hole {l : List E} {n i : Nat} (h : Heap l (n + 1)) (hn : n + 1 = l.length) (hi : i < n) : Down (sw l i n) n i i := by
  have hs : ∀ k, g (sw l i n) k = if k = n then g l i else if k = i then g l n else g l k := fun k => g_sw (by omega) (by omega) k
  refine ⟨fun k h1 h2 h3 h4 => ?_, fun k h1 h2 h3 h4 => ?_⟩
  · rw [hs, hs, if_neg (by omega), if_neg h3, if_neg (by omega), if_neg (h4 rfl)]
    exact h k h1 (by omega)
  · rw [hs, hs, if_neg (by omega), if_neg (by omega), if_neg (by omega), if_neg (by omega)]
    have hA := h i h4 (by omega)
    have hB := h k h1 (by omega)
    rw [h3] at hB
    exact le_trans hA hB
theorem Heap.last {l : List E} {n : Nat} (h : Heap l (n + 1)) : Heap l n := fun k h1 h2 => h k h1 (by omega)
/-- One more behind all others: the way up from there begins. -/
theorem Heap.more {l : List E} (h : Heap l l.length) (x : E) : Up (l ++ [x]) (l.length + 1) l.length := by
  have hg : ∀ k, k < l.length → g (l ++ [x]) k = g l k := fun k hk => by
    rw [g_eq hk, g_eq (by simp; omega), List.getElem_append_left hk]
  refine ⟨fun k h1 h2 h3 => ?_, fun k h1 h2 h3 h4 => by omega⟩
  rw [hg k (by omega), hg _ (by omega)]
  exact h k h1 (by omega)
theorem Heap.root {l : List E} {n : Nat} (h : Heap l n) : ∀ k, k < n → le (g l 0) (g l k) := by
  intro k
  induction k using Nat.strongRecOn with
  | ind k ih =>
    intro hk
    by_cases e : k = 0
    · subst e; exact le_refl _
    · exact le_trans (ih ((k - 1) / 2) (by omega) (by omega)) (h k (by omega) hk)
theorem g_take {l : List E} {n k : Nat} (hk : k < n) : g (l.take n) k = g l k := by
  unfold g; rw [List.getD_eq_getElem?_getD, List.getElem?_take, if_pos hk, List.getD_eq_getElem?_getD]
theorem Heap.take {l : List E} {n : Nat} (h : Heap l n) : Heap (l.take n) n := fun k h1 h2 => by
  rw [g_take h2, g_take (by omega)]; exact h k h1 h2
theorem take_last {l : List E} {n : Nat} (hn : n + 1 = l.length) : l = l.take n ++ [g l n] := by
  conv => lhs; rw [← List.take_append_drop n l]
  rw [g_eq (by omega), List.drop_eq_getElem_cons (by omega), List.drop_of_length_le (by omega)]
theorem heap_nil : Heap [] 0 := fun k _ h => by omega
end Hp
end Go.Proofs.YtnjdmijcoadidaaGreatDoor

namespace Go.Proofs.YtnjdmijcoadidaaGreatDoor
open Go.RowKit Go.Maps

abbrev vE (e : Hp.E) : List Value := [.int .i64 e.1, .int .i64 e.2]
/-- The entries' cells. -/
def flatE (l : List Hp.E) : List Value := l.flatMap vE
theorem flatE_append (l m : List Hp.E) : flatE (l ++ m) = flatE l ++ flatE m := by unfold flatE; rw [List.flatMap_append]
theorem flatE_length (l : List Hp.E) : (flatE l).length = l.length * 2 := by
  induction l with
  | nil => rfl
  | cons e l ih => simp only [flatE, List.flatMap_cons, List.length_append] at ih ⊢; rw [ih]; simp; omega
theorem flatE_get (l : List Hp.E) (i : Nat) (h : i < l.length) : (flatE l)[i * 2]? = some (.int .i64 (Hp.g l i).1) ∧ (flatE l)[i * 2 + 1]? = some (.int .i64 (Hp.g l i).2) := by
  have e1 : flatE l = flatE (l.take i) ++ (vE l[i] ++ flatE (l.drop (i + 1))) := by
    conv => lhs; rw [← List.take_append_drop i l]
    rw [flatE_append, List.drop_eq_getElem_cons h]; rfl
  have e2 : (flatE (l.take i)).length = i * 2 := by rw [flatE_length, List.length_take]; omega
  rw [Hp.g_eq h, e1]
  constructor
  · rw [List.getElem?_append_right (by omega), e2, Nat.sub_self]; rfl
  · rw [List.getElem?_append_right (by omega), e2, Nat.add_sub_cancel_left]; rfl

/-- A queue behind its Clock's first field: its entries, its places, and what is less. -/
structure QAt (w : World) (cb : Nat) (v : Value) (mb : Nat) (l : List Hp.E) (D : DataW Unit) : Prop where
  c0 : w.cell? ⟨cb, 5, none⟩ = some v
  c1 : w.cell? ⟨cb, 6, none⟩ = some (.map (some mb))
  c2 : w.cell? ⟨cb, 7, none⟩ = some (.func (.func 143) #[] #[])
  z0 : w.frozen? ⟨cb, 5, none⟩ = false
  own : w.ownsRow 0 178 2 v l.length (flatE l)
  map : w.ownsMap Tryz.prog 3 (plainElem Tryz.prog 3) mb 1000000 D
  ne : v.ownBlock ≠ some cb
theorem QAt.lt {w : World} {cb mb : Nat} {v : Value} {l : List Hp.E} {D : DataW Unit} (h : QAt w cb v mb l D) : cb < w.heap.size := block_lt_of_cell h.c0
theorem QAt.nem {w : World} {cb mb : Nat} {v : Value} {l : List Hp.E} {D : DataW Unit} (h : QAt w cb v mb l D) : mb ≠ cb := fun e => by
  obtain ⟨es, ck, h1, _⟩ := h.map
  have := h.c0
  subst e
  simp [World.cell?, h1] at this
theorem QAt.nev {w : World} {cb mb : Nat} {v : Value} {l : List Hp.E} {D : DataW Unit} (h : QAt w cb v mb l D) : v.ownBlock ≠ some mb := fun e => by
  obtain ⟨es, ck, h1, _⟩ := h.map
  rcases h.own.2 with ⟨rfl, _⟩ | ⟨g, cap, cur, rfl, _, h2, _⟩
  · cases e
  · cases e
    rw [h1] at h2
    cases h2
/-- Its blocks. -/
def QF (cb mb : Nat) (v : Value) (b : Nat) : Prop := b = cb ∨ b = mb ∨ v.ownBlock = some b
theorem QAt.keeps {S : Nat → Prop} {w w' : World} {cb mb : Nat} {v : Value} {l : List Hp.E} {D : DataW Unit} (h : QAt w cb v mb l D) (k : Keeps S w w') (hs : ∀ b, QF cb mb v b → ¬ S b) : QAt w' cb v mb l D :=
  ⟨k.cell_of h.c0 (hs _ (Or.inl rfl)), k.cell_of h.c1 (hs _ (Or.inl rfl)), k.cell_of h.c2 (hs _ (Or.inl rfl)), by rw [k.frozen h.lt (hs _ (Or.inl rfl))]; exact h.z0,
    k.row h.own (fun b e => hs b (Or.inr (Or.inr e))), k.map h.map (hs _ (Or.inr (Or.inl rfl))), h.ne⟩
theorem QAt.next {w w' : World} {cb mb : Nat} {v : Value} {l : List Hp.E} {D : DataW Unit} (h : QAt w cb v mb l D) (hb : Below w.heap.size w w') : QAt w' cb v mb l D :=
  h.keeps (S := fun _ => False) (Keeps.of_new hb) (fun _ _ e => e)
theorem QAt.drewN {w : World} {cb mb : Nat} {v : Value} {l : List Hp.E} {D : DataW Unit} (h : QAt w cb v mb l D) (n : Nat) : QAt (w.drewN n) cb v mb l D := ⟨h.c0, h.c1, h.c2, h.z0, h.own, h.map, h.ne⟩
/-- The entries' slice, and its cells. -/
theorem QAt.slice {w : World} {cb mb : Nat} {v : Value} {l : List Hp.E} {D : DataW Unit} (h : QAt w cb v mb l D) : ∃ ao cap, v = .slice ao l.length cap ∧ (0 < l.length → ∃ eb, ao = some ⟨eb, 0, none⟩) := by
  rcases h.own.2 with ⟨rfl, h0⟩ | ⟨g, cap, cur, rfl, _⟩
  · exact ⟨none, 0, by rw [h0], fun hl => by omega⟩
  · exact ⟨_, _, rfl, fun _ => ⟨_, rfl⟩⟩
theorem QAt.cells {w : World} {cb mb eb n cap : Nat} {l : List Hp.E} {D : DataW Unit} (h : QAt w cb (.slice (some ⟨eb, 0, none⟩) n cap) mb l D) (i : Nat) (hi : i < l.length) :
    w.cell? ⟨eb, i * 2, none⟩ = some (.int .i64 (Hp.g l i).1) ∧ w.cell? ⟨eb, i * 2 + 1, none⟩ = some (.int .i64 (Hp.g l i).2) := by
  obtain ⟨h1, h2⟩ := flatE_get l i hi
  have ha : ∀ j, (⟨eb, 0, none⟩ : Addr).add j = ⟨eb, j, none⟩ := fun j => by unfold Addr.add; split <;> simp_all
  have k1 := World.ownsRow.cells h.own (g := eb) rfl _ _ h1
  have k2 := World.ownsRow.cells h.own (g := eb) rfl _ _ h2
  rw [ha] at k1 k2
  exact ⟨k1, k2⟩
theorem QAt.free {w : World} {cb mb eb n cap : Nat} {l : List Hp.E} {D : DataW Unit} (h : QAt w cb (.slice (some ⟨eb, 0, none⟩) n cap) mb l D) (j : Nat) : w.frozen? ⟨eb, j, none⟩ = false := by
  rcases h.own.2 with ⟨h0, _⟩ | ⟨g, cap', cur, e, _, h2, _⟩
  · cases h0
  · cases e
    simp [World.frozen?, h2]

/-- A queue's blocks alone may turn; the Clock's own time doesn't. -/
structure KQ (cb mb : Nat) (v : Value) (w w' : World) : Prop where
  k : Keeps (QF cb mb v) w w'
  n : ∀ j, j ≠ 5 → w'.cell? ⟨cb, j, none⟩ = w.cell? ⟨cb, j, none⟩
  z : ∀ j, w'.frozen? ⟨cb, j, none⟩ = w.frozen? ⟨cb, j, none⟩
theorem KQ.refl (cb mb : Nat) (v : Value) (w : World) : KQ cb mb v w w := ⟨Keeps.refl _ _, fun _ _ => rfl, fun _ => rfl⟩
theorem KQ.trans {cb mb : Nat} {v : Value} {a b c : World} (h : KQ cb mb v a b) (k : KQ cb mb v b c) : KQ cb mb v a c := ⟨h.k.trans k.k, fun j hj => (k.n j hj).trans (h.n j hj), fun j => (k.z j).trans (h.z j)⟩
theorem KQ.new {cb mb : Nat} {v : Value} {w w' : World} (hlt : cb < w.heap.size) (hb : Below w.heap.size w w') : KQ cb mb v w w' := ⟨Keeps.of_new hb, fun j _ => hb.cell (p := ⟨cb, j, none⟩) hlt, fun j => hb.frozen (p := ⟨cb, j, none⟩) hlt⟩
theorem KQ.rows {cb mb : Nat} {v : Value} {w w' : World} (h : Keeps (fun b => b = mb ∨ v.ownBlock = some b) w w') (hlt : cb < w.heap.size) (hm : mb ≠ cb) (hv : v.ownBlock ≠ some cb) : KQ cb mb v w w' :=
  ⟨h.mono fun _ _ e => Or.inr e, fun j _ => h.cell (p := ⟨cb, j, none⟩) hlt (fun e => e.elim (fun e => hm e.symm) hv), fun j => h.frozen (p := ⟨cb, j, none⟩) hlt (fun e => e.elim (fun e => hm e.symm) hv)⟩
theorem KQ.set1 {cb mb : Nat} {v : Value} {w w' : World} (h : KQ cb mb v w w') (u : Value) : KQ cb mb v w (w'.setCell ⟨cb, 5, none⟩ u) :=
  ⟨h.k.setCell (p := ⟨cb, 5, none⟩) (Or.inl (Or.inl rfl)) u, fun j hj => by rw [World.cell?_setCell_other _ _ _ _ (by intro e; injection e with _ e; omega)]; exact h.n j hj, fun j => by rw [World.frozen?_setCell]; exact h.z j⟩
theorem KQ.alloc {cb mb : Nat} {v : Value} {w w' : World} (h : KQ cb mb v w w') (hlt : cb < w'.heap.size) (o : Obj) : KQ cb mb v w (w'.alloc o) :=
  h.trans (KQ.new hlt ((Below.refl _ _).alloc (Nat.le_refl _) o))

set_option maxRecDepth 100000 in
set_option maxHeartbeats 1600000 in
theorem sooner_any (a b : Hp.E) (w : World) :
    Calls Tryz.prog 143 #[.agg #[.int .i64 a.1, .int .i64 a.2], .agg #[.int .i64 b.1, .int .i64 b.2]] w fun e w' => e = .returned (.bool (decide (Hp.lt a b))) ∧ Below w.heap.size w w' := by
  obtain ⟨a1, a2⟩ := a
  obtain ⟨b1, b2⟩ := b
  have hb : Below w.heap.size w ((w.alloc (.cells #[.int .i64 a1, .int .i64 a2] 178)).alloc (.cells #[.int .i64 b1, .int .i64 b2] 178)) := ((Below.refl _ _).alloc (Nat.le_refl _) _).alloc (by simp) _
  by_cases h : a1 = b1
  · subst h
    have hd : decide (Hp.lt (a1, a2) (a1, b2)) = decide (a2 < b2) := by rw [Bool.eq_iff_iff, decide_eq_true_eq, decide_eq_true_eq]; unfold Hp.lt; simp
    rw [hd]
    clear hd
    go_enter Tryz.func143, Tryz.ntmps143
    go_wp2_with fail
    go_ret
    exact ⟨rfl, hb⟩
  · have hd : decide (Hp.lt (a1, a2) (b1, b2)) = decide (a1 < b1) := by rw [Bool.eq_iff_iff, decide_eq_true_eq, decide_eq_true_eq]; unfold Hp.lt; simp [h]
    have hne : (a1 != b1) = true := by rw [bne_iff_ne]; exact h
    rw [hd]
    clear hd
    go_enter Tryz.func143, Tryz.ntmps143
    go_wp2_with fail
    go_ret
    exact ⟨rfl, hb⟩

set_option maxRecDepth 100000 in
set_option maxHeartbeats 1600000 in
theorem qlen_of (w : World) (cb : Nat) (ao : Option Addr) (n cap : Nat) (h : w.cell? ⟨cb, 5, none⟩ = some (.slice ao n cap)) :
    Calls Tryz.prog 72 #[.pointer (some ⟨cb, 5, none⟩)] w fun e w' => e = .returned (.int .i64 n) ∧ w = w' := by
  go_enter Tryz.func72, Tryz.ntmps72
  go_wp2_with fail
  go_ret
  exact ⟨rfl, rfl⟩

set_option maxRecDepth 100000 in
set_option maxHeartbeats 1600000 in
theorem less_any {cb mb : Nat} {v : Value} {l : List Hp.E} {D : DataW Unit} (w : World) (h : QAt w cb v mb l D) (i j : Nat) (hi : i < l.length) (hj : j < l.length) :
    Calls Tryz.prog 219 #[.pointer (some ⟨cb, 5, none⟩), .int .i64 i, .int .i64 j] w fun e w' => e = .returned (.bool (decide (Hp.lt (Hp.g l i) (Hp.g l j)))) ∧ Below w.heap.size w w' := by
  obtain ⟨ao, cap, rfl, hao⟩ := h.slice
  obtain ⟨eb, rfl⟩ := hao (by omega)
  have c0 := h.c0
  have c2 := h.c2
  obtain ⟨p1, p2⟩ := h.cells i hi
  obtain ⟨q1, q2⟩ := h.cells j hj
  have hii : (0 : Int) ≤ (i : Int) ∧ (i : Int) < (l.length : Int) := by omega
  have hjj : (0 : Int) ≤ (j : Int) ∧ (j : Int) < (l.length : Int) := by omega
  clear h hao
  have HSO : Hid (∀ W : World, Calls Tryz.prog 143 #[.agg #[.int .i64 (Hp.g l i).1, .int .i64 (Hp.g l i).2], .agg #[.int .i64 (Hp.g l j).1, .int .i64 (Hp.g l j).2]] W fun e w' => e = .returned (.bool (decide (Hp.lt (Hp.g l i) (Hp.g l j)))) ∧ Below W.heap.size W w') := Lib.hid fun W => sooner_any _ _ W
  generalize decide (Hp.lt (Hp.g l i) (Hp.g l j)) = d at *
  generalize Hp.g l i = a at *
  generalize Hp.g l j = b at *
  obtain ⟨a1, a2⟩ := a
  obtain ⟨b1, b2⟩ := b
  go_enter Tryz.func219, Tryz.ntmps219
  go_wp2_with fail
  go_still_tail 18, (by kernel_rfl)
  change wpList _ _ _ _ _ w.drew
  go_wp2_with fail
  refine (HSO.out _).mono ?_
  rintro e w' ⟨rfl, hb⟩
  go_wp2_with fail
  go_ret
  exact ⟨rfl, ⟨hb.os, hb.tape, hb.output, hb.size, hb.block⟩⟩
end Go.Proofs.YtnjdmijcoadidaaGreatDoor

namespace Go.Proofs.YtnjdmijcoadidaaGreatDoor
open Go.RowKit Go.Maps

theorem flatE_set (l : List Hp.E) (i : Nat) (h : i < l.length) (e : Hp.E) : ((flatE l).set (i * 2) (.int .i64 e.1)).set (i * 2 + 1) (.int .i64 e.2) = flatE (l.set i e) := by
  have e2 : (flatE (l.take i)).length = i * 2 := by rw [flatE_length, List.length_take]; omega
  have e1 : flatE l = flatE (l.take i) ++ (vE l[i] ++ flatE (l.drop (i + 1))) := by
    conv => lhs; rw [← List.take_append_drop i l]
    rw [flatE_append, List.drop_eq_getElem_cons h]; rfl
  have e3 : l.set i e = l.take i ++ e :: l.drop (i + 1) := by rw [List.set_eq_take_append_cons_drop, if_pos h]
  rw [e3, flatE_append, e1, List.set_append_right _ _ (by omega), List.set_append_right _ _ (by omega), e2, Nat.sub_self, Nat.add_sub_cancel_left]
  rfl
theorem flatE_sw (l : List Hp.E) (i j : Nat) (hi : i < l.length) (hj : j < l.length) :
    ((((flatE l).set (i * 2) (.int .i64 (Hp.g l j).1)).set (i * 2 + 1) (.int .i64 (Hp.g l j).2)).set (j * 2) (.int .i64 (Hp.g l i).1)).set (j * 2 + 1) (.int .i64 (Hp.g l i).2) = flatE (Hp.sw l i j) := by
  rw [flatE_set l i hi, flatE_set _ j (by simpa using hj)]; rfl

/-- Where each id lies: its place, by D. -/
structure Pl (l : List Hp.E) (D : DataW Unit) : Prop where
  has : ∀ id : Int, Maps.has D (.int .i64 id) = true ↔ ∃ i, i < l.length ∧ (Hp.g l i).2 = id
  place : ∀ i, i < l.length → D.atKey (.int .i64 (Hp.g l i).2) (.lit (.int .i64 0)) = .lit (.int .i64 (i : Int))
  wf : ∀ i, i < l.length → (Lit.int .i64 (Hp.g l i).2).wf = true
  len : l.length ≤ 1000
  size : Maps.size D = l.length
theorem Pl.inj {l : List Hp.E} {D : DataW Unit} (h : Pl l D) {i j : Nat} (hi : i < l.length) (hj : j < l.length) (e : (Hp.g l i).2 = (Hp.g l j).2) : i = j := by
  have h1 := h.place i hi
  rw [e, h.place j hj] at h1
  injection h1 with h1
  injection h1 with _ h1
  omega
theorem lit_ne {a b : Int} (h : a ≠ b) : (Lit.int .i64 a) ≠ (Lit.int .i64 b) := fun e => h (by injection e)
theorem isKey (a : Int) : WideAt.IsKeyLit (Lit.int .i64 a) := trivial
theorem Pl.tidy2 {D : DataW Unit} (hD : Tidy D) (a b : Int) (x y : DataW Unit) : Tidy ((D.put (.int .i64 a) x).put (.int .i64 b) y) := (hD.put (isKey a) x).put (isKey b) y
theorem has_put {D : DataW Unit} (hD : Tidy D) (a id : Int) (x : DataW Unit) : Maps.has (D.put (.int .i64 a) x) (.int .i64 id) = true ↔ id = a ∨ Maps.has D (.int .i64 id) = true := by
  by_cases e : id = a
  · subst e
    rw [has_put_same hD.isMap (isKey id)]
    simp
  · rw [has_put_other (lit_ne e)]
    simp [e]
theorem at_put {D : DataW Unit} (hD : Tidy D) (a id : Int) (x z : DataW Unit) : (D.put (.int .i64 a) x).atKey (.int .i64 id) z = if id = a then x else D.atKey (.int .i64 id) z := by
  by_cases e : id = a
  · subst e
    rw [atKey_put_same hD.isMap (isKey id), if_pos rfl]
  · rw [atKey_put_other (lit_ne e), if_neg e]
theorem Pl.swap {l : List Hp.E} {D : DataW Unit} (h : Pl l D) (hD : Tidy D) {i j : Nat} (hi : i < l.length) (hj : j < l.length) :
    Pl (Hp.sw l i j) ((D.put (.int .i64 (Hp.g l j).2) (.lit (.int .i64 (i : Int)))).put (.int .i64 (Hp.g l i).2) (.lit (.int .i64 (j : Int)))) := by
  have hs : ∀ k, Hp.g (Hp.sw l i j) k = if k = j then Hp.g l i else if k = i then Hp.g l j else Hp.g l k := fun k => Hp.g_sw hi hj k
  have hl := Hp.sw_length l i j
  have hD1 := hD.put (isKey (Hp.g l j).2) (.lit (.int .i64 (i : Int)))
  have hasj : Maps.has D (.int .i64 (Hp.g l j).2) = true := (h.has _).2 ⟨j, hj, rfl⟩
  have hasi : Maps.has D (.int .i64 (Hp.g l i).2) = true := (h.has _).2 ⟨i, hi, rfl⟩
  refine ⟨fun id => ?_, fun k hk => ?_, fun k hk => ?_, by rw [hl]; exact h.len, ?_⟩
  · rw [has_put hD1, has_put hD, h.has]
    constructor
    · rintro (rfl | rfl | ⟨k, hk, rfl⟩)
      · exact ⟨j, by rw [hl]; exact hj, by rw [hs, if_pos rfl]⟩
      · by_cases e : i = j
        · subst e; exact ⟨i, by rw [hl]; exact hi, by rw [hs, if_pos rfl]⟩
        · exact ⟨i, by rw [hl]; exact hi, by rw [hs, if_neg e, if_pos rfl]⟩
      · by_cases e1 : k = j
        · subst e1
          by_cases e : i = k
          · subst e; exact ⟨i, by rw [hl]; exact hi, by rw [hs, if_pos rfl]⟩
          · exact ⟨i, by rw [hl]; exact hi, by rw [hs, if_neg e, if_pos rfl]⟩
        · by_cases e2 : k = i
          · subst e2; exact ⟨j, by rw [hl]; exact hj, by rw [hs, if_pos rfl]⟩
          · exact ⟨k, by rw [hl]; exact hk, by rw [hs, if_neg e1, if_neg e2]⟩
    · rintro ⟨k, hk, rfl⟩
      rw [hl] at hk
      rw [hs]
      split
      · exact Or.inl rfl
      · split
        · exact Or.inr (Or.inl rfl)
        · exact Or.inr (Or.inr ⟨k, hk, rfl⟩)
  · rw [hl] at hk
    rw [at_put hD1, at_put hD, hs]
    by_cases e1 : k = j
    · rw [if_pos e1, if_pos rfl, e1]
    · rw [if_neg e1]
      by_cases e2 : k = i
      · rw [if_pos e2, if_neg (fun e => e1 (e2.trans (h.inj hj hi e).symm)), if_pos rfl, e2]
      · rw [if_neg e2, if_neg (fun e => e2 (h.inj hk hi e)), if_neg (fun e => e1 (h.inj hk hj e))]
        exact h.place k hk
  · rw [hl] at hk
    rw [hs]
    split
    · exact h.wf i hi
    · split
      · exact h.wf j hj
      · exact h.wf k hk
  · rw [size_put hD1, size_put hD, if_pos hasj, if_pos ((has_put hD _ _ _).2 (Or.inr hasi)), h.size, hl]
theorem ownsMap_fit {w : World} {R : Value → Option (DataW Unit × List MemPlace)} {b n : Nat} {D : DataW Unit} (h : w.ownsMap Tryz.prog 3 R b n D) (hs : Maps.size D ≤ 1000000) : w.ownsMap Tryz.prog 3 R b 1000000 D := by
  obtain ⟨es, ck, h1, h2, h3, h4⟩ := h
  refine ⟨es, ck, h1, h2, ?_, h4⟩
  rw [h4, Maps.size_eq, length_sorted, List.length_map] at hs
  simpa using hs
theorem keyedI : Keyed Tryz.prog 3 := int_keyed Tryz.underlying3
theorem zero_int (w : World) : (zeroValue 3).run Tryz.prog w = .ok (.int .i64 0) w := by kernel_rfl

/-- The row behind the exchange. -/
theorem swapped {w : World} {eb n cap : Nat} {xs : List Value} (h : w.ownsRow 0 178 2 (.slice (some ⟨eb, 0, none⟩) n cap) n xs) (p q : Nat) (a b c d : Value) :
    ((((w.setCell ⟨eb, p, none⟩ a).setCell ⟨eb, p + 1, none⟩ b).setCell ⟨eb, q, none⟩ c).setCell ⟨eb, q + 1, none⟩ d).ownsRow 0 178 2 (.slice (some ⟨eb, 0, none⟩) n cap) n ((((xs.set p a).set (p + 1) b).set q c).set (q + 1) d) :=
  (World.ownsRow.stored (World.ownsRow.stored (World.ownsRow.stored (World.ownsRow.stored h p a).1 (p + 1) b).1 q c).1 (q + 1) d).1

theorem keeps_own {S : Nat → Prop} {w : World} (p : Addr) (u : Value) (h : S p.block) : Keeps S w (w.setCell p u) := (Keeps.refl S w).setCell (Or.inl h) u
theorem QAt.rowed {w w' : World} {cb mb eb n cap : Nat} {l l' : List Hp.E} {D : DataW Unit} (h : QAt w cb (.slice (some ⟨eb, 0, none⟩) n cap) mb l D) (hk : Keeps (fun b => b = eb) w w')
    (hr : w'.ownsRow 0 178 2 (.slice (some ⟨eb, 0, none⟩) n cap) l'.length (flatE l')) : QAt w' cb (.slice (some ⟨eb, 0, none⟩) n cap) mb l' D := by
  have hne : cb ≠ eb := fun e => h.ne (by rw [e]; rfl)
  have hnm : mb ≠ eb := fun e => h.nev (by rw [e]; rfl)
  exact ⟨hk.cell_of h.c0 hne, hk.cell_of h.c1 hne, hk.cell_of h.c2 hne, by rw [hk.frozen h.lt hne]; exact h.z0, hr, hk.map h.map hnm, h.ne⟩
theorem QAt.drew {w : World} {cb mb : Nat} {v : Value} {l : List Hp.E} {D : DataW Unit} (h : QAt w cb v mb l D) : QAt w.drew cb v mb l D := ⟨h.c0, h.c1, h.c2, h.z0, h.own, h.map, h.ne⟩
theorem keeps4 {w : World} {eb : Nat} (p q r t : Nat) (a b c d : Value) : Keeps (fun b => b = eb) w ((((w.setCell ⟨eb, p, none⟩ a).setCell ⟨eb, q, none⟩ b).setCell ⟨eb, r, none⟩ c).setCell ⟨eb, t, none⟩ d) :=
  ((((Keeps.refl (fun b : Nat => b = eb) w).setCell (S := fun b : Nat => b = eb) (p := ⟨eb, p, none⟩) (Or.inl rfl) a).setCell (p := ⟨eb, q, none⟩) (Or.inl rfl) b).setCell (p := ⟨eb, r, none⟩) (Or.inl rfl) c).setCell (p := ⟨eb, t, none⟩) (Or.inl rfl) d
theorem QAt.swapped {w : World} {cb mb eb cap : Nat} {l : List Hp.E} {D : DataW Unit} (h : QAt w cb (.slice (some ⟨eb, 0, none⟩) l.length cap) mb l D) {i j : Nat} (hi : i < l.length) (hj : j < l.length) {a b : Hp.E} (ha : Hp.g l i = a) (hb : Hp.g l j = b) :
    QAt ((((w.setCell ⟨eb, i * 2, none⟩ (.int .i64 b.1)).setCell ⟨eb, i * 2 + 1, none⟩ (.int .i64 b.2)).setCell ⟨eb, j * 2, none⟩ (.int .i64 a.1)).setCell ⟨eb, j * 2 + 1, none⟩ (.int .i64 a.2)).drew cb (.slice (some ⟨eb, 0, none⟩) l.length cap) mb (Hp.sw l i j) D ∧ Keeps (fun b => b = eb) w ((((w.setCell ⟨eb, i * 2, none⟩ (.int .i64 b.1)).setCell ⟨eb, i * 2 + 1, none⟩ (.int .i64 b.2)).setCell ⟨eb, j * 2, none⟩ (.int .i64 a.1)).setCell ⟨eb, j * 2 + 1, none⟩ (.int .i64 a.2)).drew := by
  have hr := Go.Proofs.YtnjdmijcoadidaaGreatDoor.swapped h.own (i * 2) (j * 2) (.int .i64 b.1) (.int .i64 b.2) (.int .i64 a.1) (.int .i64 a.2)
  rw [← ha, ← hb, flatE_sw l i j hi hj, ha, hb, ← Hp.sw_length l i j] at hr
  rw [Hp.sw_length] at hr
  have hk := keeps4 (w := w) (eb := eb) (i * 2) (i * 2 + 1) (j * 2) (j * 2 + 1) (.int .i64 b.1) (.int .i64 b.2) (.int .i64 a.1) (.int .i64 a.2)
  generalize ((((w.setCell ⟨eb, i * 2, none⟩ (.int .i64 b.1)).setCell ⟨eb, i * 2 + 1, none⟩ (.int .i64 b.2)).setCell ⟨eb, j * 2, none⟩ (.int .i64 a.1)).setCell ⟨eb, j * 2 + 1, none⟩ (.int .i64 a.2)) = W at *
  exact ⟨(h.rowed hk (by rw [Hp.sw_length]; exact hr)).drew, hk.drew⟩
theorem QAt.putMap {w w' : World} {cb mb : Nat} {v : Value} {l : List Hp.E} {D D' : DataW Unit} (h : QAt w cb v mb l D) (hm : w'.ownsMap Tryz.prog 3 (plainElem Tryz.prog 3) mb 1000000 D') (hg : w.grownBy w' (some mb)) : QAt w' cb v mb l D' := by
  have hk : Keeps (fun b => b = mb) w w' := Keeps.of_grownBy hg fun k _ e => by cases e; rfl
  exact ⟨hk.cell_of h.c0 (fun e => h.nem e.symm), hk.cell_of h.c1 (fun e => h.nem e.symm), hk.cell_of h.c2 (fun e => h.nem e.symm), by rw [hk.frozen h.lt (fun e => h.nem e.symm)]; exact h.z0,
    hk.row h.own (fun b e e2 => h.nev (by rw [e, e2])), hm, h.ne⟩
theorem undrewG {w w' : World} {r : Option Nat} (h : w.drew.grownBy w' r) : w.grownBy w' r := ⟨h.os, h.tape, h.output, h.size, h.block⟩
theorem keeps_undrew {S : Nat → Prop} {w w' : World} (h : Keeps S w.drew w') : Keeps S w w' := ⟨h.os, h.tape, h.output, h.size, h.block⟩

set_option maxRecDepth 100000 in
set_option maxHeartbeats 3200000 in
theorem swap_any {cb mb : Nat} {v : Value} {l : List Hp.E} {D : DataW Unit} (w : World) (h : QAt w cb v mb l D) (hp : Pl l D) (i j : Nat) (hi : i < l.length) (hj : j < l.length) (hne : i ≠ j) :
    Calls Tryz.prog 222 #[.pointer (some ⟨cb, 5, none⟩), .int .i64 i, .int .i64 j] w fun e w' => e = .returned (.tuple #[]) ∧ ∃ D', QAt w' cb v mb (Hp.sw l i j) D' ∧ Pl (Hp.sw l i j) D' ∧ KQ cb mb v w w' := by
  have HH := Lib.hid h
  have HP := Lib.hid hp
  obtain ⟨ao, cap, rfl, hao⟩ := h.slice
  obtain ⟨eb, rfl⟩ := hao (by omega)
  have c0 := h.c0
  have c1 := h.c1
  obtain ⟨p1, p2⟩ := h.cells i hi
  obtain ⟨q1, q2⟩ := h.cells j hj
  have f1 := h.free (i * 2)
  have f2 := h.free (i * 2 + 1)
  have f3 := h.free (j * 2)
  have f4 := h.free (j * 2 + 1)
  have hii : (0 : Int) ≤ (i : Int) ∧ (i : Int) < (l.length : Int) := by omega
  have hjj : (0 : Int) ≤ (j : Int) ∧ (j : Int) < (l.length : Int) := by omega
  have ne1 : i * 2 ≠ j * 2 := by omega
  have ne2 : i * 2 ≠ j * 2 + 1 := by omega
  have ne3 : i * 2 + 1 ≠ j * 2 := by omega
  have hcbe : cb ≠ eb := fun e => h.ne (by rw [e]; rfl)
  clear h hp hao
  generalize hae : Hp.g l i = a at *
  generalize hbe : Hp.g l j = b at *
  have HA := Lib.hid hae
  have HBE := Lib.hid hbe
  clear hae hbe
  obtain ⟨a1, a2⟩ := a
  obtain ⟨b1, b2⟩ := b
  go_enter Tryz.func222, Tryz.ntmps222
  go_wp2_with fail
  go_region
  obtain ⟨HQ1, HK1⟩ := HH.out.swapped hi hj HA.out HBE.out
  generalize ((((w.setCell ⟨eb, i * 2, none⟩ (.int .i64 b1)).setCell ⟨eb, i * 2 + 1, none⟩ (.int .i64 b2)).setCell ⟨eb, j * 2, none⟩ (.int .i64 a1)).setCell ⟨eb, j * 2 + 1, none⟩ (.int .i64 a2)).drew = W1 at *
  have HL : Hid ((Hp.sw l i j).length = l.length) := Lib.hid (Hp.sw_length l i j)
  have HGI : Hid (Hp.g (Hp.sw l i j) i = (b1, b2)) := Lib.hid (by rw [Hp.g_sw hi hj, if_neg hne, if_pos rfl, HBE.out])
  have HGJ : Hid (Hp.g (Hp.sw l i j) j = (a1, a2)) := Lib.hid (by rw [Hp.g_sw hi hj, if_pos rfl, HA.out])
  have HT : Hid (Tidy D) := Lib.hid (HQ1.map.tidy keyedI)
  have HPS : Hid (Pl (Hp.sw l i j) ((D.put (.int .i64 b2) (.lit (.int .i64 (i : Int)))).put (.int .i64 a2) (.lit (.int .i64 (j : Int))))) := Lib.hid (by
    have := HP.out.swap HT.out hi hj
    rwa [HA.out, HBE.out] at this)
  have hwb : (Lit.int .i64 b2).wf = true := by have := HP.out.wf j hj; rwa [HBE.out] at this
  have hwa : (Lit.int .i64 a2).wf = true := by have := HP.out.wf i hi; rwa [HA.out] at this
  have hlen := HP.out.len
  have HWB := Lib.hid hwb
  have HWA := Lib.hid hwa
  clear hwa hwb
  generalize hlp : Hp.sw l i j = l' at *
  have HLP := Lib.hid hlp
  clear hlp
  have c0' := HQ1.c0
  have c1' := HQ1.c1
  obtain ⟨p1', p2'⟩ := HQ1.cells i (by rw [HL.out]; exact hi)
  obtain ⟨q1', q2'⟩ := HQ1.cells j (by rw [HL.out]; exact hj)
  rw [HGI.out] at p1' p2'
  rw [HGJ.out] at q1' q2'
  have HQ1H := Lib.hid HQ1
  have HK1H := Lib.hid HK1
  clear HQ1 HK1 c0 c1 p1 p2 q1 q2 f1 f2 f3 f4
  go_wp2_with fail
  go_still_tail 13, (by kernel_rfl)
  change wpList _ _ _ _ _ W1.drew
  go_wp2_with (at_mapUpdate; refine wpList_mapUpdate_own _ rfl _ _ _ 92 rfl 3 3 keyedI Tryz.underlying92 _ mb 1000000 D rfl HQ1H.out.map (by unfold maxLen; omega) _ _ _ rfl rfl (keyOf_int_mk Tryz.underlying3 HWB.out) _ [] (plainElem_int Tryz.underlying3 (WalkArith.wf_i64 (by omega))) ?_; intro w2 hown2 hgrow2)
  have hT1 := HT.out.put (isKey b2) (.lit (.int .i64 (i : Int)))
  have hasj : Maps.has D (.int .i64 b2) = true := (HP.out.has _).2 ⟨j, hj, by rw [HBE.out]⟩
  have hasi : Maps.has D (.int .i64 a2) = true := (HP.out.has _).2 ⟨i, hi, by rw [HA.out]⟩
  have hz1 : Maps.size (D.put (.int .i64 b2) (.lit (.int .i64 (i : Int)))) = l.length := by rw [size_put HT.out, if_pos hasj, HP.out.size]
  have hz2 : Maps.size ((D.put (.int .i64 b2) (.lit (.int .i64 (i : Int)))).put (.int .i64 a2) (.lit (.int .i64 (j : Int)))) = l.length := by
    rw [size_put hT1, if_pos ((has_put HT.out _ _ _).2 (Or.inr hasi)), hz1]
  have HQ2 := Lib.hid (HQ1H.out.putMap (ownsMap_fit hown2 (by omega)) (undrewG hgrow2))
  have HK2 : Hid (Keeps (fun b => b = mb) W1 w2) := Lib.hid (Keeps.of_grownBy (undrewG hgrow2) fun k _ e => by cases e; rfl)
  have HZ2 := Lib.hid hz2
  clear hz1 hz2 hT1 hasi hasj hown2 hgrow2 c0' c1' p1' p2' q1' q2'
  generalize D.put (.int .i64 b2) (.lit (.int .i64 (i : Int))) = D1 at *
  have c0'' := HQ2.out.c0
  have c1'' := HQ2.out.c1
  obtain ⟨q1'', q2''⟩ := HQ2.out.cells j (by rw [HL.out]; exact hj)
  rw [HGJ.out] at q1'' q2''
  go_still_tail 13, (by kernel_rfl)
  change wpList _ _ _ _ _ w2.drew
  go_wp2_with (at_mapUpdate; refine wpList_mapUpdate_own _ rfl _ _ _ 92 rfl 3 3 keyedI Tryz.underlying92 _ mb 1000000 D1 rfl HQ2.out.map (by unfold maxLen; omega) _ _ _ rfl rfl (keyOf_int_mk Tryz.underlying3 HWA.out) _ [] (plainElem_int Tryz.underlying3 (WalkArith.wf_i64 (by omega))) ?_; intro w3 hown3 hgrow3)
  have HQ3 := Lib.hid (HQ2.out.putMap (ownsMap_fit hown3 (by have := HZ2.out; omega)) (undrewG hgrow3))
  have HK3 : Hid (Keeps (fun b => b = mb) w2 w3) := Lib.hid (Keeps.of_grownBy (undrewG hgrow3) fun k _ e => by cases e; rfl)
  go_end0
  rw [HLP.out]
  exact ⟨rfl, _, HQ3.out, HPS.out, KQ.rows ((HK1H.out.mono (fun b _ e => Or.inr (by rw [e]; rfl))).trans ((HK2.out.trans HK3.out).mono (fun b _ e => Or.inl e))) HH.out.lt HH.out.nem HH.out.ne⟩
set_option maxRecDepth 100000 in
set_option maxHeartbeats 3200000 in
theorem swap_same {cb mb : Nat} {v : Value} {l : List Hp.E} {D : DataW Unit} (w : World) (h : QAt w cb v mb l D) (hp : Pl l D) (i : Nat) (hi : i < l.length) :
    Calls Tryz.prog 222 #[.pointer (some ⟨cb, 5, none⟩), .int .i64 i, .int .i64 i] w fun e w' => e = .returned (.tuple #[]) ∧ ∃ D', QAt w' cb v mb (Hp.sw l i i) D' ∧ Pl (Hp.sw l i i) D' ∧ KQ cb mb v w w' := by
  have HH := Lib.hid h
  have HP := Lib.hid hp
  obtain ⟨ao, cap, rfl, hao⟩ := h.slice
  obtain ⟨eb, rfl⟩ := hao (by omega)
  have c0 := h.c0
  have c1 := h.c1
  obtain ⟨p1, p2⟩ := h.cells i hi
  have f1 := h.free (i * 2)
  have f2 := h.free (i * 2 + 1)
  have hii : (0 : Int) ≤ (i : Int) ∧ (i : Int) < (l.length : Int) := by omega
  have hcbe : cb ≠ eb := fun e => h.ne (by rw [e]; rfl)
  clear h hp hao
  generalize hae : Hp.g l i = a at *
  have HA := Lib.hid hae
  clear hae
  obtain ⟨a1, a2⟩ := a
  go_enter Tryz.func222, Tryz.ntmps222
  go_wp2_with fail
  go_region
  obtain ⟨HQ1, HK1⟩ := HH.out.swapped hi hi HA.out HA.out
  generalize ((((w.setCell ⟨eb, i * 2, none⟩ (.int .i64 a1)).setCell ⟨eb, i * 2 + 1, none⟩ (.int .i64 a2)).setCell ⟨eb, i * 2, none⟩ (.int .i64 a1)).setCell ⟨eb, i * 2 + 1, none⟩ (.int .i64 a2)).drew = W1 at *
  have HL : Hid ((Hp.sw l i i).length = l.length) := Lib.hid (Hp.sw_length l i i)
  have HGI : Hid (Hp.g (Hp.sw l i i) i = (a1, a2)) := Lib.hid (by rw [Hp.g_sw hi hi, if_pos rfl, HA.out])
  have HT : Hid (Tidy D) := Lib.hid (HQ1.map.tidy keyedI)
  have HPS : Hid (Pl (Hp.sw l i i) ((D.put (.int .i64 a2) (.lit (.int .i64 (i : Int)))).put (.int .i64 a2) (.lit (.int .i64 (i : Int))))) := Lib.hid (by
    have := HP.out.swap HT.out hi hi
    rwa [HA.out] at this)
  have hwb : (Lit.int .i64 a2).wf = true := by have := HP.out.wf i hi; rwa [HA.out] at this
  have hlen := HP.out.len
  have HWB := Lib.hid hwb
  clear hwb
  generalize hlp : Hp.sw l i i = l' at *
  have HLP := Lib.hid hlp
  clear hlp
  have c0' := HQ1.c0
  have c1' := HQ1.c1
  obtain ⟨p1', p2'⟩ := HQ1.cells i (by rw [HL.out]; exact hi)
  rw [HGI.out] at p1' p2'
  have HQ1H := Lib.hid HQ1
  have HK1H := Lib.hid HK1
  clear HQ1 HK1 c0 c1 p1 p2 f1 f2
  go_wp2_with fail
  go_still_tail 13, (by kernel_rfl)
  change wpList _ _ _ _ _ W1.drew
  go_wp2_with (at_mapUpdate; refine wpList_mapUpdate_own _ rfl _ _ _ 92 rfl 3 3 keyedI Tryz.underlying92 _ mb 1000000 D rfl HQ1H.out.map (by unfold maxLen; omega) _ _ _ rfl rfl (keyOf_int_mk Tryz.underlying3 HWB.out) _ [] (plainElem_int Tryz.underlying3 (WalkArith.wf_i64 (by omega))) ?_; intro w2 hown2 hgrow2)
  have hT1 := HT.out.put (isKey a2) (.lit (.int .i64 (i : Int)))
  have hasj : Maps.has D (.int .i64 a2) = true := (HP.out.has _).2 ⟨i, hi, by rw [HA.out]⟩
  have hz1 : Maps.size (D.put (.int .i64 a2) (.lit (.int .i64 (i : Int)))) = l.length := by rw [size_put HT.out, if_pos hasj, HP.out.size]
  have hz2 : Maps.size ((D.put (.int .i64 a2) (.lit (.int .i64 (i : Int)))).put (.int .i64 a2) (.lit (.int .i64 (i : Int)))) = l.length := by
    rw [size_put hT1, if_pos ((has_put HT.out _ _ _).2 (Or.inr hasj)), hz1]
  have HQ2 := Lib.hid (HQ1H.out.putMap (ownsMap_fit hown2 (by omega)) (undrewG hgrow2))
  have HK2 : Hid (Keeps (fun b => b = mb) W1 w2) := Lib.hid (Keeps.of_grownBy (undrewG hgrow2) fun k _ e => by cases e; rfl)
  have HZ2 := Lib.hid hz2
  clear hz1 hz2 hT1 hasj hown2 hgrow2 c0' c1' p1' p2'
  generalize D.put (.int .i64 a2) (.lit (.int .i64 (i : Int))) = D1 at *
  have c0'' := HQ2.out.c0
  have c1'' := HQ2.out.c1
  obtain ⟨q1'', q2''⟩ := HQ2.out.cells i (by rw [HL.out]; exact hi)
  rw [HGI.out] at q1'' q2''
  go_still_tail 13, (by kernel_rfl)
  change wpList _ _ _ _ _ w2.drew
  go_wp2_with (at_mapUpdate; refine wpList_mapUpdate_own _ rfl _ _ _ 92 rfl 3 3 keyedI Tryz.underlying92 _ mb 1000000 D1 rfl HQ2.out.map (by unfold maxLen; omega) _ _ _ rfl rfl (keyOf_int_mk Tryz.underlying3 HWB.out) _ [] (plainElem_int Tryz.underlying3 (WalkArith.wf_i64 (by omega))) ?_; intro w3 hown3 hgrow3)
  have HQ3 := Lib.hid (HQ2.out.putMap (ownsMap_fit hown3 (by have := HZ2.out; omega)) (undrewG hgrow3))
  have HK3 : Hid (Keeps (fun b => b = mb) w2 w3) := Lib.hid (Keeps.of_grownBy (undrewG hgrow3) fun k _ e => by cases e; rfl)
  go_end0
  rw [HLP.out]
  exact ⟨rfl, _, HQ3.out, HPS.out, KQ.rows ((HK1H.out.mono (fun b _ e => Or.inr (by rw [e]; rfl))).trans ((HK2.out.trans HK3.out).mono (fun b _ e => Or.inl e))) HH.out.lt HH.out.nem HH.out.ne⟩
end Go.Proofs.YtnjdmijcoadidaaGreatDoor

namespace Go.Proofs.YtnjdmijcoadidaaGreatDoor
open Go.RowKit Go.Maps

/-- 'append(s, e)' on a row of the call's own, as one step of a region that draws. -/
theorem step_appendE {ops : Array Oper} {o : Oper} {a : Act} {w : World} {K : Act → World → Prop} {Q : Exit → Act → World → Prop} {E : Prop}
    (hg : o.guard = none) (s x : Operand) (hop : o.op = Op.call { callee := Callee.builtin Builtin.append, args := #[s, x], argTypes := #[91, 91] })
    (i : TypeInfo) (h2 : Tryz.prog.info? 178 = some i) (h3 : i.zero = some (.agg #[.int .i64 0, .int .i64 0])) (h4 : i.size = 2) (h5 : i.bytes = 16)
    (v : Value) (n : Nat) (xs : List Value) (hown : w.ownsRow 0 178 2 v n xs) (hn : n ≤ 1000)
    (ad : Addr) (x1 x2 : Int) (hc : ∀ j u, [Value.int .i64 x1, Value.int .i64 x2][j]? = some u → w.cell? (ad.add j) = some u)
    (hs : a.eval s = v) (hx : a.eval x = .slice (some ad) 1 1)
    (hK : ∀ ao' cap' w', w'.ownsRow 0 178 2 (.slice ao' (n + 1) cap') (n + 1) (xs ++ [Value.int .i64 x1, Value.int .i64 x2]) → w.grownBy w' v.ownBlock →
      (∀ k, (Value.slice ao' (n + 1) cap').ownBlock = some k → v.ownBlock = some k ∨ w.heap.size ≤ k) → K (a.put o.dst (.slice ao' (n + 1) cap')) w') :
    if Region.wanted o (yielded ops a.tmps) = true then Oper.wp Tryz.prog o a w K Q else E := by
  have hw : Region.wanted o (yielded ops a.tmps) = true := by simp [Region.wanted, hg]
  rw [if_pos hw]
  obtain ⟨v', w', hrun, r1, r2, _, r4⟩ := run_append_own_at (P := Tryz.prog) w 0 91 o.type 178 i (.agg #[.int .i64 0, .int .i64 0]) 2 16 Tryz.underlying91 h2 h3 h4 h5 rfl (by decide) v n xs hown ad 1 1 [.int .i64 x1, .int .i64 x2] rfl hc
    (fun u hu => by simp at hu; rcases hu with rfl | rfl <;> rfl) (by unfold maxLen; omega) (by omega) (Nat.zero_le _)
  have hv' : ∃ ao' cap', v' = .slice ao' (n + 1) cap' := by
    rcases r1.2 with ⟨_, h0⟩ | ⟨g, cap', cur, rfl, _⟩
    · omega
    · exact ⟨_, _, rfl⟩
  obtain ⟨ao', cap', rfl⟩ := hv'
  unfold Oper.wp
  simp [execOp, hop, resolve, invoke, builtin, hs, hx, hrun, Result.andThen]
  refine hK _ _ _ r1 r2 fun k hk => ?_
  rcases r4 with r4 | r4
  · exact Or.inl (r4 ▸ hk)
  · rw [r4] at hk; cases hk; exact Or.inr (Nat.le_refl _)

theorem QAt.pushed {w w' : World} {cb mb m : Nat} {v : Value} {ao' : Option Addr} {cap' : Nat} {l : List Hp.E} {D : DataW Unit} {a b : Int} (h : QAt w cb v mb l D) (hk : Keeps (fun b => v.ownBlock = some b) w w')
    (ho : w'.ownsRow 0 178 2 (.slice ao' m cap') (l.length + 1) (flatE l ++ [Value.int .i64 a, Value.int .i64 b])) (hne : (Value.slice ao' m cap').ownBlock ≠ some cb) :
    QAt (w'.setCell ⟨cb, 5, none⟩ (.slice ao' m cap')) cb (.slice ao' m cap') mb (l ++ [(a, b)]) D := by
  have hs : Keeps (fun b => b = cb) w' (w'.setCell ⟨cb, 5, none⟩ (.slice ao' m cap')) := (Keeps.refl (fun b : Nat => b = cb) w').setCell (S := fun b : Nat => b = cb) (p := ⟨cb, 5, none⟩) (Or.inl rfl) _
  have hc : ∀ o, (⟨cb, 5, none⟩ : Addr) ≠ ⟨cb, o + 6, none⟩ := fun o e => by injection e with _ e; omega
  refine ⟨World.cell?_setCell_same _ _ _ (hk.cell_of h.c0 h.ne), ?_, ?_, ?_, ?_, hs.map (hk.map h.map h.nev) h.nem, hne⟩
  · rw [World.cell?_setCell_other _ _ _ _ (hc 0)]; exact hk.cell_of h.c1 h.ne
  · rw [World.cell?_setCell_other _ _ _ _ (hc 1)]; exact hk.cell_of h.c2 h.ne
  · rw [World.frozen?_setCell, hk.frozen h.lt h.ne]; exact h.z0
  · rw [flatE_append, List.length_append]
    exact hs.row ho (fun k e e2 => hne (by rw [e, e2]))
theorem cell_two_new (w : World) (x y : Value) (t : TypeId) : ∀ j u, [x, y][j]? = some u → (w.alloc (.cells #[x, y] t)).cell? ((⟨w.heap.size, 0, none⟩ : Addr).add j) = some u := by
  intro j u hj
  match j, hj with
  | 0, hj => simp at hj; subst hj; simp [Addr.add]
  | 1, hj => simp at hj; subst hj; simp [Addr.add]

theorem info_entry : (Tryz.prog.info? 178).map (fun i => (i.zero, i.size, i.bytes)) = some (some (.agg #[.int .i64 0, .int .i64 0]), 2, 16) := by kernel_rfl
theorem entry_is (a b : Int) (w : World) : (Instr.typeAssert (.iface 178 (.agg #[.int .i64 a, .int .i64 b])) 20 178 true).run Tryz.prog w = .ok (.tuple #[.agg #[.int .i64 a, .int .i64 b], .bool true]) w := by kernel_rfl
theorem Pl.push {l : List Hp.E} {D : DataW Unit} (h : Pl l D) (hD : Tidy D) (a b : Int) (hn : ∀ i, i < l.length → (Hp.g l i).2 ≠ b) (hw : (Lit.int .i64 b).wf = true) (hl : l.length < 1000) : Pl (l ++ [(a, b)]) (D.put (.int .i64 b) (.lit (.int .i64 (l.length : Int)))) := by
  have g1 : ∀ k, k < l.length → Hp.g (l ++ [(a, b)]) k = Hp.g l k := fun k hk => by rw [Hp.g_eq hk, Hp.g_eq (by simp; omega), List.getElem_append_left hk]
  have g2 : Hp.g (l ++ [(a, b)]) l.length = (a, b) := by rw [Hp.g_eq (by simp), List.getElem_append_right (Nat.le_refl _)]; simp
  have hb : Maps.has D (.int .i64 b) = false := by
    cases hh : Maps.has D (.int .i64 b) with
    | false => rfl
    | true => obtain ⟨i, hi, e⟩ := (h.has b).1 hh; exact absurd e (hn i hi)
  refine ⟨fun id => ?_, fun k hk => ?_, fun k hk => ?_, by simp; omega, ?_⟩
  · rw [has_put hD, h.has]
    constructor
    · rintro (rfl | ⟨k, hk, rfl⟩)
      · exact ⟨l.length, by simp, by rw [g2]⟩
      · exact ⟨k, by simp; omega, by rw [g1 k hk]⟩
    · rintro ⟨k, hk, rfl⟩
      by_cases e : k < l.length
      · exact Or.inr ⟨k, e, by rw [g1 k e]⟩
      · obtain rfl : k = l.length := by simp at hk; omega
        exact Or.inl (by rw [g2])
  · rw [at_put hD]
    by_cases e : k < l.length
    · rw [g1 k e, if_neg (hn k e)]; exact h.place k e
    · obtain rfl : k = l.length := by simp at hk; omega
      rw [g2, if_pos rfl]
  · by_cases e : k < l.length
    · rw [g1 k e]; exact h.wf k e
    · obtain rfl : k = l.length := by simp at hk; omega
      rw [g2]; exact hw
  · rw [size_put hD, if_neg (by rw [hb]; simp), h.size]; simp

set_option maxRecDepth 100000 in
set_option maxHeartbeats 3200000 in
theorem qpush_any {cb mb : Nat} {v : Value} {l : List Hp.E} {D : DataW Unit} (w : World) (h : QAt w cb v mb l D) (hp : Pl l D) (a b : Int) (hn : ∀ i, i < l.length → (Hp.g l i).2 ≠ b) (hw : (Lit.int .i64 b).wf = true) (hl : l.length < 1000) :
    Calls Tryz.prog 221 #[.pointer (some ⟨cb, 5, none⟩), .iface 178 (.agg #[.int .i64 a, .int .i64 b])] w fun e w' => e = .returned (.tuple #[]) ∧ ∃ v' D', QAt w' cb v' mb (l ++ [(a, b)]) D' ∧ Pl (l ++ [(a, b)]) D' ∧ KQ cb mb v w w' ∧
      (∀ k, v'.ownBlock = some k → v.ownBlock = some k ∨ w.heap.size ≤ k) := by
  have HH := Lib.hid h
  have HP := Lib.hid hp
  have HT : Hid (Tidy D) := Lib.hid (h.map.tidy keyedI)
  have HPS := Lib.hid (hp.push HT.out a b hn hw hl)
  have HW := Lib.hid hw
  obtain ⟨i0, hi, hz0, hz1, hz2⟩ := info_parts info_entry
  have hz0' : i0.zero = some (.agg #[.int .i64 0, .int .i64 0]) := hz0
  have hea := entry_is a b
  have hlt := h.lt
  obtain ⟨ao, cap, rfl, -⟩ := h.slice
  have H1 := Lib.hid (h.next ((Below.refl _ w).alloc (Nat.le_refl _) (.cells #[.int .i64 a, .int .i64 b] 178)))
  have c0 := H1.out.c0
  have c1 := H1.out.c1
  clear h hp hn hw hz0
  go_enter Tryz.func221, Tryz.ntmps221
  go_wp2_with fail
  have hx0 : (w.alloc (.cells #[.int .i64 a, .int .i64 b] 178)).cell? ⟨w.heap.size, 0, none⟩ = some (.int .i64 a) := by simp
  have hx1 : (w.alloc (.cells #[.int .i64 a, .int .i64 b] 178)).cell? ⟨w.heap.size, 1, none⟩ = some (.int .i64 b) := by simp
  have hs0 : (w.alloc (.cells #[.int .i64 a, .int .i64 b] 178)).heap.size = w.heap.size + 1 := by simp
  have HK0 : Hid (Keeps (fun b => b = mb ∨ (Value.slice ao l.length cap).ownBlock = some b) w (w.alloc (.cells #[.int .i64 a, .int .i64 b] 178))) := Lib.hid ((Keeps.refl _ w).alloc _)
  have hs0' : w.heap.size < (w.alloc (.cells #[.int .i64 a, .int .i64 b] 178)).heap.size := by omega
  clear hs0
  generalize w.alloc (.cells #[.int .i64 a, .int .i64 b] 178) = W0 at *
  have HX0 := Lib.hid hx0
  have HX1 := Lib.hid hx1
  go_still_tail 11, (by kernel_rfl)
  change wpList _ _ _ _ _ W0.drew
  clear hx0 hx1 c0 c1
  have hlen : l.length ≤ 1000 := by omega
  have hnm : w.heap.size ≠ mb := fun e => by
    obtain ⟨es, ck, k1, _⟩ := H1.out.map
    have := HX0.out
    rw [e] at this
    simp [World.cell?, k1] at this
  have HNM := Lib.hid hnm
  have HKM : Hid (∀ W2 : World, W0.drew.grownBy W2 (some mb) → Keeps (fun b => b = mb) W0 W2) := Lib.hid fun W2 hg => Keeps.of_grownBy (undrewG hg) fun k _ e => by cases e; rfl
  have HQ2F : Hid (∀ W2 : World, W2.ownsMap Tryz.prog 3 (plainElem Tryz.prog 3) mb (1000000 + 1) (D.put (.int .i64 b) (.lit (.int .i64 (l.length : Int)))) → W0.drew.grownBy W2 (some mb) → QAt W2 cb (.slice ao l.length cap) mb l (D.put (.int .i64 b) (.lit (.int .i64 (l.length : Int))))) := Lib.hid fun W2 ho hg =>
    H1.out.putMap (ownsMap_fit ho (by have := HPS.out.size; rw [this]; simp; omega)) (undrewG hg)
  go_wp2_with (at_mapUpdate; refine wpList_mapUpdate_own _ rfl _ _ _ 92 rfl 3 3 keyedI Tryz.underlying92 _ mb 1000000 D rfl H1.out.map (by unfold maxLen; omega) _ _ _ rfl rfl (keyOf_int_mk Tryz.underlying3 HW.out) _ [] (plainElem_int Tryz.underlying3 (WalkArith.wf_i64 (by omega))) ?_; intro w2 hown2 hgrow2)
  have hk2 := HKM.out _ hgrow2
  have HQ2 := Lib.hid (HQ2F.out _ hown2 hgrow2)
  have c0 := HQ2.out.c0
  have z0 := HQ2.out.z0
  have hx0 : w2.cell? ⟨w.heap.size, 0, none⟩ = some (.int .i64 a) := hk2.cell_of HX0.out HNM.out
  have hx1 : w2.cell? ⟨w.heap.size, 1, none⟩ = some (.int .i64 b) := hk2.cell_of HX1.out HNM.out
  have HK2 := Lib.hid hk2
  clear hown2 hgrow2 hk2
  have HOWN : Hid ((w2.alloc (.cells #[.int .i64 a, .int .i64 b] 178)).drew.ownsRow 0 178 2 (.slice ao l.length cap) l.length (flatE l)) := Lib.hid (World.ownsRow.alloc HQ2.out.own _)
  have HC : Hid (∀ j u, [Value.int .i64 a, Value.int .i64 b][j]? = some u → (w2.alloc (.cells #[.int .i64 a, .int .i64 b] 178)).drew.cell? ((⟨w2.heap.size, 0, none⟩ : Addr).add j) = some u) := Lib.hid (cell_two_new w2 (.int .i64 a) (.int .i64 b) 178)
  have HKP : Hid (∀ w3 : World, (w2.alloc (.cells #[.int .i64 a, .int .i64 b] 178)).drew.grownBy w3 (Value.slice ao l.length cap).ownBlock → Keeps (fun b => (Value.slice ao l.length cap).ownBlock = some b) w2 w3) := Lib.hid fun w3 hg =>
    ((Keeps.refl (fun b => (Value.slice ao l.length cap).ownBlock = some b) w2).alloc (.cells #[.int .i64 a, .int .i64 b] 178)).trans' (Keeps.of_grownBy (undrewG hg) fun k _ e => e) fun _ _ e => e
  have HFZ : Hid (∀ w3 : World, Keeps (fun b => (Value.slice ao l.length cap).ownBlock = some b) w2 w3 → w3.cell? ⟨cb, 5, none⟩ = some (.slice ao l.length cap) ∧ w3.frozen? ⟨cb, 5, none⟩ = false) := Lib.hid fun w3 hk =>
    ⟨hk.cell_of HQ2.out.c0 HQ2.out.ne, by rw [hk.frozen (p := ⟨cb, 5, none⟩) HQ2.out.lt HQ2.out.ne]; exact HQ2.out.z0⟩
  have HSZ : Hid (w.heap.size ≤ w2.heap.size) := Lib.hid (Nat.le_trans HK0.out.size HK2.out.size)
  have HSZ2 : Hid ((w2.alloc (.cells #[.int .i64 a, .int .i64 b] 178)).drew.heap.size = w2.heap.size + 1) := Lib.hid (by simp)
  have hcb2 : cb < w2.heap.size := HQ2.out.lt
  have hcb3 : cb ≠ w2.heap.size := Nat.ne_of_lt hcb2
  have c0a : (w2.alloc (.cells #[.int .i64 a, .int .i64 b] 178)).cell? ⟨cb, 5, none⟩ = some (.slice ao l.length cap) := by rw [World.cell?_alloc_lt _ _ _ hcb2]; exact c0
  go_region_law (refine step_appendE rfl (.tmp 27) (.tmp 29) rfl i0 hi hz0' hz1 hz2 (.slice ao l.length cap) l.length (flatE l) HOWN.out hlen ⟨w2.heap.size, 0, none⟩ a b HC.out (by simp [Act.eval]) (by simp [Act.eval]) ?_; intro ao' cap' w3 hown3 hgrow3 hnew3; have hk3 := HKP.out _ hgrow3; obtain ⟨c03, z03⟩ := HFZ.out _ hk3; have HK3 := Lib.hid hk3; have HO3 := Lib.hid hown3; have HN3 := Lib.hid hnew3; clear hk3 hown3 hgrow3 hnew3)
  all_goals
    go_end0
    have hnew : ∀ k, (Value.slice ao' (l.length + 1) cap').ownBlock = some k → (Value.slice ao l.length cap).ownBlock = some k ∨ w2.heap.size ≤ k := fun k hk => by
      rcases HN3.out k hk with e | e
      · exact Or.inl e
      · rw [HSZ2.out] at e; exact Or.inr (by omega)
    have hcb : (Value.slice ao' (l.length + 1) cap').ownBlock ≠ some cb := fun e => by
      rcases hnew _ e with e2 | e2
      · exact HQ2.out.ne e2
      · have := HQ2.out.lt; omega
    refine ⟨rfl, _, _, HQ2.out.pushed HK3.out HO3.out hcb, HPS.out, ?_, fun k hk => ?_⟩
    · exact (KQ.rows ((HK0.out.trans (HK2.out.mono fun b _ e => Or.inl e)).trans (HK3.out.mono fun b _ e => Or.inr e)) HH.out.lt HH.out.nem HH.out.ne).set1 _
    · rcases hnew k hk with e | e
      · exact Or.inl e
      · exact Or.inr (Nat.le_trans HSZ.out e)
end Go.Proofs.YtnjdmijcoadidaaGreatDoor

namespace Go.Proofs.YtnjdmijcoadidaaGreatDoor
open Go.RowKit Go.Maps

theorem has_del {D : DataW Unit} (a id : Int) : Maps.has (D.del (.int .i64 a)) (.int .i64 id) = true ↔ id ≠ a ∧ Maps.has D (.int .i64 id) = true := by
  by_cases e : id = a
  · subst e
    rw [has_del_same]
    simp
  · rw [has_del_other (lit_ne e)]
    simp [e]
theorem Pl.pop {l : List Hp.E} {D : DataW Unit} (h : Pl l D) (hD : Tidy D) {n : Nat} (hn : n + 1 = l.length) : Pl (l.take n) (D.del (.int .i64 (Hp.g l n).2)) := by
  have hl : (l.take n).length = n := by rw [List.length_take]; omega
  have hg : ∀ k, k < n → Hp.g (l.take n) k = Hp.g l k := fun k hk => Hp.g_take hk
  have hap : ∀ k, k < n → (Hp.g l k).2 ≠ (Hp.g l n).2 := fun k hk e => by have := h.inj (i := k) (j := n) (by omega) (by omega) e; omega
  refine ⟨fun id => ?_, fun k hk => ?_, fun k hk => ?_, by rw [hl]; have := h.len; omega, ?_⟩
  · rw [has_del, h.has, hl]
    constructor
    · rintro ⟨hne, k, hk, rfl⟩
      have : k ≠ n := fun e => hne (by rw [e])
      exact ⟨k, by omega, by rw [hg k (by omega)]⟩
    · rintro ⟨k, hk, rfl⟩
      rw [hg k hk]
      exact ⟨hap k hk, k, by omega, rfl⟩
  · rw [hl] at hk
    rw [hg k hk, atKey_del_other (lit_ne (hap k hk))]
    exact h.place k (by omega)
  · rw [hl] at hk
    rw [hg k hk]; exact h.wf k (by omega)
  · have := size_del (k := .int .i64 (Hp.g l n).2) hD
    rw [if_pos ((h.has _).2 ⟨n, by omega, rfl⟩), h.size] at this
    omega

theorem QAt.cut {w : World} {cb mb eb n cap : Nat} {l : List Hp.E} {D : DataW Unit} (h : QAt w cb (.slice (some ⟨eb, 0, none⟩) l.length cap) mb l D) (hn : n + 1 = l.length) :
    QAt (w.setCell ⟨cb, 5, none⟩ (.slice (some ⟨eb, 0, none⟩) n cap)) cb (.slice (some ⟨eb, 0, none⟩) n cap) mb (l.take n) D := by
  have hs : Keeps (fun b => b = cb) w (w.setCell ⟨cb, 5, none⟩ (.slice (some ⟨eb, 0, none⟩) n cap)) := (Keeps.refl (fun b : Nat => b = cb) w).setCell (S := fun b : Nat => b = cb) (p := ⟨cb, 5, none⟩) (Or.inl rfl) _
  have hc : ∀ o, (⟨cb, 5, none⟩ : Addr) ≠ ⟨cb, o + 6, none⟩ := fun o e => by injection e with _ e; omega
  have hne : (Value.slice (some ⟨eb, 0, none⟩) n cap).ownBlock ≠ some cb := fun e => h.ne e
  have hl : (l.take n).length = n := by rw [List.length_take]; omega
  refine ⟨World.cell?_setCell_same _ _ _ h.c0, ?_, ?_, ?_, ?_, hs.map h.map h.nem, hne⟩
  · rw [World.cell?_setCell_other _ _ _ _ (hc 0)]; exact h.c1
  · rw [World.cell?_setCell_other _ _ _ _ (hc 1)]; exact h.c2
  · rw [World.frozen?_setCell]; exact h.z0
  · refine hs.row (v := .slice (some ⟨eb, 0, none⟩) n cap) ?_ (fun k e e2 => hne (by rw [e, e2]))
    obtain ⟨h1, h2⟩ := h.own
    rcases h2 with ⟨h2, _⟩ | ⟨g, cap', cur, e, h3, h4, h5, h6, h7, h8⟩
    · cases h2
    · cases e
      refine ⟨by rw [flatE_length], Or.inr ⟨eb, cap, cur, by rw [hl], h3, h4, by omega, h6, h7, ?_⟩⟩
      rw [hl]
      have ht : flatE (l.take n) = (flatE l).take (n * 2) := by
        conv => rhs; rw [← List.take_append_drop n l, flatE_append]
        rw [List.take_left' (by rw [flatE_length, hl])]
      rw [ht, ← h8, List.take_take]
      congr 1
      omega

set_option maxRecDepth 100000 in
set_option maxHeartbeats 3200000 in
theorem qpop_any {cb mb : Nat} {v : Value} {l : List Hp.E} {D : DataW Unit} (w : World) (h : QAt w cb v mb l D) (hp : Pl l D) (n : Nat) (hn : n + 1 = l.length) :
    Calls Tryz.prog 220 #[.pointer (some ⟨cb, 5, none⟩)] w fun e w' => (∃ x, e = .returned x) ∧ ∃ v' D', QAt w' cb v' mb (l.take n) D' ∧ Pl (l.take n) D' ∧ KQ cb mb v w w' ∧ v'.ownBlock = v.ownBlock := by
  have HH := Lib.hid h
  have HP := Lib.hid hp
  have HN := Lib.hid hn
  have HT : Hid (Tidy D) := Lib.hid (h.map.tidy keyedI)
  have HPS := Lib.hid (hp.pop HT.out hn)
  have HW := Lib.hid (hp.wf n (by omega))
  have hlen := hp.len
  obtain ⟨ao, cap, rfl, hao⟩ := h.slice
  obtain ⟨eb, rfl⟩ := hao (by omega)
  have hle : l.length ≤ cap := by
    rcases h.own.2 with ⟨h0, _⟩ | ⟨g, cap', cur, e, _, _, h3, _⟩
    · cases h0
    · cases e; exact h3
  have c0 := h.c0
  have z0 := h.z0
  have hlt := h.lt
  obtain ⟨p1, p2⟩ := h.cells n (by omega)
  have hni : (0 : Int) ≤ (n : Int) ∧ (n : Int) < (l.length : Int) := by omega
  have e1 : (l.length : Int) - 1 = (n : Int) := by omega
  generalize hae : Hp.g l n = a at *
  have HA := Lib.hid hae
  obtain ⟨a1, a2⟩ := a
  have heb : eb < w.heap.size := block_lt_of_cell p1
  clear h hp hao hae hn
  go_enter Tryz.func220, Tryz.ntmps220
  go_wp2_with fail
  have HQ2 : Hid (QAt ((w.setCell ⟨cb, 5, none⟩ (.slice (some ⟨eb, 0, none⟩) n cap)).alloc (.cells #[.int .i64 a1, .int .i64 a2] 178)) cb (.slice (some ⟨eb, 0, none⟩) n cap) mb (l.take n) D) :=
    Lib.hid ((HH.out.cut HN.out).next ((Below.refl _ _).alloc (Nat.le_refl _) _))
  have HK2 : Hid (KQ cb mb (.slice (some ⟨eb, 0, none⟩) l.length cap) w ((w.setCell ⟨cb, 5, none⟩ (.slice (some ⟨eb, 0, none⟩) n cap)).alloc (.cells #[.int .i64 a1, .int .i64 a2] 178))) :=
    Lib.hid (((KQ.refl cb mb (.slice (some ⟨eb, 0, none⟩) l.length cap) w).set1 _).alloc (by simpa using hlt) _)
  have hx0 : ((w.setCell ⟨cb, 5, none⟩ (.slice (some ⟨eb, 0, none⟩) n cap)).alloc (.cells #[.int .i64 a1, .int .i64 a2] 178)).cell? ⟨w.heap.size, 0, none⟩ = some (.int .i64 a1) := by
    rw [World.cell?_alloc_at _ _ _ _ (by simp)]; rfl
  have hx1 : ((w.setCell ⟨cb, 5, none⟩ (.slice (some ⟨eb, 0, none⟩) n cap)).alloc (.cells #[.int .i64 a1, .int .i64 a2] 178)).cell? ⟨w.heap.size, 1, none⟩ = some (.int .i64 a2) := by
    rw [World.cell?_alloc_at _ _ _ _ (by simp)]; rfl
  clear c0 z0 p1 p2
  generalize (w.setCell ⟨cb, 5, none⟩ (.slice (some ⟨eb, 0, none⟩) n cap)).alloc (.cells #[.int .i64 a1, .int .i64 a2] 178) = W2 at *
  have c1 := HQ2.out.c1
  have hnm : w.heap.size ≠ mb := fun e => by
    obtain ⟨es, ck, k1, _⟩ := HQ2.out.map
    rw [e] at hx0
    simp [World.cell?, k1] at hx0
  have HX : Hid (∀ w3 : World, W2.drew.mapTurned w3 mb → w3.cell? ⟨w.heap.size, 0, none⟩ = some (.int .i64 a1) ∧ w3.cell? ⟨w.heap.size, 1, none⟩ = some (.int .i64 a2)) := Lib.hid fun w3 ht => by
    have hk : Keeps (fun b => b = mb) W2 w3 := Keeps.of_grownBy (undrewG ht.grown) fun k _ e => by cases e; rfl
    exact ⟨hk.cell_of hx0 hnm, hk.cell_of hx1 hnm⟩
  go_still_tail 6, (by kernel_rfl)
  change wpList _ _ _ _ _ W2.drew
  go_wp2_with (at_delete; refine wpList_delete_own _ rfl _ _ 92 3 rfl 3 keyedI Tryz.underlying92 _ mb 1000000 D rfl HQ2.out.map _ _ rfl (keyOf_int_mk Tryz.underlying3 HW.out) ?_; intro w3 hown3 hturn3; obtain ⟨hy0, hy1⟩ := HX.out _ hturn3)
  go_ret
  have hk3 : Keeps (fun b => b = mb) W2 w3 := Keeps.of_grownBy (undrewG hturn3.grown) fun k _ e => by cases e; rfl
  exact ⟨⟨_, rfl⟩, _, _, HQ2.out.putMap hown3 (undrewG hturn3.grown), HPS.out, HK2.out.trans (KQ.rows (hk3.mono fun b _ e => Or.inl e) HQ2.out.lt HQ2.out.nem HH.out.ne), rfl⟩
end Go.Proofs.YtnjdmijcoadidaaGreatDoor

namespace Go.Proofs.YtnjdmijcoadidaaGreatDoor
open Go.RowKit Go.Maps

theorem qn_less (a : Addr) (w : World) : (nilAhead 471 191 (.pointer (some a)) "Less").run Tryz.prog w = .ok (some false) w := by kernel_rfl
theorem qm_less (a : Addr) (w : World) : (Go.method 471 191 (.pointer (some a)) "Less").run Tryz.prog w = .ok (219, .pointer (some a)) w := by kernel_rfl
theorem qn_swap (a : Addr) (w : World) : (nilAhead 471 191 (.pointer (some a)) "Swap").run Tryz.prog w = .ok (some false) w := by kernel_rfl
theorem qm_swap (a : Addr) (w : World) : (Go.method 471 191 (.pointer (some a)) "Swap").run Tryz.prog w = .ok (222, .pointer (some a)) w := by kernel_rfl
theorem qn_len (a : Addr) (w : World) : (nilAhead 471 191 (.pointer (some a)) "Len").run Tryz.prog w = .ok (some false) w := by kernel_rfl
theorem qm_len (a : Addr) (w : World) : (Go.method 471 191 (.pointer (some a)) "Len").run Tryz.prog w = .ok (72, .pointer (some a)) w := by kernel_rfl
theorem qn_push (a : Addr) (w : World) : (nilAhead 471 191 (.pointer (some a)) "Push").run Tryz.prog w = .ok (some false) w := by kernel_rfl
theorem qm_push (a : Addr) (w : World) : (Go.method 471 191 (.pointer (some a)) "Push").run Tryz.prog w = .ok (221, .pointer (some a)) w := by kernel_rfl
theorem qn_pop (a : Addr) (w : World) : (nilAhead 471 191 (.pointer (some a)) "Pop").run Tryz.prog w = .ok (some false) w := by kernel_rfl
theorem qm_pop (a : Addr) (w : World) : (Go.method 471 191 (.pointer (some a)) "Pop").run Tryz.prog w = .ok (220, .pointer (some a)) w := by kernel_rfl

/-- What a queue is while package heap is at work: of l's entries, those from n on as they were. -/
structure Sifted (w0 w : World) (cb : Nat) (v : Value) (mb : Nat) (l l' : List Hp.E) (n : Nat) (D' : DataW Unit) : Prop where
  q : QAt w cb v mb l' D'
  p : Pl l' D'
  len : l'.length = l.length
  perm : l'.Perm l
  same : ∀ k, n ≤ k → Hp.g l' k = Hp.g l k
  keeps : KQ cb mb v w0 w
theorem Sifted.next {w0 w w' : World} {cb mb n : Nat} {v : Value} {l l' : List Hp.E} {D' : DataW Unit} (h : Sifted w0 w cb v mb l l' n D') (hb : Below w.heap.size w w') : Sifted w0 w' cb v mb l l' n D' :=
  ⟨h.q.next hb, h.p, h.len, h.perm, h.same, h.keeps.trans (KQ.new h.q.lt hb)⟩
theorem Sifted.swap {w0 w w' : World} {cb mb n i j : Nat} {v : Value} {l l' : List Hp.E} {D' D'' : DataW Unit} (h : Sifted w0 w cb v mb l l' n D') (hi : i < n) (hj : j < n) (hn : n ≤ l.length)
    (hq : QAt w' cb v mb (Hp.sw l' i j) D'') (hp : Pl (Hp.sw l' i j) D'') (hk : KQ cb mb v w w') : Sifted w0 w' cb v mb l (Hp.sw l' i j) n D'' :=
  ⟨hq, hp, (Hp.sw_length _ _ _).trans h.len, (Hp.sw_perm (by have := h.len; omega) (by have := h.len; omega)).trans h.perm,
    fun k hk => by rw [Hp.g_sw (by have := h.len; omega) (by have := h.len; omega), if_neg (by omega), if_neg (by omega)]; exact h.same k hk, h.keeps.trans hk⟩

theorem half_cast (k : Nat) (h : 0 < k) : ((k : Int) - 1) / 2 = (((k - 1) / 2 : Nat) : Int) := by omega
theorem half_tdiv (k : Nat) (h : 0 < k) : ((k : Int) - 1).tdiv 2 = (((k - 1) / 2 : Nat) : Int) := by rw [Int.tdiv_eq_ediv_of_nonneg (by omega)]; omega

set_option maxRecDepth 100000 in
set_option maxHeartbeats 3200000 in
theorem up_any {cb mb : Nat} {v : Value} {l : List Hp.E} {D : DataW Unit} (w : World) (h : QAt w cb v mb l D) (hp : Pl l D) (n j : Nat) (hn : n ≤ l.length) (hj : j < n) (hu : Hp.Up l n j) :
    Calls Tryz.prog 172 #[.iface 191 (.pointer (some ⟨cb, 5, none⟩)), .int .i64 j] w fun e w' => e = .returned (.tuple #[]) ∧ ∃ l' D', Sifted w w' cb v mb l l' n D' ∧ Hp.Heap l' n := by
  have HS : Hid (Sifted w w cb v mb l l n D) := Lib.hid ⟨h, hp, rfl, List.Perm.refl _, fun _ _ => rfl, KQ.refl _ _ _ _⟩
  have HU := Lib.hid hu
  have hl1000 := hp.len
  have n1 := qn_less ⟨cb, 5, none⟩
  have n2 := qm_less ⟨cb, 5, none⟩
  have n3 := qn_swap ⟨cb, 5, none⟩
  have n4 := qm_swap ⟨cb, 5, none⟩
  clear h hp hu
  go_enter Tryz.func172, Tryz.ntmps172
  go_wp2_with fail
  go_loopw [1] (fun jv wr => ∃ (k : Nat) (l' : List Hp.E) (D' : DataW Unit), k < n ∧ jv = .int .i64 k ∧ Hp.Up l' n k ∧ Sifted w wr cb v mb l l' n D') (fun jv _ => (intOf jv).toNat)
  case atStart => exact ⟨j, l, D, hj, rfl, HU.out, HS.out⟩
  case round =>
    obtain ⟨k, l', D', hk, rfl, hup, hs⟩ := hrel
    clear HS HU
    have HS := Lib.hid hs
    have HU := Lib.hid hup
    clear hs hup
    by_cases hk0 : k = 0
    · subst hk0
      go_wp2_with fail
      go_end0
      exact ⟨rfl, l', D', HS.out, HU.out.stop (Or.inl rfl)⟩
    · have e1 := half_cast k (by omega)
      have e2 := half_tdiv k (by omega)
      have hpk : (k - 1) / 2 < k := by omega
      have HPE : Hid (∀ x, x = (k - 1) / 2 → Hp.lt (Hp.g l' k) (Hp.g l' x) → Hp.Up (Hp.sw l' x k) n x) := Lib.hid fun x hx hlt => by
        subst hx; exact HU.out.step (by have := HS.out.len; omega) hk (by omega) hlt
      have HST : Hid (∀ x, x = (k - 1) / 2 → ¬ Hp.lt (Hp.g l' k) (Hp.g l' x) → Hp.Heap l' n) := Lib.hid fun x hx hlt => by
        subst hx; exact HU.out.stop (Or.inr hlt)
      generalize hpe : (k - 1) / 2 = p at *
      have HE := Lib.hid hpe
      clear hpe
      have hlk : k < l'.length := by have := HS.out.len; omega
      have hpl : p < l'.length := by omega
      have g0 : ((p : Int) == (k : Int)) = false := by rw [beq_eq_false_iff_ne]; omega
      have g1 : (p == k) = false := by rw [beq_eq_false_iff_ne]; omega
      have g2 : decide (p = k) = false := by rw [decide_eq_false_iff_not]; omega
      go_wp2_with fail
      refine (less_any _ HS.out.q k p hlk hpl).mono ?_
      rintro e w2 ⟨rfl, hb2⟩
      have HS2 := Lib.hid (HS.out.next hb2)
      clear hb2
      by_cases hlt : Hp.lt (Hp.g l' k) (Hp.g l' p)
      · have hd : decide (Hp.lt (Hp.g l' k) (Hp.g l' p)) = true := by rw [decide_eq_true_eq]; exact hlt
        have HLT := Lib.hid hlt
        rw [hd]
        clear hd hlt
        go_wp2_with fail
        refine (swap_any _ HS2.out.q HS2.out.p p k hpl hlk (by omega)).mono ?_
        rintro e w3 ⟨rfl, D3, hq3, hp3, hk3⟩
        have HS3 := Lib.hid (HS2.out.swap (i := p) (j := k) (by omega) hk hn hq3 hp3 hk3)
        clear hq3 hp3 hk3
        go_wp2_with fail
        go_roundw
        case rel => exact ⟨p, _, D3, by omega, rfl, HPE.out p rfl HLT.out, HS3.out⟩
        case measure => simp [intOf]; omega
      · have hd : decide (Hp.lt (Hp.g l' k) (Hp.g l' p)) = false := by rw [decide_eq_false_iff_not]; exact hlt
        have HLT := Lib.hid hlt
        rw [hd]
        clear hd hlt
        go_wp2_with fail
        go_end0
        exact ⟨rfl, l', D', HS2.out, HST.out p rfl HLT.out⟩
end Go.Proofs.YtnjdmijcoadidaaGreatDoor

namespace Go.Proofs.YtnjdmijcoadidaaGreatDoor
open Go.RowKit Go.Maps

/-- What is left behind the way down. -/
theorem down_end {l : List Hp.E} {n i0 k : Nat} (h : Hp.Down l n i0 k) (hk : i0 ≤ k) (hst : ∀ c, 0 < c → c < n → (c - 1) / 2 = k → Hp.le (Hp.g l k) (Hp.g l c)) : (i0 < k → Hp.Heap l n) ∧ (¬ i0 < k → Hp.Up l n i0) := by
  refine ⟨fun hlt => h.moved (by omega) hst, fun hlt => ?_⟩
  obtain rfl : k = i0 := by omega
  exact h.stays hst

set_option maxRecDepth 100000 in
set_option maxHeartbeats 6400000 in
theorem down_any {cb mb : Nat} {v : Value} {l : List Hp.E} {D : DataW Unit} (w : World) (h : QAt w cb v mb l D) (hp : Pl l D) (n i0 : Nat) (hn : n ≤ l.length) (hi : i0 ≤ n) (hu : Hp.Down l n i0 i0) :
    Calls Tryz.prog 133 #[.iface 191 (.pointer (some ⟨cb, 5, none⟩)), .int .i64 i0, .int .i64 n] w fun e w' => ∃ (b : Bool) (l' : List Hp.E) (D' : DataW Unit), e = .returned (.bool b) ∧ Sifted w w' cb v mb l l' n D' ∧ (b = true → Hp.Heap l' n) ∧ (b = false → Hp.Up l' n i0) := by
  have HS : Hid (Sifted w w cb v mb l l n D) := Lib.hid ⟨h, hp, rfl, List.Perm.refl _, fun _ _ => rfl, KQ.refl _ _ _ _⟩
  have HU := Lib.hid hu
  have hl1000 := hp.len
  have n1 := qn_less ⟨cb, 5, none⟩
  have n2 := qm_less ⟨cb, 5, none⟩
  have n3 := qn_swap ⟨cb, 5, none⟩
  have n4 := qm_swap ⟨cb, 5, none⟩
  clear h hp hu
  go_enter Tryz.func133, Tryz.ntmps133
  go_wp2_with fail
  go_loopw [7] (fun jv wr => ∃ (k : Nat) (l' : List Hp.E) (D' : DataW Unit), i0 ≤ k ∧ k ≤ n ∧ jv = .int .i64 k ∧ Hp.Down l' n i0 k ∧ Sifted w wr cb v mb l l' n D') (fun jv _ => n - (intOf jv).toNat)
  case atStart => exact ⟨i0, l, D, Nat.le_refl _, hi, rfl, HU.out, HS.out⟩
  case round =>
    obtain ⟨k, l', D', hik, hk, rfl, hup, hs⟩ := hrel
    clear HS HU
    have HS := Lib.hid hs
    have HU := Lib.hid hup
    have hll : l.length ≤ l'.length := Nat.le_of_eq hs.len.symm
    clear hs hup
    by_cases hA : n ≤ 2 * k + 1
    · have HE := Lib.hid (down_end HU.out hik (fun c h1 h2 h3 => by omega))
      have dA : decide ((n : Int) ≤ 2 * (k : Int) + 1) = true := by rw [decide_eq_true_eq]; omega
      have hAi : (n : Int) ≤ 2 * (k : Int) + 1 := by omega
      go_wp2_with fail
      go_ret
      by_cases hm : i0 < k
      · exact ⟨true, l', D', by rw [← decide_eq_true hm]; rfl, HS.out, fun _ => HE.out.1 hm, fun h => Bool.noConfusion h⟩
      · exact ⟨false, l', D', by rw [← decide_eq_false hm]; rfl, HS.out, fun h => Bool.noConfusion h, fun _ => HE.out.2 hm⟩
    · have hAi : ¬ (n : Int) ≤ 2 * (k : Int) + 1 := by omega
      have dA : decide ((n : Int) ≤ 2 * (k : Int) + 1) = false := by rw [decide_eq_false_iff_not]; omega
      have dB : decide (2 * (k : Int) + 1 < 0) = false := by rw [decide_eq_false_iff_not]; omega
      have hBi : ¬ (2 * (k : Int) + 1 < 0) := by omega
      by_cases hB : 2 * k + 2 < n
      · have hCi : 2 * (k : Int) + 1 + 1 < (n : Int) := by omega
        have dC : decide (2 * (k : Int) + 1 + 1 < (n : Int)) = true := by rw [decide_eq_true_eq]; omega
        go_wp2_with fail
        rw [show (2 * (k : Int) + 1 + 1) = ((2 * k + 2 : Nat) : Int) from by omega, show (2 * (k : Int) + 1) = ((2 * k + 1 : Nat) : Int) from by omega]
        refine (less_any _ HS.out.q (2 * k + 2) (2 * k + 1) (by omega) (by omega)).mono ?_
        rintro e w4 ⟨rfl, hb4⟩
        have HS4 := Lib.hid (HS.out.next hb4)
        clear hb4
        by_cases hl2 : Hp.lt (Hp.g l' (2 * k + 2)) (Hp.g l' (2 * k + 1))
        · have HM : Hid (∀ c, 0 < c → c < n → (c - 1) / 2 = k → Hp.le (Hp.g l' (2 * k + 2)) (Hp.g l' c)) := Lib.hid fun c h1 h2 h3 => by
            rcases (by omega : c = 2 * k + 1 ∨ c = 2 * k + 2) with rfl | rfl
            · exact Hp.le_of_lt hl2
            · exact Hp.le_refl _
          have hd : decide (Hp.lt (Hp.g l' (2 * k + 2)) (Hp.g l' (2 * k + 1))) = true := by rw [decide_eq_true_eq]; exact hl2
          rw [hd]
          clear hd hl2
          go_wp2_with fail
          rw [show (2 * (k : Int) + 2) = ((2 * k + 2 : Nat) : Int) from by omega]
          refine (less_any _ HS4.out.q (2 * k + 2) k (by omega) (by omega)).mono ?_
          rintro e w5 ⟨rfl, hb5⟩
          have HS5 := Lib.hid (HS4.out.next hb5)
          clear hb5
          by_cases hlt : Hp.lt (Hp.g l' (2 * k + 2)) (Hp.g l' k)
          · have hd : decide (Hp.lt (Hp.g l' (2 * k + 2)) (Hp.g l' k)) = true := by rw [decide_eq_true_eq]; exact hlt
            have HD := Lib.hid (HU.out.step (j := 2 * k + 2) (by omega) hik (by omega) (by omega) (by omega) HM.out hlt)
            rw [hd]
            clear hd hlt
            go_wp2_with fail
            rw [show (2 * (k : Int) + 2) = ((2 * k + 2 : Nat) : Int) from by omega]
            refine (swap_any _ HS5.out.q HS5.out.p k (2 * k + 2) (by omega) (by omega) (by omega)).mono ?_
            rintro e w6 ⟨rfl, D6, hq6, hp6, hk6⟩
            have HS6 := Lib.hid (HS5.out.swap (i := k) (j := 2 * k + 2) (by omega) (by omega) hn hq6 hp6 hk6)
            clear hq6 hp6 hk6
            go_wp2_with fail
            go_roundw
            case rel => exact ⟨2 * k + 2, _, D6, by omega, by omega, by go_num, HD.out, HS6.out⟩
            case measure => simp [intOf]; omega
          · have hd : decide (Hp.lt (Hp.g l' (2 * k + 2)) (Hp.g l' k)) = false := by rw [decide_eq_false_iff_not]; exact hlt
            have HE := Lib.hid (down_end HU.out hik (fun c h1 h2 h3 => Hp.le_trans hlt (HM.out c h1 h2 h3)))
            rw [hd]
            clear hd hlt
            go_wp2_with fail
            go_ret
            by_cases hm : i0 < k
            · exact ⟨true, l', D', by rw [← decide_eq_true hm]; rfl, HS5.out, fun _ => HE.out.1 hm, fun h => Bool.noConfusion h⟩
            · exact ⟨false, l', D', by rw [← decide_eq_false hm]; rfl, HS5.out, fun h => Bool.noConfusion h, fun _ => HE.out.2 hm⟩
        · have HM : Hid (∀ c, 0 < c → c < n → (c - 1) / 2 = k → Hp.le (Hp.g l' (2 * k + 1)) (Hp.g l' c)) := Lib.hid fun c h1 h2 h3 => by
            rcases (by omega : c = 2 * k + 1 ∨ c = 2 * k + 2) with rfl | rfl
            · exact Hp.le_refl _
            · exact hl2
          have hd : decide (Hp.lt (Hp.g l' (2 * k + 2)) (Hp.g l' (2 * k + 1))) = false := by rw [decide_eq_false_iff_not]; exact hl2
          rw [hd]
          clear hd hl2
          go_wp2_with fail
          rw [show (2 * (k : Int) + 1) = ((2 * k + 1 : Nat) : Int) from by omega]
          refine (less_any _ HS4.out.q (2 * k + 1) k (by omega) (by omega)).mono ?_
          rintro e w5 ⟨rfl, hb5⟩
          have HS5 := Lib.hid (HS4.out.next hb5)
          clear hb5
          by_cases hlt : Hp.lt (Hp.g l' (2 * k + 1)) (Hp.g l' k)
          · have hd : decide (Hp.lt (Hp.g l' (2 * k + 1)) (Hp.g l' k)) = true := by rw [decide_eq_true_eq]; exact hlt
            have HD := Lib.hid (HU.out.step (j := 2 * k + 1) (by omega) hik (by omega) (by omega) (by omega) HM.out hlt)
            rw [hd]
            clear hd hlt
            go_wp2_with fail
            rw [show (2 * (k : Int) + 1) = ((2 * k + 1 : Nat) : Int) from by omega]
            refine (swap_any _ HS5.out.q HS5.out.p k (2 * k + 1) (by omega) (by omega) (by omega)).mono ?_
            rintro e w6 ⟨rfl, D6, hq6, hp6, hk6⟩
            have HS6 := Lib.hid (HS5.out.swap (i := k) (j := 2 * k + 1) (by omega) (by omega) hn hq6 hp6 hk6)
            clear hq6 hp6 hk6
            go_wp2_with fail
            go_roundw
            case rel => exact ⟨2 * k + 1, _, D6, by omega, by omega, by go_num, HD.out, HS6.out⟩
            case measure => simp [intOf]; omega
          · have hd : decide (Hp.lt (Hp.g l' (2 * k + 1)) (Hp.g l' k)) = false := by rw [decide_eq_false_iff_not]; exact hlt
            have HE := Lib.hid (down_end HU.out hik (fun c h1 h2 h3 => Hp.le_trans hlt (HM.out c h1 h2 h3)))
            rw [hd]
            clear hd hlt
            go_wp2_with fail
            go_ret
            by_cases hm : i0 < k
            · exact ⟨true, l', D', by rw [← decide_eq_true hm]; rfl, HS5.out, fun _ => HE.out.1 hm, fun h => Bool.noConfusion h⟩
            · exact ⟨false, l', D', by rw [← decide_eq_false hm]; rfl, HS5.out, fun h => Bool.noConfusion h, fun _ => HE.out.2 hm⟩
      · have hCi : ¬ 2 * (k : Int) + 1 + 1 < (n : Int) := by omega
        have dC : decide (2 * (k : Int) + 1 + 1 < (n : Int)) = false := by rw [decide_eq_false_iff_not]; omega
        have HM : Hid (∀ c, 0 < c → c < n → (c - 1) / 2 = k → Hp.le (Hp.g l' (2 * k + 1)) (Hp.g l' c)) := Lib.hid fun c h1 h2 h3 => by
          obtain rfl : c = 2 * k + 1 := by omega
          exact Hp.le_refl _
        go_wp2_with fail
        rw [show (2 * (k : Int) + 1) = ((2 * k + 1 : Nat) : Int) from by omega]
        refine (less_any _ HS.out.q (2 * k + 1) k (by omega) (by omega)).mono ?_
        rintro e w5 ⟨rfl, hb5⟩
        have HS5 := Lib.hid (HS.out.next hb5)
        clear hb5
        by_cases hlt : Hp.lt (Hp.g l' (2 * k + 1)) (Hp.g l' k)
        · have hd : decide (Hp.lt (Hp.g l' (2 * k + 1)) (Hp.g l' k)) = true := by rw [decide_eq_true_eq]; exact hlt
          have HD := Lib.hid (HU.out.step (j := 2 * k + 1) (by omega) hik (by omega) (by omega) (by omega) HM.out hlt)
          rw [hd]
          clear hd hlt
          go_wp2_with fail
          rw [show (2 * (k : Int) + 1) = ((2 * k + 1 : Nat) : Int) from by omega]
          refine (swap_any _ HS5.out.q HS5.out.p k (2 * k + 1) (by omega) (by omega) (by omega)).mono ?_
          rintro e w6 ⟨rfl, D6, hq6, hp6, hk6⟩
          have HS6 := Lib.hid (HS5.out.swap (i := k) (j := 2 * k + 1) (by omega) (by omega) hn hq6 hp6 hk6)
          clear hq6 hp6 hk6
          go_wp2_with fail
          go_roundw
          case rel => exact ⟨2 * k + 1, _, D6, by omega, by omega, by go_num, HD.out, HS6.out⟩
          case measure => simp [intOf]; omega
        · have hd : decide (Hp.lt (Hp.g l' (2 * k + 1)) (Hp.g l' k)) = false := by rw [decide_eq_false_iff_not]; exact hlt
          have HE := Lib.hid (down_end HU.out hik (fun c h1 h2 h3 => Hp.le_trans hlt (HM.out c h1 h2 h3)))
          rw [hd]
          clear hd hlt
          go_wp2_with fail
          go_ret
          by_cases hm : i0 < k
          · exact ⟨true, l', D', by rw [← decide_eq_true hm]; rfl, HS5.out, fun _ => HE.out.1 hm, fun h => Bool.noConfusion h⟩
          · exact ⟨false, l', D', by rw [← decide_eq_false hm]; rfl, HS5.out, fun h => Bool.noConfusion h, fun _ => HE.out.2 hm⟩
end Go.Proofs.YtnjdmijcoadidaaGreatDoor

namespace Go.Proofs.YtnjdmijcoadidaaGreatDoor
open Go.RowKit Go.Maps

/-- A queue in order: a heap, each id's place known. -/
structure HQ (w : World) (cb : Nat) (v : Value) (mb : Nat) (l : List Hp.E) (D : DataW Unit) : Prop where
  q : QAt w cb v mb l D
  p : Pl l D
  heap : Hp.Heap l l.length
theorem keeps_grow {w w1 w2 : World} {cb mb : Nat} {v v' : Value} (h : KQ cb mb v w w1) (k : KQ cb mb v' w1 w2) (hv : ∀ b, v'.ownBlock = some b → v.ownBlock = some b ∨ w.heap.size ≤ b) : KQ cb mb v w w2 :=
  ⟨h.k.trans' k.k fun i hi e => by
    rcases e with e | e | e
    · exact Or.inl e
    · exact Or.inr (Or.inl e)
    · rcases hv i e with e2 | e2
      · exact Or.inr (Or.inr e2)
      · omega, fun j hj => (k.n j hj).trans (h.n j hj), fun j => (k.z j).trans (h.z j)⟩

set_option maxRecDepth 100000 in
set_option maxHeartbeats 3200000 in
theorem hpush_any {cb mb : Nat} {v : Value} {l : List Hp.E} {D : DataW Unit} (w : World) (h : HQ w cb v mb l D) (a b : Int) (hn : ∀ i, i < l.length → (Hp.g l i).2 ≠ b) (hw : (Lit.int .i64 b).wf = true) (hl : l.length < 1000) :
    Calls Tryz.prog 144 #[.iface 191 (.pointer (some ⟨cb, 5, none⟩)), .iface 178 (.agg #[.int .i64 a, .int .i64 b])] w fun e w' => e = .returned (.tuple #[]) ∧
      ∃ v' l' D', HQ w' cb v' mb l' D' ∧ l'.Perm (l ++ [(a, b)]) ∧ KQ cb mb v w w' ∧ ∀ k, v'.ownBlock = some k → v.ownBlock = some k ∨ w.heap.size ≤ k := by
  have HH := Lib.hid h
  have HN := Lib.hid hn
  have n1 := qn_len ⟨cb, 5, none⟩
  have n2 := qm_len ⟨cb, 5, none⟩
  have n3 := qn_push ⟨cb, 5, none⟩
  have n4 := qm_push ⟨cb, 5, none⟩
  clear h hn
  go_enter Tryz.func144, Tryz.ntmps144
  go_wp2_with fail
  refine (qpush_any w HH.out.q HH.out.p a b HN.out hw hl).mono ?_
  rintro e w1 ⟨rfl, v1, D1, hq1, hp1, hk1, hv1⟩
  have HQ1 := Lib.hid hq1
  have HP1 := Lib.hid hp1
  have HK1 := Lib.hid hk1
  have HV1 := Lib.hid hv1
  obtain ⟨ao, cap, hve, -⟩ := hq1.slice
  have hc0 := hq1.c0
  have hlen : (l ++ [(a, b)]).length = l.length + 1 := by simp
  rw [hlen] at hve
  subst hve
  have HLEN := Lib.hid hlen
  have HUP : Hid (Hp.Up (l ++ [(a, b)]) (l.length + 1) l.length) := Lib.hid (HH.out.heap.more (a, b))
  clear hq1 hp1 hk1 hv1 hlen hc0
  have HC := Lib.hid HQ1.out.c0
  generalize hlp : l ++ [(a, b)] = l1 at *
  have HLP := Lib.hid hlp
  clear hlp
  go_wp2_with fail
  refine (qlen_of _ cb _ _ _ HC.out).mono ?_
  rintro e w2 ⟨rfl, rfl⟩
  have e1 : ((l.length : Int) + 1 - 1) = (l.length : Int) := by omega
  go_wp2_with fail
  refine (up_any w1 HQ1.out HP1.out (l.length + 1) l.length (by have := HLEN.out; omega) (by omega) HUP.out).mono ?_
  rintro e w3 ⟨rfl, l3, D3, hs3, hh3⟩
  go_wp2_with fail
  go_end0
  rw [HLP.out]
  refine ⟨rfl, _, l3, D3, ⟨hs3.q, hs3.p, by rw [hs3.len, HLEN.out]; exact hh3⟩, hs3.perm, keeps_grow HK1.out hs3.keeps HV1.out, HV1.out⟩

/-- The last one is taken off. -/
theorem cut_end {w0 w : World} {cb mb n : Nat} {v : Value} {l0 l l' : List Hp.E} {D' : DataW Unit} {x : Hp.E} (hs : Sifted w0 w cb v mb l l' n D') (hn : n + 1 = l.length) (hp : l.Perm l0) (hx : Hp.g l n = x) : l0.Perm (x :: l'.take n) := by
  have h1 : l' = l'.take n ++ [x] := by
    have := Hp.take_last (l := l') (n := n) (by rw [hs.len]; exact hn)
    rwa [hs.same n (Nat.le_refl _), hx] at this
  have h2 : (l'.take n ++ [x]).Perm (x :: l'.take n) := List.perm_append_comm
  exact ((hp.symm.trans hs.perm.symm).trans (List.Perm.of_eq h1)).trans h2

set_option maxRecDepth 100000 in
set_option maxHeartbeats 3200000 in
theorem hpop_any {cb mb : Nat} {v : Value} {l : List Hp.E} {D : DataW Unit} (w : World) (h : HQ w cb v mb l D) (hl : 0 < l.length) :
    Calls Tryz.prog 101 #[.iface 191 (.pointer (some ⟨cb, 5, none⟩))] w fun e w' => (∃ x, e = .returned x) ∧
      ∃ v' l' D', HQ w' cb v' mb l' D' ∧ l.Perm (Hp.g l 0 :: l') ∧ KQ cb mb v w w' ∧ v'.ownBlock = v.ownBlock := by
  have HH := Lib.hid h
  have n1 := qn_len ⟨cb, 5, none⟩
  have n2 := qm_len ⟨cb, 5, none⟩
  have n3 := qn_swap ⟨cb, 5, none⟩
  have n4 := qm_swap ⟨cb, 5, none⟩
  have n5 := qn_pop ⟨cb, 5, none⟩
  have n6 := qm_pop ⟨cb, 5, none⟩
  have hl1000 := h.p.len
  obtain ⟨ao, cap, rfl, -⟩ := h.q.slice
  obtain ⟨n, hn⟩ : ∃ n, n + 1 = l.length := ⟨l.length - 1, by omega⟩
  have e1 : (l.length : Int) - 1 = (n : Int) := by omega
  have HN := Lib.hid hn
  have HC := Lib.hid h.q.c0
  clear h hn
  go_enter Tryz.func101, Tryz.ntmps101
  go_wp2_with fail
  refine (qlen_of _ cb _ _ _ HC.out).mono ?_
  rintro e w1 ⟨rfl, rfl⟩
  go_wp2_with fail
  have hsw : Calls Tryz.prog 222 #[.pointer (some ⟨cb, 5, none⟩), .int .i64 (0 : Nat), .int .i64 n] w fun e w' => e = .returned (.tuple #[]) ∧ ∃ D', QAt w' cb (.slice ao l.length cap) mb (Hp.sw l 0 n) D' ∧ Pl (Hp.sw l 0 n) D' ∧ KQ cb mb (.slice ao l.length cap) w w' := by
    by_cases e : n = 0
    · subst e; exact swap_same w HH.out.q HH.out.p 0 hl
    · exact swap_any w HH.out.q HH.out.p 0 n hl (by have := HN.out; omega) (fun e2 => e e2.symm)
  refine hsw.mono ?_
  clear hsw
  rintro e w2 ⟨rfl, D2, hq2, hp2, hk2⟩
  have HQ2 := Lib.hid hq2
  have HP2 := Lib.hid hp2
  have HK2 := Lib.hid hk2
  have HSL : Hid ((Hp.sw l 0 n).length = l.length) := Lib.hid (Hp.sw_length _ _ _)
  have HDN : Hid (Hp.Down (Hp.sw l 0 n) n 0 0) := Lib.hid (by
    have hn := HN.out
    by_cases e : n = 0
    · subst e; exact ⟨fun k h1 h2 => by omega, fun k h1 h2 => by omega⟩
    · have := HH.out.heap
      rw [← hn] at this
      exact this.hole hn (by omega))
  clear hq2 hp2 hk2
  go_wp2_with fail
  refine (down_any w2 HQ2.out HP2.out n 0 (by have := HSL.out; have := HN.out; omega) (Nat.zero_le _) HDN.out).mono ?_
  rintro e w3 ⟨bm, l3, D3, rfl, hs3, hb3, hc3⟩
  have HS3 := Lib.hid hs3
  have HH3 : Hid (Hp.Heap l3 n) := Lib.hid (by
    cases bm with
    | true => exact hb3 rfl
    | false => exact (hc3 rfl).zero)
  clear hs3 hb3 hc3
  go_wp2_with fail
  refine (qpop_any w3 HS3.out.q HS3.out.p n (by have := HSL.out; have := HN.out; have := HS3.out.len; omega)).mono ?_
  rintro e w4 ⟨⟨x, rfl⟩, v4, D4, hq4, hp4, hk4, hv4⟩
  go_wp2_with fail
  go_ret
  have hn := HN.out
  have hl4 : (l3.take n).length = n := by rw [List.length_take]; have := HSL.out; have := HS3.out.len; omega
  exact ⟨⟨_, rfl⟩, v4, _, D4, ⟨hq4, hp4, by rw [hl4]; exact HH3.out.take⟩, cut_end HS3.out (by rw [HSL.out]; exact hn) (Hp.sw_perm hl (by omega)) (by rw [Hp.g_sw hl (by omega), if_pos rfl]), (HK2.out.trans HS3.out.keeps).trans hk4, hv4⟩
end Go.Proofs.YtnjdmijcoadidaaGreatDoor

namespace Go.Proofs.YtnjdmijcoadidaaGreatDoor
open Go.RowKit Go.Maps

/-- A clock: its time, and what is to come, in blocks of F. -/
structure ClockAt (w : World) (cb : Home) (F : Nat → Prop) (now : Int) (l : List Hp.E) : Prop where
  c : w.cell? ⟨cb.b, 4, none⟩ = some (.int .i64 now)
  z : ∀ j, w.frozen? ⟨cb.b, j, none⟩ = false
  rest : ∀ j, j < 4 ∨ 7 < j → w.cell? ⟨cb.b, j, none⟩ = cb.R j
  fc : F cb.b
  fl : ∀ b, F b → b < w.heap.size
  le : ∀ i, i < l.length → now ≤ (Hp.g l i).1
  q : (l = [] ∧ w.cell? ⟨cb.b, 5, none⟩ = some (.slice none 0 0) ∧ w.cell? ⟨cb.b, 6, none⟩ = some (.map none) ∧ w.cell? ⟨cb.b, 7, none⟩ = some .nilFunc) ∨
    ∃ v mb D, HQ w cb.b v mb l D ∧ ∀ b, QF cb.b mb v b → F b
theorem HQ.keeps {S : Nat → Prop} {w w' : World} {cb mb : Nat} {v : Value} {l : List Hp.E} {D : DataW Unit} (h : HQ w cb v mb l D) (k : Keeps S w w') (hs : ∀ b, QF cb mb v b → ¬ S b) : HQ w' cb v mb l D := ⟨h.q.keeps k hs, h.p, h.heap⟩
theorem ClockAt.lt {w : World} {cb : Home} {F : Nat → Prop} {now : Int} {l : List Hp.E} (h : ClockAt w cb F now l) : cb.b < w.heap.size := block_lt_of_cell h.c
theorem ClockAt.keeps {S F : Nat → Prop} {w w' : World} {cb : Home} {now : Int} {l : List Hp.E} (h : ClockAt w cb F now l) (k : Keeps S w w') (hs : ∀ b, F b → ¬ S b) : ClockAt w' cb F now l := by
  have hn := hs _ h.fc
  refine ⟨k.cell_of h.c hn, fun j => by rw [k.frozen (p := ⟨cb.b, j, none⟩) h.lt hn]; exact h.z j, fun j hj => by rw [k.cell (p := ⟨cb.b, j, none⟩) h.lt hn]; exact h.rest j hj, h.fc, fun b hb => Nat.lt_of_lt_of_le (h.fl b hb) k.size, h.le, ?_⟩
  rcases h.q with ⟨e, h1, h2, h3⟩ | ⟨v, mb, D, hq, hf⟩
  · exact Or.inl ⟨e, k.cell_of h1 hn, k.cell_of h2 hn, k.cell_of h3 hn⟩
  · exact Or.inr ⟨v, mb, D, hq.keeps k (fun b hb => hs b (hf b hb)), hf⟩
theorem ClockAt.next {F : Nat → Prop} {w w' : World} {cb : Home} {now : Int} {l : List Hp.E} (h : ClockAt w cb F now l) (hb : Below w.heap.size w w') : ClockAt w' cb F now l := h.keeps (S := fun _ => False) (Keeps.of_new hb) (fun _ _ e => e)
theorem ClockAt.entries {F : Nat → Prop} {w : World} {cb : Home} {now : Int} {l : List Hp.E} (h : ClockAt w cb F now l) : ∃ ao cap, w.cell? ⟨cb.b, 5, none⟩ = some (.slice ao l.length cap) := by
  rcases h.q with ⟨rfl, h1, _⟩ | ⟨v, mb, D, hq, hf⟩
  · exact ⟨none, 0, h1⟩
  · obtain ⟨ao, cap, rfl, _⟩ := hq.q.slice
    exact ⟨ao, cap, hq.q.c0⟩
set_option maxRecDepth 100000 in
set_option maxHeartbeats 1600000 in
theorem cnow_any {F : Nat → Prop} {cb : Home} {now : Int} {l : List Hp.E} (w : World) (h : ClockAt w cb F now l) :
    Calls Tryz.prog 54 #[.pointer (some ⟨cb.b, 4, none⟩)] w fun e w' => e = .returned (.int .i64 now) ∧ w = w' := by
  have c := h.c
  clear h
  go_enter Tryz.func54, Tryz.ntmps54
  go_wp2_with fail
  go_ret
  exact ⟨rfl, rfl⟩

set_option maxRecDepth 100000 in
set_option maxHeartbeats 1600000 in
theorem clen_any {F : Nat → Prop} {cb : Home} {now : Int} {l : List Hp.E} (w : World) (h : ClockAt w cb F now l) :
    Calls Tryz.prog 41 #[.pointer (some ⟨cb.b, 4, none⟩)] w fun e w' => e = .returned (.int .i64 l.length) ∧ w = w' := by
  obtain ⟨ao, cap, hc⟩ := h.entries
  clear h
  go_enter Tryz.func41, Tryz.ntmps41
  go_wp2_with fail
  refine (qlen_of _ cb.b _ _ _ hc).mono ?_
  rintro e w1 ⟨rfl, rfl⟩
  go_wp2_with fail
  go_ret
  exact ⟨rfl, rfl⟩

set_option maxRecDepth 100000 in
set_option maxHeartbeats 1600000 in
theorem cnext_none {F : Nat → Prop} {cb : Home} {now : Int} (w : World) (h : ClockAt w cb F now []) :
    Calls Tryz.prog 100 #[.pointer (some ⟨cb.b, 4, none⟩)] w fun e w' => e = .returned (.tuple #[.int .i64 0, .bool false]) ∧ w = w' := by
  obtain ⟨ao, cap, hc⟩ := h.entries
  clear h
  go_enter Tryz.func100, Tryz.ntmps100
  go_wp2_with fail
  refine (qlen_of _ cb.b _ _ _ hc).mono ?_
  rintro e w1 ⟨rfl, rfl⟩
  go_wp2_with fail
  go_ret2
  exact ⟨rfl, rfl⟩

theorem ClockAt.hq {F : Nat → Prop} {w : World} {cb : Home} {now : Int} {l : List Hp.E} (h : ClockAt w cb F now l) (hl : 0 < l.length) : ∃ eb cap mb D, HQ w cb.b (.slice (some ⟨eb, 0, none⟩) l.length cap) mb l D ∧ ∀ b, QF cb.b mb (.slice (some ⟨eb, 0, none⟩) l.length cap) b → F b := by
  rcases h.q with ⟨rfl, _⟩ | ⟨v, mb, D, hq, hf⟩
  · exact absurd hl (by decide)
  · obtain ⟨ao, cap, rfl, hao⟩ := hq.q.slice
    obtain ⟨eb, rfl⟩ := hao hl
    exact ⟨eb, cap, mb, D, hq, hf⟩

set_option maxRecDepth 100000 in
set_option maxHeartbeats 1600000 in
theorem cnext_ok {F : Nat → Prop} {cb : Home} {now : Int} {l : List Hp.E} (w : World) (h : ClockAt w cb F now l) (hl : 0 < l.length) :
    Calls Tryz.prog 100 #[.pointer (some ⟨cb.b, 4, none⟩)] w fun e w' => e = .returned (.tuple #[.int .i64 (Hp.g l 0).1, .bool true]) ∧ w = w' := by
  obtain ⟨eb, cap, mb, D, hq, -⟩ := h.hq hl
  have hc := hq.q.c0
  obtain ⟨p1, -⟩ := hq.q.cells 0 hl
  have p1' : w.cell? ⟨eb, 0, none⟩ = some (.int .i64 (Hp.g l 0).1) := by simpa using p1
  have g0 : ((l.length : Int) == 0) = false := by rw [beq_eq_false_iff_ne]; omega
  have g1 : ¬ ((l.length : Int) = 0) := by omega
  have g2 : (0 : Int) < (l.length : Int) := by omega
  clear h hq p1
  generalize (Hp.g l 0).1 = x at *
  go_enter Tryz.func100, Tryz.ntmps100
  go_wp2_with fail
  refine (qlen_of _ cb.b _ _ _ hc).mono ?_
  rintro e w1 ⟨rfl, rfl⟩
  go_wp2_with fail
  go_ret2
  exact ⟨rfl, rfl⟩
end Go.Proofs.YtnjdmijcoadidaaGreatDoor

namespace Go.Proofs.YtnjdmijcoadidaaGreatDoor
open Go.RowKit Go.Maps

/-- An id is to come. -/
def IdIn (l : List Hp.E) (id : Int) : Prop := ∃ i, i < l.length ∧ (Hp.g l i).2 = id
theorem Pl.has_false {l : List Hp.E} {D : DataW Unit} (h : Pl l D) {id : Int} (hn : ¬ IdIn l id) : Maps.has D (.int .i64 id) = false := by
  cases e : Maps.has D (.int .i64 id) with
  | false => rfl
  | true => exact absurd ((h.has id).1 e) hn
theorem nil_look (id : Int) (hw : (Lit.int .i64 id).wf = true) (w : World) : (Instr.lookup 92 (.map none) (.int .i64 id) true).run Tryz.prog w = .ok (.tuple #[.int .i64 0, .bool false]) w := by
  have := Maps.look_nil (P := Tryz.prog) (t := 92) (w := w) true keyedI Tryz.underlying92 (zero_int w) (keyOf_int_mk Tryz.underlying3 hw)
  simpa using this

theorem perm_ids {l l' : List Hp.E} {x : Hp.E} (h : l.Perm (x :: l')) : ∀ i, i < l'.length → ∃ j, j < l.length ∧ Hp.g l j = Hp.g l' i := fun i hi => by
  have hm : l'[i] ∈ l := h.mem_iff.2 (List.mem_cons_of_mem _ (List.getElem_mem hi))
  obtain ⟨j, hj, e⟩ := List.mem_iff_getElem.1 hm
  exact ⟨j, hj, by rw [Hp.g_eq hj, Hp.g_eq hi, e]⟩
/-- New blocks alone beside the old ones. -/
def Grows (w : World) (F F' : Nat → Prop) : Prop := ∀ b, F' b → F b ∨ w.heap.size ≤ b
theorem QF.only {w : World} {cb mb : Nat} {v v' : Value} {F : Nat → Prop} (h : ∀ b, QF cb mb v b → F b) (hv : ∀ k, v'.ownBlock = some k → v.ownBlock = some k ∨ w.heap.size ≤ k) : ∀ b, QF cb mb v' b → F b ∨ w.heap.size ≤ b := by
  rintro b (rfl | rfl | e)
  · exact Or.inl (h _ (Or.inl rfl))
  · exact Or.inl (h _ (Or.inr (Or.inl rfl)))
  · rcases hv b e with e2 | e2
    · exact Or.inl (h _ (Or.inr (Or.inr e2)))
    · exact Or.inr e2
end Go.Proofs.YtnjdmijcoadidaaGreatDoor

namespace Go.Proofs.YtnjdmijcoadidaaGreatDoor
open Go.RowKit Go.Maps

set_option maxRecDepth 100000 in
set_option maxHeartbeats 1600000 in
theorem cset_range {F : Nat → Prop} {cb : Home} {now : Int} {l : List Hp.E} (w : World) (h : ClockAt w cb F now l) (t id : Int) (ht : t < now) :
    Calls Tryz.prog 112 #[.pointer (some ⟨cb.b, 4, none⟩), .int .i64 t, .int .i64 id] w fun e w' => e = .returned (.iface 37 (.int .i64 2)) ∧ w = w' := by
  have hc := h.c
  clear h
  go_enter Tryz.func112, Tryz.ntmps112
  go_wp2_with fail
  go_ret
  exact ⟨rfl, rfl⟩

set_option maxRecDepth 100000 in
set_option maxHeartbeats 1600000 in
theorem cset_twice {F : Nat → Prop} {cb : Home} {now : Int} {l : List Hp.E} (w : World) (h : ClockAt w cb F now l) (t : Int) (ht : now ≤ t) (i : Nat) (hi : i < l.length) :
    Calls Tryz.prog 112 #[.pointer (some ⟨cb.b, 4, none⟩), .int .i64 t, .int .i64 (Hp.g l i).2] w fun e w' => e = .returned (.iface 37 (.int .i64 9)) ∧ w = w' := by
  obtain ⟨eb, cap, mb, D, hq, -⟩ := h.hq (by omega)
  have hc := h.c
  have hc1 := hq.q.c1
  have HT : Hid (Maps.has D (.int .i64 (Hp.g l i).2) = true) := Lib.hid ((hq.p.has _).2 ⟨i, hi, rfl⟩)
  have HMAP := Lib.hid hq.q.map
  have HW := Lib.hid (hq.p.wf i hi)
  have htn : ¬ t < now := by omega
  clear h hq
  generalize (Hp.g l i).2 = id at *
  go_enter Tryz.func112, Tryz.ntmps112
  go_wp2_with (at_lookup; refine wpList_lookup_own_ok_int _ rfl _ _ 92 rfl 3 3 .i64 keyedI Tryz.underlying92 Tryz.underlying3 (zero_int _) mb 1000000 D rfl HMAP.out _ _ rfl (keyOf_int_mk Tryz.underlying3 HW.out) ?_; intro c hat hwc; rw [HT.out])
  go_ret
  exact ⟨rfl, rfl⟩

theorem fn_nil (w : World) : (binOp BinOp.eql 93 Value.nilFunc Value.nilFunc).run Tryz.prog w = .ok (.bool true) w := by kernel_rfl
theorem fn_some (w : World) : (binOp BinOp.eql 93 (Value.func (Fn.func 143) #[] #[]) Value.nilFunc).run Tryz.prog w = .ok (.bool false) w := by kernel_rfl
theorem pl_nil : Pl [] (.map [] : DataW Unit) := ⟨fun id => ⟨fun h => by simp [Maps.has] at h, fun ⟨i, hi, _⟩ => absurd hi (Nat.not_lt_zero _)⟩, fun i hi => absurd hi (Nat.not_lt_zero _), fun i hi => absurd hi (Nat.not_lt_zero _), Nat.zero_le _, rfl⟩
/-- A queue that has just been made. -/
theorem fresh_q {w w' : World} {cb : Home} (c1 : w'.cell? ⟨cb.b, 5, none⟩ = some (.slice none 0 0)) (c2 : w'.cell? ⟨cb.b, 6, none⟩ = some (.map (some w.heap.size))) (c3 : w'.cell? ⟨cb.b, 7, none⟩ = some (.func (.func 143) #[] #[])) (hz : w'.frozen? ⟨cb.b, 5, none⟩ = false)
    (hm : w'.ownsMap Tryz.prog 3 (plainElem Tryz.prog 3) w.heap.size 0 (.map [] : DataW Unit)) : HQ w' cb.b (.slice none 0 0) w.heap.size [] (.map []) :=
  ⟨⟨c1, c2, c3, hz, World.ownsRow_nil _ _ _ _, hm.mono (Nat.zero_le _), fun e => by cases e⟩, pl_nil, Hp.heap_nil⟩

/-- What Set's last step leaves. -/
theorem set_end {F : Nat → Prop} {w w1 w2 : World} {cb : Home} {mb : Nat} {v v2 : Value} {now t id : Int} {l l2 : List Hp.E} {D2 : DataW Unit} (h : ClockAt w cb F now l) (ht : now ≤ t) (hk1 : Keeps F w w1) (hn1 : ∀ j, j < 5 ∨ 7 < j → w1.cell? ⟨cb.b, j, none⟩ = w.cell? ⟨cb.b, j, none⟩) (hz1 : ∀ j, w1.frozen? ⟨cb.b, j, none⟩ = w.frozen? ⟨cb.b, j, none⟩)
    (hf : ∀ b, QF cb.b mb v b → F b ∨ w.heap.size ≤ b) (hq2 : HQ w2 cb.b v2 mb l2 D2) (hp2 : l2.Perm (l ++ [(t, id)])) (hk2 : KQ cb.b mb v w1 w2) (hv2 : ∀ k, v2.ownBlock = some k → v.ownBlock = some k ∨ w1.heap.size ≤ k) :
    ∃ F' l', ClockAt w2 cb F' now l' ∧ l'.Perm (l ++ [(t, id)]) ∧ Grows w F F' ∧ Keeps F w w2 := by
  have hqf : ∀ b, QF cb.b mb v2 b → F b ∨ w.heap.size ≤ b := by
    rintro b (e | e | e)
    · exact hf b (Or.inl e)
    · exact hf b (Or.inr (Or.inl e))
    · rcases hv2 b e with e | e
      · exact hf b (Or.inr (Or.inr e))
      · exact Or.inr (Nat.le_trans hk1.size e)
  have hks : Keeps F w w2 := hk1.trans' hk2.k fun b hb e => by
      rcases hf b e with e | e
      · exact e
      · omega
  refine ⟨fun b => F b ∨ QF cb.b mb v2 b, l2, ⟨?_, fun j => by rw [hk2.z j, hz1 j]; exact h.z j, fun j hj => by rw [hk2.n j (by omega), hn1 j (by omega)]; exact h.rest j hj, Or.inl h.fc, fun b hb => ?_, fun i hi => ?_, Or.inr ⟨v2, mb, D2, hq2, fun b hb => Or.inr hb⟩⟩, hp2, fun b hb => hb.elim Or.inl (hqf b), hks⟩
  · rw [hk2.n 4 (by decide), hn1 4 (Or.inl (by decide))]; exact h.c
  · rcases hb with hb | hb
    · exact Nat.lt_of_lt_of_le (h.fl b hb) hks.size
    · rcases hb with e | e | e
      · rw [e]; exact hq2.q.lt
      · rw [e]; exact hq2.q.map.lt
      · exact (World.ownsRow.lt hq2.q.own b e).2
  · have hm : l2[i] ∈ l ++ [(t, id)] := hp2.mem_iff.1 (List.getElem_mem hi)
    rw [Hp.g_eq hi]
    rcases List.mem_append.1 hm with hm | hm
    · obtain ⟨j, hj, e⟩ := List.mem_iff_getElem.1 hm
      have := h.le j hj
      rw [Hp.g_eq hj, e] at this; exact this
    · rw [List.mem_singleton.1 hm]; exact ht

set_option maxRecDepth 100000 in
set_option maxHeartbeats 3200000 in
theorem cset_ok {F : Nat → Prop} {cb : Home} {now : Int} {l : List Hp.E} (w : World) (h : ClockAt w cb F now l) (t id : Int) (ht : now ≤ t) (hw : (Lit.int .i64 id).wf = true) (hn : ¬ IdIn l id) (hl : l.length < 1000) :
    Calls Tryz.prog 112 #[.pointer (some ⟨cb.b, 4, none⟩), .int .i64 t, .int .i64 id] w fun e w' => e = .returned .nilIface ∧ ∃ F' l', ClockAt w' cb F' now l' ∧ l'.Perm (l ++ [(t, id)]) ∧ Grows w F F' ∧ Keeps F w w' := by
  have hc := h.c
  have HH := Lib.hid h
  have hcb := h.lt
  have htn : ¬ t < now := by omega
  have HNI : Hid (∀ i, i < l.length → (Hp.g l i).2 ≠ id) := Lib.hid fun i hi e => hn ⟨i, hi, e⟩
  have HW := Lib.hid hw
  have hmm := @run_makeMap Tryz.prog
  have hf0 := fn_nil
  have hf1 := fn_some
  rcases h.q with ⟨rfl, q1, q2, q3⟩ | ⟨v, mb, D, hq, hf⟩
  · have hnl := nil_look id hw
    have z1 := h.z 5
    have z2 := h.z 6
    have z3 := h.z 7
    clear h hn hw
    go_enter Tryz.func112, Tryz.ntmps112
    go_wp2_with fail
    have hne : ∀ o p : Nat, o ≠ p → (⟨cb.b, o, none⟩ : Addr) ≠ ⟨cb.b, p, none⟩ := fun o p ho e => ho (by injection e)
    have hsz : (((w.setCell ⟨cb.b, 5, none⟩ (.slice none 0 0)).setCell ⟨cb.b, 6, none⟩ (.map (some w.heap.size))).setCell ⟨cb.b, 7, none⟩ (.func (.func 143) #[] #[])).heap.size = w.heap.size := by simp
    have key : HQ ((((w.setCell ⟨cb.b, 5, none⟩ (.slice none 0 0)).setCell ⟨cb.b, 6, none⟩ (.map (some w.heap.size))).setCell ⟨cb.b, 7, none⟩ (.func (.func 143) #[] #[])).alloc (.map #[] 0)) cb.b (.slice none 0 0) w.heap.size [] (.map [] : DataW Unit) ∧ (∀ j, j < 5 ∨ 7 < j → ((((w.setCell ⟨cb.b, 5, none⟩ (.slice none 0 0)).setCell ⟨cb.b, 6, none⟩ (.map (some w.heap.size))).setCell ⟨cb.b, 7, none⟩ (.func (.func 143) #[] #[])).alloc (.map #[] 0)).cell? ⟨cb.b, j, none⟩ = w.cell? ⟨cb.b, j, none⟩) ∧ (∀ j, ((((w.setCell ⟨cb.b, 5, none⟩ (.slice none 0 0)).setCell ⟨cb.b, 6, none⟩ (.map (some w.heap.size))).setCell ⟨cb.b, 7, none⟩ (.func (.func 143) #[] #[])).alloc (.map #[] 0)).frozen? ⟨cb.b, j, none⟩ = w.frozen? ⟨cb.b, j, none⟩) ∧ Keeps F w ((((w.setCell ⟨cb.b, 5, none⟩ (.slice none 0 0)).setCell ⟨cb.b, 6, none⟩ (.map (some w.heap.size))).setCell ⟨cb.b, 7, none⟩ (.func (.func 143) #[] #[])).alloc (.map #[] 0)) := by
      refine ⟨fresh_q ?_ ?_ ?_ ?_ ?_, ?_, ?_, ?_⟩
      · rw [World.cell?_alloc_lt _ _ _ (by rw [hsz]; exact hcb), World.cell?_setCell_other _ _ _ _ (hne 7 5 (by decide)), World.cell?_setCell_other _ _ _ _ (hne 6 5 (by decide))]
        exact World.cell?_setCell_same _ _ _ q1
      · rw [World.cell?_alloc_lt _ _ _ (by rw [hsz]; exact hcb), World.cell?_setCell_other _ _ _ _ (hne 7 6 (by decide))]
        exact World.cell?_setCell_same _ _ _ (by rw [World.cell?_setCell_other _ _ _ _ (hne 5 6 (by decide))]; exact q2)
      · rw [World.cell?_alloc_lt _ _ _ (by rw [hsz]; exact hcb)]
        exact World.cell?_setCell_same _ _ _ (by rw [World.cell?_setCell_other _ _ _ _ (hne 6 7 (by decide)), World.cell?_setCell_other _ _ _ _ (hne 5 7 (by decide))]; exact q3)
      · rw [World.frozen?_alloc_old _ _ _ (by rw [hsz]; exact Nat.ne_of_lt hcb)]
        simpa using z1
      · have := World.ownsMap_made (((w.setCell ⟨cb.b, 5, none⟩ (.slice none 0 0)).setCell ⟨cb.b, 6, none⟩ (.map (some w.heap.size))).setCell ⟨cb.b, 7, none⟩ (.func (.func 143) #[] #[])) Tryz.prog 3 (plainElem (H := Unit) Tryz.prog 3)
        rw [hsz] at this
        exact this
      · intro j hj
        rw [World.cell?_alloc_lt _ _ _ (by rw [hsz]; exact hcb), World.cell?_setCell_other _ _ _ _ (hne 7 j (by omega)), World.cell?_setCell_other _ _ _ _ (hne 6 j (by omega)), World.cell?_setCell_other _ _ _ _ (hne 5 j (by omega))]
      · intro j
        rw [World.frozen?_alloc_old _ _ _ (by rw [hsz]; exact Nat.ne_of_lt hcb)]
        simp
      · exact ((((Keeps.refl F w).setCell (p := ⟨cb.b, 5, none⟩) (Or.inl HH.out.fc) _).setCell (p := ⟨cb.b, 6, none⟩) (Or.inl HH.out.fc) _).setCell (p := ⟨cb.b, 7, none⟩) (Or.inl HH.out.fc) _).alloc _
    clear hsz hne q1 q2 q3 z1 z2 z3
    generalize ((((w.setCell ⟨cb.b, 5, none⟩ (.slice none 0 0)).setCell ⟨cb.b, 6, none⟩ (.map (some w.heap.size))).setCell ⟨cb.b, 7, none⟩ (.func (.func 143) #[] #[])).alloc (.map #[] 0)) = w1 at *
    obtain ⟨hq1, hn1, hz1, hk1⟩ := key
    have HN1 := Lib.hid hn1
    have HZ1 := Lib.hid hz1
    have HK1 := Lib.hid hk1
    have HFB : Hid (∀ b, QF cb.b w.heap.size (.slice none 0 0) b → F b ∨ w.heap.size ≤ b) := Lib.hid fun b hb => by
      rcases hb with e | e | e
      · rw [e]; exact Or.inl HH.out.fc
      · rw [e]; exact Or.inr (Nat.le_refl _)
      · cases e
    refine (hpush_any w1 hq1 t id (fun i hi => absurd hi (Nat.not_lt_zero _)) HW.out (by decide)).mono ?_
    clear hq1 hn1 hz1 hk1
    rintro e w2 ⟨rfl, v2, l2, D2, hq2, hp2, hk2, hv2⟩
    have HE := Lib.hid (set_end HH.out ht HK1.out HN1.out HZ1.out HFB.out hq2 hp2 hk2 hv2)
    clear hq2 hp2 hk2 hv2
    go_wp2_with fail
    go_ret
    exact ⟨rfl, HE.out⟩
  · have hc1 := hq.q.c1
    have hc2 := hq.q.c2
    have HF := Lib.hid (hq.p.has_false hn)
    have HQQ := Lib.hid hq
    have HFF := Lib.hid hf
    clear h hq hw hf hn
    go_enter Tryz.func112, Tryz.ntmps112
    go_wp2_with (at_lookup; refine wpList_lookup_own_ok_int _ rfl _ _ 92 rfl 3 3 .i64 keyedI Tryz.underlying92 Tryz.underlying3 (zero_int _) mb 1000000 D rfl HQQ.out.q.map _ _ rfl (keyOf_int_mk Tryz.underlying3 HW.out) ?_; intro c hat hwc; rw [HF.out])
    refine (hpush_any w HQQ.out t id HNI.out HW.out hl).mono ?_
    rintro e w2 ⟨rfl, v2, l2, D2, hq2, hp2, hk2, hv2⟩
    have HE := Lib.hid (set_end HH.out ht (Keeps.refl F w) (fun _ _ => rfl) (fun _ => rfl) (fun b hb => Or.inl (HFF.out b hb)) hq2 hp2 hk2 hv2)
    clear hq2 hp2 hk2 hv2
    go_wp2_with fail
    go_ret
    exact ⟨rfl, HE.out⟩
end Go.Proofs.YtnjdmijcoadidaaGreatDoor
