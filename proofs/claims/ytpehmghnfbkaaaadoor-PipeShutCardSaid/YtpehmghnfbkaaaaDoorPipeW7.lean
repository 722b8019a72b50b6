/-
  The walk of package pipe's wake: a task goes on.
-/
import Derived.Test.YtpehmghnfbkaaaaDoorPipeW6
import Derived.Deep.Cut
namespace Go.Proofs.YtpehmghnfbkaaaaDoor
open Go.RowKit Go.Maps Pp

theorem TalksAt.slice {w : World} {v : Value} {l : List Tk} (h : TalksAt w v l) : ∃ ao cap, v = .slice ao l.length cap ∧ l.length ≤ cap ∧ cap ≤ maxLen := by
  obtain ⟨ao, n, cap, rfl, rfl, h1, h2, _⟩ := h
  exact ⟨_, _, rfl, h1, h2⟩
/-- The cells of one that is told. -/
theorem TalksAt.at {w : World} {ao : Option Addr} {n cap : Nat} {l : List Tk} (h : TalksAt w (.slice ao n cap) l) {i : Nat} {x : Tk} (hx : l[i]? = some x) : ∃ b o, ao = some ⟨b, o, none⟩ ∧ b < w.heap.size ∧
    w.cell? ⟨b, o + i * 3, none⟩ = some (.int .i64 x.what) ∧ w.cell? ⟨b, o + i * 3 + 1, none⟩ = some (.int .i64 x.chan) ∧ w.cell? ⟨b, o + i * 3 + 2, none⟩ = some (.int .i64 x.n) := by
  obtain ⟨ao', n', cap', hv, hn, _, _, h3⟩ := h
  have hi := (List.getElem?_eq_some_iff.1 hx).1
  injection hv with hv1 hv2 _
  obtain ⟨b, o, h4, h5, h6⟩ := h3 (by omega)
  obtain ⟨h7, h8, h9⟩ := h6 i x hx
  exact ⟨b, o, by rw [hv1]; exact h4, h5, h7, h8, h9⟩
theorem strike_succ {task : Int} {l : List Tk} {i : Nat} {x : Tk} (hx : l[i]? = some x) (chs : List Ch) : strike task (l.take (i + 1)) chs = strikeAt task (strike task (l.take i) chs) x := by
  have hi := (List.getElem?_eq_some_iff.1 hx).1
  unfold strike
  rw [List.take_succ_eq_append_getElem hi, List.foldl_append, (List.getElem?_eq_some_iff.1 hx).2]; rfl
theorem strikeAt_zero {task : Int} {chs : List Ch} {x : Tk} (h : x.chan = 0) : strikeAt task chs x = chs := by unfold strikeAt; rw [if_pos h]
theorem modify_set {α : Type} {l : List α} {k : Nat} {c : α} (f : α → α) (hc : l[k]? = some c) : l.modify k f = l.set k (f c) := by
  have hk := (List.getElem?_eq_some_iff.1 hc).1
  apply List.ext_getElem?
  intro j
  rw [List.getElem?_modify, List.getElem?_set]
  by_cases e : k = j
  · subst e; simp [hk, (List.getElem?_eq_some_iff.1 hc).2]
  · simp [e]
theorem strikeAt_set {task : Int} {chs : List Ch} {x : Tk} {k : Nat} {c : Ch} (h : x.chan = (k : Int) + 1) (hc : chs[k]? = some c) : strikeAt task chs x = chs.set k (c.strike task x.what) := by
  unfold strikeAt
  rw [if_neg (by omega), show (x.chan - 1).toNat = k by omega, modify_set _ hc]
theorem off_len (task : Int) (r : List (Int × Nat)) : (off task r).length ≤ r.length := List.length_filter_le _ _

/-- The blocks of the channels' own. -/
def OfCh (ρ : Nat → Role) (b : Nat) : Prop := ∃ k, (ρ b).of k
/-- So many of a task's talks are struck off. -/
structure WakeJ (w wr : World) (ρ : Nat → Role) (pb : Nat) (vch : Value) (ptr : List Nat) (mb : Option Nat) (D : DataW Value) (N M : Nat) (s : St) (task : Int) (l : List Tk) (i : Nat) : Prop where
  at_ : PipesAt wr ρ pb vch ptr mb D N M ⟨strike task (l.take i) s.chs, s.asks⟩
  keep : Keeps (OfCh ρ) w wr
theorem of_not_free {r : Role} {k : Nat} (h : r.of k) : r ≠ .free := fun e => by rw [e] at h; exact h

set_option maxRecDepth 100000 in
set_option maxHeartbeats 12800000 in
theorem wake_any {w : World} {ρ : Nat → Role} {pb : Nat} {vch : Value} {ptr : List Nat} {mb : Option Nat} {D : DataW Value} {N M : Nat} {s : St} (h : PipesAt w ρ pb vch ptr mb D N M s) (hM : M ≤ 1000000) (task : Int) (k : Nat) (n : Int) {l : List Tk} (hl : s.asks task = some l)
    (hg : ∀ x ∈ l, x.good s.chs.length) (h6 : l.length ≤ 6) :
    Calls Tryd.prog 40 #[.pointer (some ⟨pb, 0, none⟩), .agg #[.int .i64 task, .int .i64 (k : Nat)], .int .i64 n] w fun e w' => e = .returned (.agg #[.int .i64 task, .int .i64 (k : Nat), .int .i64 n]) ∧
      (∃ D', PipesAt w' ρ pb vch ptr mb D' N M (wake s task)) ∧ Keeps (fun b => ρ b ≠ .free) w w' := by
  rw [wake_some hl]
  obtain ⟨b, v, rfl, hb, hwf, htk, hvo, hown, hlook⟩ := h.look hl
  obtain ⟨ao, cap, rfl, hc1, hc2⟩ := htk.slice
  have hk2 : Keeps (fun _ => False) w ((w.alloc (.cells #[.int .i64 task, .int .i64 (k : Int)] 90)).alloc (.cells #[.int .i64 0, .int .i64 0, .int .i64 0] 65)) := ((Keeps.refl _ w).alloc _).alloc _
  have H2 := Lib.hid (h.keeps hk2 fun _ _ e => e.elim)
  have HT2 := Lib.hid (htk.keeps hk2 fun _ _ e => e)
  have b0 : ((w.alloc (.cells #[.int .i64 task, .int .i64 (k : Int)] 90)).alloc (.cells #[.int .i64 0, .int .i64 0, .int .i64 0] 65)).cell? ⟨w.heap.size, 0, none⟩ = some (.int .i64 task) := by
    rw [World.cell?_alloc_past _ _ _ (by simp), World.cell?_alloc_at _ _ _ _ rfl]; rfl
  have b1 : ((w.alloc (.cells #[.int .i64 task, .int .i64 (k : Int)] 90)).alloc (.cells #[.int .i64 0, .int .i64 0, .int .i64 0] 65)).cell? ⟨w.heap.size, 1, none⟩ = some (.int .i64 (k : Int)) := by
    rw [World.cell?_alloc_past _ _ _ (by simp), World.cell?_alloc_at _ _ _ _ rfl]; rfl
  have HO2 := Lib.hid (hk2.map hown id)
  have HLK := Lib.hid hlook
  have hs2 : ((w.alloc (.cells #[.int .i64 task, .int .i64 (k : Int)] 90)).alloc (.cells #[.int .i64 0, .int .i64 0, .int .i64 0] 65)).heap.size = w.heap.size + 2 := by simp
  have HR0 : Hid (∀ j, j < 3 → ((w.alloc (.cells #[.int .i64 task, .int .i64 (k : Int)] 90)).alloc (.cells #[.int .i64 0, .int .i64 0, .int .i64 0] 65)).cell? ⟨w.heap.size + 1, j, none⟩ = some (.int .i64 0) ∧ ((w.alloc (.cells #[.int .i64 task, .int .i64 (k : Int)] 90)).alloc (.cells #[.int .i64 0, .int .i64 0, .int .i64 0] 65)).frozen? ⟨w.heap.size + 1, j, none⟩ = false) := Lib.hid fun j hj => ⟨by rw [World.cell?_alloc_at _ _ _ _ (by simp)]; rcases j with _ | _ | _ | j <;> first | rfl | omega, by rw [World.frozen?_alloc_at _ _ _ _ (by simp)]⟩
  have HDM := Lib.hid h.dom
  have HK2 := Lib.hid hk2
  have HVO := Lib.hid hvo
  have HB := Lib.hid hb
  have HWF := Lib.hid hwf
  have HG := Lib.hid hg
  have HL := Lib.hid hl
  clear hlook h htk hk2 hown hvo hb hwf hg hl
  go_enter Tryd.func40, Tryd.ntmps40
  go_wp2_with fail
  generalize (w.alloc (.cells #[.int .i64 task, .int .i64 (k : Int)] 90)).alloc (.cells #[.int .i64 0, .int .i64 0, .int .i64 0] 65) = w2 at *
  have p1 := H2.out.c1
  have hlk : ∀ z, (Instr.lookup 29 (.map (some b)) (.int .i64 task) false).run Tryd.prog (w2.drewN z) = .ok (.slice ao l.length cap) (w2.drewN z) := fun z => HLK.out _ _ ((keeps_drewN (Keeps.refl (fun _ => False) w2) z).map HO2.out id)
  go_quiet (fail)
  clear hlk
  go_upto_region 2 with fail
  have H3 : Hid (PipesAt (w2.drewN nq) ρ pb vch ptr (some b) D N M s) := Lib.hid (H2.out.keeps (keeps_drewN (Keeps.refl (fun _ => False) w2) nq) fun _ _ e => e.elim)
  have HT3 : Hid (TalksAt (w2.drewN nq) (.slice ao l.length cap) l) := Lib.hid (HT2.out.keeps (keeps_drewN (Keeps.refl (fun _ => False) w2) nq) fun _ _ e => e)
  have HO3 : Hid ((w2.drewN nq).ownsMap Tryd.prog 3 heldE b N D) := Lib.hid ((keeps_drewN (Keeps.refl (fun _ => False) w2) nq).map HO2.out id)
  have HK3 : Hid (Keeps (fun _ => False) w (w2.drewN nq)) := Lib.hid (keeps_drewN HK2.out nq)
  have hs3 : (w2.drewN nq).heap.size = w.heap.size + 2 := hs2
  have q0 : (w2.drewN nq).cell? ⟨w.heap.size, 0, none⟩ = some (.int .i64 task) := b0
  have q1 : (w2.drewN nq).cell? ⟨w.heap.size, 1, none⟩ = some (.int .i64 (k : Int)) := b1
  have q2 : (w2.drewN nq).cell? ⟨pb, 1, none⟩ = some (.map (some b)) := p1
  have HR3 : Hid (∀ j, j < 3 → (w2.drewN nq).cell? ⟨w.heap.size + 1, j, none⟩ = some (.int .i64 0) ∧ (w2.drewN nq).frozen? ⟨w.heap.size + 1, j, none⟩ = false) := HR0
  clear H2 HT2 HO2 HK2 hs2 b0 b1 p1 HR0
  generalize w2.drewN nq = w3 at *
  go_still_tail 6, (by kernel_rfl)
  change wpList _ _ _ _ _ w3.drew
  have HO4 : Hid (w3.drew.ownsMap Tryd.prog 3 heldE b N D) := Lib.hid HO3.out.drew
  go_wp2_with (at_delete; refine wpList_delete_own _ rfl _ _ 29 3 rfl 32 keyedP Tryd.underlying29 _ b N D rfl HO4.out _ _ rfl (keyOf_int_mk Tryd.underlying3 HWF.out) ?_; intro w5 hown5 hturn5; have HD5 := Lib.hid hown5; have HU5 := Lib.hid hturn5; clear hown5 hturn5)
  have hk35 : Keeps (fun g => g = b) w3 w5 := by
    have h1 := HU5.out.grown
    exact ⟨h1.os, h1.tape, h1.output, h1.size, fun g hg hn => h1.block g hg (fun e => hn (by cases e; rfl))⟩
  have HDOM : Hid (∀ g, ρ g ≠ .free → g < w.heap.size) := Lib.hid HDM.out
  have hbl : b < w.heap.size := HDOM.out b (by rw [HB.out]; simp)
  have HP5 : Hid (PipesAt w5 ρ pb vch ptr (some b) (D.del (.int .i64 task)) N M ⟨s.chs, fun x => if x = task then none else s.asks x⟩) := Lib.hid (H3.out.del rfl hk35 HD5.out)
  have HT5 : Hid (TalksAt w5 (.slice ao l.length cap) l) := Lib.hid (HT3.out.keeps hk35 fun g hg e => by (have := HVO.out g hg; rw [e, HB.out] at this; cases this))
  have HK5 : Hid (Keeps (fun g => g = b) w w5) := Lib.hid ((HK3.out.mono fun _ _ e => e.elim).trans hk35)
  have HQ0 : Hid (w5.cell? ⟨w.heap.size, 0, none⟩ = some (.int .i64 task)) := Lib.hid (hk35.cell_of q0 (by simp; omega))
  have HQ1 : Hid (w5.cell? ⟨w.heap.size, 1, none⟩ = some (.int .i64 (k : Int))) := Lib.hid (hk35.cell_of q1 (by simp; omega))
  have HZ : Hid (w.heap.size + 2 ≤ w5.heap.size) := Lib.hid (by have := hk35.size; omega)
  have HRC : Hid (∀ j, j < 3 → w5.cell? ⟨w.heap.size + 1, j, none⟩ = some (.int .i64 0) ∧ w5.frozen? ⟨w.heap.size + 1, j, none⟩ = false) := Lib.hid fun j hj => by
    obtain ⟨h1, h2⟩ := HR3.out j hj
    exact ⟨hk35.cell_of h1 (by simp; omega), by rw [hk35.frozen (p := ⟨w.heap.size + 1, j, none⟩) (by show w.heap.size + 1 < w3.heap.size; omega) (by simp; omega)]; exact h2⟩
  clear hk35 q0 q1 q2
  have HJ0 : Hid (WakeJ w5 w5 ρ pb vch ptr (some b) (D.del (.int .i64 task)) N M ⟨s.chs, fun x => if x = task then none else s.asks x⟩ task l 0) := Lib.hid ⟨HP5.out, Keeps.refl _ _⟩
  go_loopw [27] (fun t wr => ∃ i : Nat, i ≤ l.length ∧ t = .int .i64 i ∧ WakeJ w5 wr ρ pb vch ptr (some b) (D.del (.int .i64 task)) N M ⟨s.chs, fun x => if x = task then none else s.asks x⟩ task l i) (fun t _ => l.length - (intOf t).toNat)
  case atStart => exact ⟨0, Nat.zero_le _, rfl, HJ0.out⟩
  case round =>
    obtain ⟨i, hi, rfl, hJ⟩ := hrel
    have HJ := Lib.hid hJ
    clear hJ HJ0
    by_cases hil : i < l.length
    · obtain ⟨x, hx⟩ : ∃ x, l[i]? = some x := ⟨_, List.getElem?_eq_getElem hil⟩
      have HX := Lib.hid hx
      have HGX := Lib.hid (HG.out x (List.mem_of_getElem? hx))
      have htr : TalksAt wr (.slice ao l.length cap) l := HT5.out.keeps HJ.out.keep fun g hg ⟨j, e⟩ => by rw [HVO.out g hg] at e; exact e
      obtain ⟨tb, o, rfl, htb, c1, c2, c3⟩ := htr.at hx
      have hii : (0 : Int) ≤ (i : Int) ∧ (i : Int) < (l.length : Int) := by omega
      obtain ⟨xw, xc, xn⟩ := x
      simp only at c1 c2 c3
      have hka : Keeps (fun _ => False) wr (wr.alloc (.cells #[.int .i64 xw, .int .i64 xc, .int .i64 xn] 85)) := (Keeps.refl _ wr).alloc _
      have HP6 := Lib.hid (HJ.out.at_.keeps hka fun _ _ e => e.elim)
      have HKA := Lib.hid hka
      have hm6 : may (strike task (l.take i) s.chs).length xc = true := by
        rw [strike_len]
        unfold may
        obtain ⟨h1, _⟩ := HGX.out
        simp only at h1
        simp [h1.1, h1.2]
      have HM6 := Lib.hid hm6
      have HC6 := Lib.hid (HP6.out.chan hm6)
      clear hka hm6 hx htr
      rcases HC6.out with ⟨h0, hn0, _⟩ | ⟨kc, cb, rb, sb, v1, v2, c, hxc, hcg, hcp, hcp2, _, hch⟩
      · have HN0 := Lib.hid hn0
        have HS0 : Hid (strike task (l.take (i + 1)) s.chs = strike task (l.take i) s.chs) := Lib.hid ((strike_succ HX.out s.chs).trans (strikeAt_zero h0))
        clear hn0 h0
        go_wp2_with fail
        refine (channel_any HP6.out xc HM6.out).mono ?_
        rintro e w6 ⟨rfl, rfl⟩
        rw [HN0.out]
        go_wp2_with fail
        go_roundw
        case rel =>
          refine ⟨i + 1, by omega, by go_num, ?_, HJ.out.keep.trans (HKA.out.mono fun _ _ e => e.elim)⟩
          have := HP6.out
          simp only at this ⊢
          rw [HS0.out]; exact this
        case measure => simp [intOf]; omega
      · have HCH := Lib.hid hch
        have HCP := Lib.hid hcp2
        have HXC := Lib.hid hxc
        have HCG := Lib.hid hcg
        have HCB := Lib.hid hcp
        obtain ⟨a1, k1, hv1, _, _⟩ := hch.r1.slice
        obtain ⟨a2, k2, hv2, _, _⟩ := hch.r2.slice
        subst hv1
        subst hv2
        have c2' := hch.c2
        have c3' := hch.c3
        have z2 := hch.z 2
        have z3 := hch.z 3
        have HROWS := Lib.hid (HP6.out.rows kc c hcg)
        clear hch hcp2 hxc hcg hcp HC6
        by_cases h3 : xw = 3
        · subst h3
          have hrow := row_any (wr.alloc (.cells #[.int .i64 3, .int .i64 xc, .int .i64 xn] 85)) cb 3
          rw [if_pos rfl] at hrow
          have HROW := Lib.hid hrow
          have hq6 : (wr.alloc (.cells #[.int .i64 3, .int .i64 xc, .int .i64 xn] 85)).cell? ⟨w.heap.size, 0, none⟩ = some (.int .i64 task) := HKA.out.cell_of (HJ.out.keep.cell_of HQ0.out (fun ⟨j, e⟩ => by
            have := HDOM.out w.heap.size (of_not_free e)
            omega)) id
          have HDEL := Lib.hid (deleteW_any _ _ _ HCH.out.r1 (by have := HROWS.out.1; omega) task w.heap.size hq6 (fun g hg e => by
            have h1 := HCH.out.p3 g hg
            have := HDOM.out g (by rw [h1]; simp)
            omega))
          clear hrow hq6
          go_wp2_with fail
          refine (channel_any HP6.out xc HM6.out).mono ?_
          rintro e w6 ⟨rfl, rfl⟩
          rw [HCP.out]
          go_wp2_with fail
          refine HROW.out.mono ?_
          rintro e w6 ⟨rfl, rfl⟩
          go_wp2_with fail
          refine HDEL.out.mono ?_
          rintro e w7 ⟨v', rfl, hr7, hvb7, hk7⟩
          obtain ⟨a3, k3, hv3, -, -⟩ := hr7.slice
          subst hv3
          have hcb : ¬ (Value.slice a1 c.sends.length k1).ownBlock = some cb := fun e => by
            have h1 := HCH.out.p3 cb e
            rw [HCH.out.p0] at h1
            cases h1
          have hclt : cb < (wr.alloc (.cells #[.int .i64 3, .int .i64 xc, .int .i64 xn] 85)).heap.size := block_lt_of_cell HCH.out.c0
          have y2 : w7.cell? ⟨cb, 2, none⟩ = some (Value.slice a1 c.sends.length k1) := hk7.cell_of c2' hcb
          have y3 : w7.frozen? ⟨cb, 2, none⟩ = false := by rw [hk7.frozen (p := ⟨cb, 2, none⟩) hclt hcb]; exact z2
          have HC7 := Lib.hid (HCH.out.sends hk7 hr7 (fun g e => HCH.out.p3 g (hvb7 g e)))
          have HK7 : Hid (Keeps (fun g => (Value.slice a1 c.sends.length k1).ownBlock = some g ∨ g = cb) (wr.alloc (.cells #[.int .i64 3, .int .i64 xc, .int .i64 xn] 85)) (w7.setCell ⟨cb, 2, none⟩ (.slice a3 (off task c.sends).length k3))) := Lib.hid ((hk7.mono (S' := fun g => (Value.slice a1 c.sends.length k1).ownBlock = some g ∨ g = cb) fun _ _ e => Or.inl e).setCell (p := ⟨cb, 2, none⟩) (Or.inl (Or.inr rfl)) _)
          have HST : Hid (strike task (l.take (i + 1)) s.chs = (strike task (l.take i) s.chs).set kc (c.strike task 3)) := Lib.hid ((strike_succ HX.out s.chs).trans (strikeAt_set HXC.out HCG.out))
          have HJ7 : Hid (WakeJ w5 (w7.setCell ⟨cb, 2, none⟩ (.slice a3 (off task c.sends).length k3)) ρ pb vch ptr (some b) (D.del (.int .i64 task)) N M ⟨s.chs, fun x => if x = task then none else s.asks x⟩ task l (i + 1)) := Lib.hid (by
            refine ⟨?_, HJ.out.keep.trans' ((HKA.out.mono (S' := fun g => (Value.slice a1 c.sends.length k1).ownBlock = some g ∨ g = cb) fun _ _ e => e.elim).trans HK7.out) fun g hg e => ?_⟩
            · have h1 := HP6.out.put (M' := M) HK7.out (fun _ _ => rfl) (fun g hg => Nat.lt_of_lt_of_le (HP6.out.dom g hg) HK7.out.size) kc (c' := c.strike task 3) (fun g e => Or.inr (by
                rcases e with e | e
                · rw [HCH.out.p3 g e]; rfl
                · rw [e, HCH.out.p0]; rfl)) (fun cb' hcb' => by
                  rw [HCB.out] at hcb'
                  cases hcb'
                  have h9 := HC7.out
                  have h8 : Ch.strike task 3 c = { c with sends := off task c.sends } := by unfold Ch.strike; rw [if_pos rfl]
                  rw [h8]
                  exact ⟨_, _, _, _, h9⟩) (by
                  have h8 : Ch.strike task 3 c = { c with sends := off task c.sends } := by unfold Ch.strike; rw [if_pos rfl]
                  rw [h8]
                  have h7 := off_len task c.sends
                  have h6 := HROWS.out
                  exact ⟨by simp only; omega, by simp only; omega⟩) (Nat.le_refl _)
              simp only at h1 ⊢
              rw [HST.out]; exact h1
            · rcases e with e | e
              · exact ⟨kc, by rw [HCH.out.p3 g e]; rfl⟩
              · exact ⟨kc, by rw [e, HCH.out.p0]; rfl⟩)
          clear hr7 hvb7 hk7 hcb hclt c2' c3' z2 z3 c1 c2 c3
          go_wp2_with fail
          go_roundw
          case rel => exact ⟨i + 1, by omega, by go_num, HJ7.out⟩
          case measure => simp [intOf]; omega
        · have e3 : (xw == 3) = false := by rw [beq_eq_false_iff_ne]; exact h3
          have hrow := row_any (wr.alloc (.cells #[.int .i64 xw, .int .i64 xc, .int .i64 xn] 85)) cb xw
          rw [if_neg h3] at hrow
          have HROW := Lib.hid hrow
          have hq6 : (wr.alloc (.cells #[.int .i64 xw, .int .i64 xc, .int .i64 xn] 85)).cell? ⟨w.heap.size, 0, none⟩ = some (.int .i64 task) := HKA.out.cell_of (HJ.out.keep.cell_of HQ0.out (fun ⟨j, e⟩ => by
            have := HDOM.out w.heap.size (of_not_free e)
            omega)) id
          have HDEL := Lib.hid (deleteW_any _ _ _ HCH.out.r2 (by have := HROWS.out.2; omega) task w.heap.size hq6 (fun g hg e => by
            have h1 := HCH.out.p4 g hg
            have := HDOM.out g (by rw [h1]; simp)
            omega))
          clear hrow hq6
          go_wp2_with fail
          refine (channel_any HP6.out xc HM6.out).mono ?_
          rintro e w6 ⟨rfl, rfl⟩
          rw [HCP.out]
          go_wp2_with fail
          refine HROW.out.mono ?_
          rintro e w6 ⟨rfl, rfl⟩
          go_wp2_with fail
          refine HDEL.out.mono ?_
          rintro e w7 ⟨v', rfl, hr7, hvb7, hk7⟩
          obtain ⟨a3, k3, hv3, -, -⟩ := hr7.slice
          subst hv3
          have hcb : ¬ (Value.slice a2 c.recvs.length k2).ownBlock = some cb := fun e => by
            have h1 := HCH.out.p4 cb e
            rw [HCH.out.p0] at h1
            cases h1
          have hclt : cb < (wr.alloc (.cells #[.int .i64 xw, .int .i64 xc, .int .i64 xn] 85)).heap.size := block_lt_of_cell HCH.out.c0
          have y2 : w7.cell? ⟨cb, 3, none⟩ = some (Value.slice a2 c.recvs.length k2) := hk7.cell_of c3' hcb
          have y3 : w7.frozen? ⟨cb, 3, none⟩ = false := by rw [hk7.frozen (p := ⟨cb, 3, none⟩) hclt hcb]; exact z3
          have HC7 := Lib.hid (HCH.out.recvs hk7 hr7 (fun g e => HCH.out.p4 g (hvb7 g e)))
          have HK7 : Hid (Keeps (fun g => (Value.slice a2 c.recvs.length k2).ownBlock = some g ∨ g = cb) (wr.alloc (.cells #[.int .i64 xw, .int .i64 xc, .int .i64 xn] 85)) (w7.setCell ⟨cb, 3, none⟩ (.slice a3 (off task c.recvs).length k3))) := Lib.hid ((hk7.mono (S' := fun g => (Value.slice a2 c.recvs.length k2).ownBlock = some g ∨ g = cb) fun _ _ e => Or.inl e).setCell (p := ⟨cb, 3, none⟩) (Or.inl (Or.inr rfl)) _)
          have HST : Hid (strike task (l.take (i + 1)) s.chs = (strike task (l.take i) s.chs).set kc (c.strike task xw)) := Lib.hid ((strike_succ HX.out s.chs).trans (strikeAt_set HXC.out HCG.out))
          have HJ7 : Hid (WakeJ w5 (w7.setCell ⟨cb, 3, none⟩ (.slice a3 (off task c.recvs).length k3)) ρ pb vch ptr (some b) (D.del (.int .i64 task)) N M ⟨s.chs, fun x => if x = task then none else s.asks x⟩ task l (i + 1)) := Lib.hid (by
            refine ⟨?_, HJ.out.keep.trans' ((HKA.out.mono (S' := fun g => (Value.slice a2 c.recvs.length k2).ownBlock = some g ∨ g = cb) fun _ _ e => e.elim).trans HK7.out) fun g hg e => ?_⟩
            · have h1 := HP6.out.put (M' := M) HK7.out (fun _ _ => rfl) (fun g hg => Nat.lt_of_lt_of_le (HP6.out.dom g hg) HK7.out.size) kc (c' := c.strike task xw) (fun g e => Or.inr (by
                rcases e with e | e
                · rw [HCH.out.p4 g e]; rfl
                · rw [e, HCH.out.p0]; rfl)) (fun cb' hcb' => by
                  rw [HCB.out] at hcb'
                  cases hcb'
                  have h9 := HC7.out
                  have h8 : Ch.strike task xw c = { c with recvs := off task c.recvs } := by unfold Ch.strike; rw [if_neg h3]
                  rw [h8]
                  exact ⟨_, _, _, _, h9⟩) (by
                  have h8 : Ch.strike task xw c = { c with recvs := off task c.recvs } := by unfold Ch.strike; rw [if_neg h3]
                  rw [h8]
                  have h7 := off_len task c.recvs
                  have h6 := HROWS.out
                  exact ⟨by simp only; omega, by simp only; omega⟩) (Nat.le_refl _)
              simp only at h1 ⊢
              rw [HST.out]; exact h1
            · rcases e with e | e
              · exact ⟨kc, by rw [HCH.out.p4 g e]; rfl⟩
              · exact ⟨kc, by rw [e, HCH.out.p0]; rfl⟩)
          clear hr7 hvb7 hk7 hcb hclt c2' c3' z2 z3 c1 c2 c3
          go_wp2_with fail
          go_roundw
          case rel => exact ⟨i + 1, by omega, by go_num, HJ7.out⟩
          case measure => simp [intOf]; omega
    · obtain rfl : i = l.length := by omega
      have hoc : ∀ g, w.heap.size ≤ g → ¬ OfCh ρ g := fun g hg ⟨j, e⟩ => by
        have := HDOM.out g (of_not_free e)
        omega
      have q0 : wr.cell? ⟨w.heap.size, 0, none⟩ = some (.int .i64 task) := HJ.out.keep.cell_of HQ0.out (hoc _ (Nat.le_refl _))
      have q1 : wr.cell? ⟨w.heap.size, 1, none⟩ = some (.int .i64 (k : Int)) := HJ.out.keep.cell_of HQ1.out (hoc _ (Nat.le_refl _))
      have hrl : w.heap.size + 1 < w5.heap.size := by have := HZ.out; omega
      have r0 := HJ.out.keep.cell_of (HRC.out 0 (by decide)).1 (hoc (w.heap.size + 1) (by omega))
      have r1 := HJ.out.keep.cell_of (HRC.out 1 (by decide)).1 (hoc (w.heap.size + 1) (by omega))
      have r2 := HJ.out.keep.cell_of (HRC.out 2 (by decide)).1 (hoc (w.heap.size + 1) (by omega))
      have f0 : wr.frozen? ⟨w.heap.size + 1, 0, none⟩ = false := by rw [HJ.out.keep.frozen (p := ⟨w.heap.size + 1, 0, none⟩) hrl (hoc (w.heap.size + 1) (by omega))]; exact (HRC.out 0 (by decide)).2
      have f1 : wr.frozen? ⟨w.heap.size + 1, 1, none⟩ = false := by rw [HJ.out.keep.frozen (p := ⟨w.heap.size + 1, 1, none⟩) hrl (hoc (w.heap.size + 1) (by omega))]; exact (HRC.out 1 (by decide)).2
      have f2 : wr.frozen? ⟨w.heap.size + 1, 2, none⟩ = false := by rw [HJ.out.keep.frozen (p := ⟨w.heap.size + 1, 2, none⟩) hrl (hoc (w.heap.size + 1) (by omega))]; exact (HRC.out 2 (by decide)).2
      have HOC := Lib.hid hoc
      clear hoc hrl
      go_wp2_with fail
      obtain ⟨w9, hw9⟩ : ∃ w9, w9 = ((wr.setCell ⟨w.heap.size + 1, 0, none⟩ (.int .i64 task)).setCell ⟨w.heap.size + 1, 1, none⟩ (.int .i64 (k : Int))).setCell ⟨w.heap.size + 1, 2, none⟩ (.int .i64 n) := ⟨_, rfl⟩
      have e0 : w9.cell? ⟨w.heap.size + 1, 0, none⟩ = some (.int .i64 task) := by
        rw [hw9, cell_set_other (off_ne (by decide) _), cell_set_other (off_ne (by decide) _)]; exact cell_set_same r0
      have e1 : w9.cell? ⟨w.heap.size + 1, 1, none⟩ = some (.int .i64 (k : Int)) := by
        rw [hw9, cell_set_other (off_ne (by decide) _)]
        exact cell_set_same (u := .int .i64 0) (by rw [cell_set_other (off_ne (by decide) _)]; exact r1)
      have e2 : w9.cell? ⟨w.heap.size + 1, 2, none⟩ = some (.int .i64 n) := by
        rw [hw9]
        exact cell_set_same (u := .int .i64 0) (by rw [cell_set_other (off_ne (by decide) _), cell_set_other (off_ne (by decide) _)]; exact r2)
      have HK9 : Hid (Keeps (fun g => g = w.heap.size + 1) wr w9) := Lib.hid (by
        rw [hw9]
        exact (((Keeps.refl (fun g => g = w.heap.size + 1) wr).setCell (p := ⟨w.heap.size + 1, 0, none⟩) (Or.inl rfl) _).setCell (p := ⟨w.heap.size + 1, 1, none⟩) (Or.inl rfl) _).setCell (p := ⟨w.heap.size + 1, 2, none⟩) (Or.inl rfl) _)
      rw [← hw9]
      clear hw9 q0 q1 r0 r1 r2 f0 f1 f2
      refine bodyPost_ret (v := .agg #[.int .i64 task, .int .i64 (k : Int), .int .i64 n]) (by simp [results, Tryd.results40, go_sem, e0, e1, e2] <;> rfl) rfl ?_
      refine ⟨rfl, ⟨D.del (.int .i64 task), ?_⟩, ?_⟩
      · have h1 := HJ.out.at_.keeps HK9.out (fun g hg e => by
          rcases Classical.em (ρ g = .free) with h2 | h2
          · exact h2
          · have := HDOM.out g h2; omega)
        rw [List.take_length] at h1
        exact h1
      · exact ((HK5.out.mono (S' := fun g => ρ g ≠ .free) fun g _ e => by rw [e, HB.out]; simp).trans' HJ.out.keep fun g _ ⟨j, e⟩ => of_not_free e).trans' HK9.out fun g hg e => by omega
end Go.Proofs.YtpehmghnfbkaaaaDoor
