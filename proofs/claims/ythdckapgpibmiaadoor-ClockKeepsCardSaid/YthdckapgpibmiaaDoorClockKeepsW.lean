/-
  The walk of the law ClockKeeps: what is to come, whatever is set, dropped, and due, is the document's.
-/
import Derived.Test.YthdckapgpibmiaaDoorClockKept
import Derived.Test.YthdckapgpibmiaaDoorClockOps
import Derived.Deep.QuietTactic
import Derived.BigQuiet
import Derived.Deep.DeepCutAuto
import Derived.Deep.CutRange
import Derived.Deep.CutBlock
import Derived.Deep.RegionHeld3
import Derived.StillTailTactics
namespace Go.Proofs.YthdckapgpibmiaaDoor
open Go.RowKit Go.Maps

set_option maxRecDepth 100000 in
set_option maxHeartbeats 6400000 in
theorem clockKeeps_any (v : Value) (l : List (Int × Int × Int)) (w : World) (hv : CopsAt w v l) (hE : ErrT w) :
    Calls Tryd.prog 5 #[v] w fun e w' => e = .returned (.bool true) ∧ Below w.heap.size w w' := by
  have HE := Lib.hid hE
  obtain ⟨ao, m, cap, rfl, hm, hmc, hcm, hx, hwf⟩ := hv
  unfold maxLen at hcm
  have HX := Lib.hid hx
  have HWF := Lib.hid hwf
  have HM := Lib.hid hm
  clear hE hx hwf hm
  by_cases hbig : 200 < m
  · have h1i : (200 : Int) < (m : Int) := by omega
    go_enter Tryd.func5, Tryd.ntmps5
    go_wp2_with fail
    go_ret
    exact ⟨rfl, Below.refl _ _⟩
  · have h1i : ¬ (200 : Int) < (m : Int) := by omega
    go_enter Tryd.func5, Tryd.ntmps5
    go_wp2_with fail
    have hC0 := fresh_clock w
    have hkc : Keeps (fun _ => False) w (w.alloc (.cells #[.int .i64 0, .slice none 0 0, .map none, .nilFunc] 55)) := (Keeps.refl _ w).alloc _
    refine (refNew_any _).mono ?_
    rintro e w1 ⟨rb, mb, rfl, hr1, hlr, hlm, hb1⟩
    have HJ1 : Hid (ClkJ w w1 w.heap.size (fun b => b = w.heap.size) rb mb 0 (.map []) [] 0) := Lib.hid (by
      have hk1 : Keeps (fun _ => False) (w.alloc (.cells #[.int .i64 0, .slice none 0 0, .map none, .nilFunc] 55)) w1 := Keeps.of_new hb1
      have hs : (w.alloc (.cells #[.int .i64 0, .slice none 0 0, .map none, .nilFunc] 55)).heap.size = w.heap.size + 1 := by simp
      exact ⟨hC0.keeps hk1 fun _ _ => nof, hr1, by omega, by omega, fun b hb => by rw [hb]; exact Nat.le_refl _, by omega, by omega, (hkc.below (Nat.le_refl _) fun _ _ e => e.elim).trans (hk1.below (by omega) fun _ _ e => e.elim), Nat.le_refl _, hk1.cell_of (hkc.cell_of HE.out nof) nof, block_lt_of_cell HE.out⟩)
    clear hC0 hkc hr1 hlr hlm hb1
    go_wp2_with fail
    go_loopw [5] (fun i wr => ∃ (k : Nat) (F : Nat → Prop) (now : Int) (D : DataW Unit) (q : List Hp.E), k ≤ m ∧ i = .int .i64 k ∧ ClkJ w wr w.heap.size F rb mb now D q k) (fun i _ => m - (intOf i).toNat)
    case atStart => exact ⟨0, _, _, _, _, Nat.zero_le _, rfl, HJ1.out⟩
    case round =>
      obtain ⟨k, F, now, D, q, hk, rfl, hJ⟩ := hrel
      have HJ := Lib.hid hJ
      clear hJ HJ1
      by_cases hkm : k < m
      · obtain ⟨b, o, rfl, hbl, hcell⟩ := HX.out (by omega)
        obtain ⟨hc0, hc1, hc2⟩ := hcell k hkm
        have hmem : l.getD k (0, 0, 0) ∈ l := by
          have := HM.out
          rw [List.getD_eq_getElem?_getD, List.getElem?_eq_getElem (by omega)]
          exact List.getElem_mem _
        obtain ⟨-, hw1, hw2⟩ := HWF.out _ hmem
        rw [← HJ.out.bel.cell (p := ⟨b, o + k * 3, none⟩) hbl] at hc0
        rw [← HJ.out.bel.cell (p := ⟨b, o + k * 3 + 1, none⟩) hbl] at hc1
        rw [← HJ.out.bel.cell (p := ⟨b, o + k * 3 + 2, none⟩) hbl] at hc2
        clear hmem hcell
        generalize l.getD k (0, 0, 0) = p at *
        obtain ⟨a, t, id⟩ := p
        have HWT := Lib.hid hw1
        have HWI := Lib.hid hw2
        clear hw1 hw2
        have hk1000 : k < 1000 := by omega
        go_upto_region 8 with fail
        have hka : Keeps (fun _ => False) wr (wr.alloc (.cells #[.int .i64 a, .int .i64 t, .int .i64 id] 59)) := (Keeps.refl _ wr).alloc _
        have hx0 : (wr.alloc (.cells #[.int .i64 a, .int .i64 t, .int .i64 id] 59)).cell? ⟨wr.heap.size, 0, none⟩ = some (.int .i64 a) := by rw [World.cell?_alloc_at _ _ _ _ rfl]; rfl
        have hx1 : (wr.alloc (.cells #[.int .i64 a, .int .i64 t, .int .i64 id] 59)).cell? ⟨wr.heap.size, 1, none⟩ = some (.int .i64 t) := by rw [World.cell?_alloc_at _ _ _ _ rfl]; rfl
        have hx2 : (wr.alloc (.cells #[.int .i64 a, .int .i64 t, .int .i64 id] 59)).cell? ⟨wr.heap.size, 2, none⟩ = some (.int .i64 id) := by rw [World.cell?_alloc_at _ _ _ _ rfl]; rfl
        have HXA : Hid (ClkX w (wr.alloc (.cells #[.int .i64 a, .int .i64 t, .int .i64 id] 59)) w.heap.size F rb mb wr.heap.size now D q k t id) := Lib.hid ⟨HJ.out.fresh hka, ⟨hx1, hx2⟩, fun e => Nat.lt_irrefl _ (HJ.out.c.fl _ e), by have := HJ.out.r.lt; omega, by have := HJ.out.r.map.lt; omega⟩
        clear hka hc0 hc1 hc2 HJ
        generalize wr.alloc (.cells #[.int .i64 a, .int .i64 t, .int .i64 id] 59) = W0 at *
        generalize wr.heap.size = bx at *
        obtain ⟨xl, bh, hlr, hlk⟩ := HXA.out.j.r.look id HWI.out
        have HLR := Lib.hid hlr
        have cr1 := HXA.out.j.r.c1
        clear hlr
        go_quiet (fail)
        have HXD : Hid (ClkX w (W0.drewN nq) w.heap.size F rb mb bx now D q k t id) := Lib.hid (HXA.out.fresh (keeps_drewN0 W0 nq))
        have hy0 : (W0.drewN nq).cell? ⟨bx, 0, none⟩ = some (.int .i64 a) := hx0
        clear HXA hlk cr1 hx0 hx1 hx2
        generalize W0.drewN nq = Wd at *
        go_upto_block 2 with fail
        have hy1 := HXD.out.x.x1
        have hy2 := HXD.out.x.x2
        go_cut [] (fun wx => ∃ (F' : Nat → Prop) (now' : Int) (D' : DataW Unit) (q' : List Hp.E), ClkJ w wx w.heap.size F' rb mb now' D' q' (k + 1) ∧ XBox wx bx t id)
        case first =>
          by_cases ht0 : a = 0
          · subst ht0
            go_upto_region 12 with fail
            go_region_held3 (fun W : World => W.cell? ⟨bx, 1, none⟩ = some (.int .i64 t) ∧ W.cell? ⟨bx, 2, none⟩ = some (.int .i64 id)) (first | exact ⟨by assumption, by assumption⟩ | exact ⟨by simp only [World.cell?_drew]; assumption, by simp only [World.cell?_drew]; assumption⟩) ((first
              | (go_at_call 21; refine (ClkX.set1 (by first | exact HXD.out | exact HXD.out.drew | exact HXD.out.drew.drew) HWI.out hk1000).mono ?_; rintro e wa ⟨r, rfl, hma⟩; have hca1 := hma.x.x1; have hca2 := hma.x.x2; have HMA := Lib.hid hma; clear hma)
              | (go_at_call 22; refine (SetMid.set2 (by first | exact HMA.out | exact HMA.out.drew | exact HMA.out.drew.drew) HWT.out HWI.out hk1000).mono ?_; rintro e wb ⟨n, rfl, hmb⟩; have hcb1 := hmb.x.x1; have hcb2 := hmb.x.x2; have HMB := Lib.hid hmb; clear hmb)
              | (go_at_call 7; refine (SetEnd.set3 (by first | exact HMB.out | exact HMB.out.drew | exact HMB.out.drew.drew)).mono ?_; rintro e wc ⟨rfl, hmc⟩; have hcc1 := hmc.x.x1; have hcc2 := hmc.x.x2; have HMC := Lib.hid hmc; clear hmc)))
            all_goals go_wp2_with fail
            all_goals go_meet
            all_goals (obtain ⟨F', D', l', hj9, _⟩ := (show SetEnd _ _ _ _ _ _ _ _ _ _ _ _ from by first | exact HMC.out | exact HMC.out.drew).j; exact ⟨F', _, D', l', hj9, by first | exact HMC.out.x | exact HMC.out.drew.x⟩)
          by_cases ht1 : a = 1
          · subst ht1
            go_upto_region 12 with fail
            go_region_held3 (fun W : World => W.cell? ⟨bx, 1, none⟩ = some (.int .i64 t) ∧ W.cell? ⟨bx, 2, none⟩ = some (.int .i64 id)) (first | exact ⟨by assumption, by assumption⟩ | exact ⟨by simp only [World.cell?_drew]; assumption, by simp only [World.cell?_drew]; assumption⟩) ((first
              | (go_at_call 21; refine (ClkX.set1 (by first | exact HXD.out | exact HXD.out.drew | exact HXD.out.drew.drew) HWI.out hk1000).mono ?_; rintro e wa ⟨r, rfl, hma⟩; have hca1 := hma.x.x1; have hca2 := hma.x.x2; have HMA := Lib.hid hma; clear hma)
              | (go_at_call 22; refine (SetMid.set2 (by first | exact HMA.out | exact HMA.out.drew | exact HMA.out.drew.drew) HWT.out HWI.out hk1000).mono ?_; rintro e wb ⟨n, rfl, hmb⟩; have hcb1 := hmb.x.x1; have hcb2 := hmb.x.x2; have HMB := Lib.hid hmb; clear hmb)
              | (go_at_call 7; refine (SetEnd.set3 (by first | exact HMB.out | exact HMB.out.drew | exact HMB.out.drew.drew)).mono ?_; rintro e wc ⟨rfl, hmc⟩; have hcc1 := hmc.x.x1; have hcc2 := hmc.x.x2; have HMC := Lib.hid hmc; clear hmc)))
            all_goals go_wp2_with fail
            all_goals go_meet
            all_goals (obtain ⟨F', D', l', hj9, _⟩ := (show SetEnd _ _ _ _ _ _ _ _ _ _ _ _ from by first | exact HMC.out | exact HMC.out.drew).j; exact ⟨F', _, D', l', hj9, by first | exact HMC.out.x | exact HMC.out.drew.x⟩)
          have gt0 : (a == 0) = false := beq_eq_false_iff_ne.2 ht0
          have gt1 : (a == 1) = false := beq_eq_false_iff_ne.2 ht1
          by_cases ht2 : a = 2
          · subst ht2
            clear gt0 gt1
            go_wp2_with fail
            refine (HXD.out.due1).mono ?_
            rintro e wa ⟨v1, rfl, hm1⟩
            have HM1 := Lib.hid hm1
            clear hm1
            go_wp2_with fail
            refine (HM1.out.due2).mono ?_
            rintro e wb ⟨v2, rfl, hm2⟩
            have HM2 := Lib.hid hm2
            clear hm2
            go_wp2_with fail
            refine (HM2.out.due3).mono ?_
            rintro e wc ⟨rfl, hm3⟩
            have HM3 := Lib.hid hm3
            clear hm3
            go_wp2_with fail
            go_meet
            obtain ⟨F', now', D', q', hj, _⟩ := HM3.out.j
            exact ⟨F', now', D', q', hj.more (by omega), HM3.out.x⟩
          have gt2 : (a == 2) = false := beq_eq_false_iff_ne.2 ht2
          by_cases ht3 : a = 3
          · subst ht3
            clear gt0 gt1 gt2
            have cr1 := HXD.out.j.r.c1
            go_wp2_with fail
            go_still_tail 6, (by kernel_rfl)
            change wpList _ _ _ _ _ Wd.drew
            go_wp2_with (at_delete; refine wpList_delete_own _ rfl _ _ 50 3 rfl 3 keyedI Tryd.underlying50 _ mb 1000000 D rfl HXD.out.drew.j.r.map _ _ rfl (keyOf_int_mk Tryd.underlying3 HWI.out) ?_; intro w9 hown9 hturn9; have HDM := Lib.hid (HXD.out.drew.drop1 hown9 hturn9.grown); have hz2 := HDM.out.x.x2; clear hown9 hturn9)
            refine (HDM.out.drop2 HWI.out HLR.out).mono ?_
            rintro e wb ⟨rfl, hxb, D', q', hj⟩
            have HJB := Lib.hid hj
            have HXB := Lib.hid hxb
            clear hj hxb
            go_wp2_with fail
            go_meet
            exact ⟨F, now, D', q', HJB.out.more (by omega), HXB.out⟩
          have gt3 : (a == 3) = false := beq_eq_false_iff_ne.2 ht3
          go_wp2_with fail
          go_meet
          exact ⟨F, now, D, q, HXD.out.j.more (by omega), HXD.out.x⟩
        case rest =>
          obtain ⟨F', now', D', q', hj9, hx9⟩ := hcut
          have HJ9 := Lib.hid hj9
          have HX9 := Lib.hid hx9
          clear hj9 hx9 HXD HLR hy0 hy1 hy2
          go_wp2_with fail
          refine (refNext_any wc HJ9.out.r).mono ?_
          rintro e wd ⟨x, b1, rfl, hbd, hn1⟩
          have hkd : Keeps (fun _ => False) wc wd := Keeps.of_new hbd
          have HJD := Lib.hid (HJ9.out.fresh hkd)
          have HXX := Lib.hid (HX9.out.keeps hkd nof)
          have HN1 := Lib.hid hn1
          clear hbd hn1 hkd
          go_wp2_with fail
          refine (cnext_any wd HJD.out.c).mono ?_
          rintro e w' ⟨y, b2, rfl, rfl, hn2⟩
          obtain ⟨rfl, rfl⟩ := next_same HN1.out hn2
          clear hn2
          go_upto_region 23 with fail
          have HNW : Hid (∀ W, (∃ n, W = wd.drewN n) → Calls Tryd.prog 29 #[.pointer (some ⟨w.heap.size, 0, none⟩)] W fun e w' => e = .returned (.int .i64 now') ∧ ∃ n, w' = wd.drewN n) := Lib.hid (by
            rintro _ ⟨n, rfl⟩
            refine (cnow_any _ (HJD.out.fresh (keeps_drewN0 wd n)).c).mono ?_
            rintro e w' ⟨rfl, rfl⟩
            exact ⟨rfl, n, rfl⟩)
          have HLN : Hid (∀ W, (∃ n, W = wd.drewN n) → Calls Tryd.prog 30 #[.pointer (some ⟨w.heap.size, 0, none⟩)] W fun e w' => e = .returned (.int .i64 (q'.length : Nat)) ∧ ∃ n, w' = wd.drewN n) := Lib.hid (by
            rintro _ ⟨n, rfl⟩
            refine (clen_any _ (HJD.out.fresh (keeps_drewN0 wd n)).c).mono ?_
            rintro e w' ⟨rfl, rfl⟩
            exact ⟨rfl, n, rfl⟩)
          have hml := fun ty n => HJD.out.r.maplen ty n
          have d0 := HJD.out.r.c0
          have d1 := HJD.out.r.c1
          have hql : q'.length ≤ 1000 := HJD.out.r.len
          go_quiet ((first | (go_at_call 29; exact HNW.out _ ⟨_, rfl⟩) | (go_at_call 30; exact HLN.out _ ⟨_, rfl⟩)))
          have HJF := Lib.hid (HJD.out.fresh (keeps_drewN0 wd nq))
          have HXF := Lib.hid (HXX.out.keeps (keeps_drewN0 wd nq) nof)
          clear HNW HLN hml d0 d1 HJD HXX HN1
          generalize wd.drewN nq = wf at *
          go_upto_region 25 with fail
          obtain ⟨xl, bh, hlr, hlk⟩ := HJF.out.r.look id HWI.out
          have HLR := Lib.hid hlr
          have cr1 := HJF.out.r.c1
          have hz2 := HXF.out.x2
          clear hlr
          go_quiet (fail)
          have HJG := Lib.hid (HJF.out.fresh (keeps_drewN0 wf nq))
          have hz3 : (wf.drewN nq).cell? ⟨bx, 2, none⟩ = some (.int .i64 id) := hz2
          clear HJF HXF hlk cr1 hz2
          generalize wf.drewN nq = wg at *
          go_wp2_with fail
          refine (cwhen_any wg HJG.out.c id HWI.out).mono ?_
          rintro e w' ⟨y3, b3, rfl, rfl, hn3⟩
          obtain ⟨rfl, rfl⟩ := look_same HJG.out.r.tell HLR.out hn3
          clear hn3
          go_wp2_with fail
          go_roundw
          case rel => exact ⟨k + 1, F', now', D', q', by omega, by go_num, HJG.out⟩
          case measure => simp [intOf]; omega
      · obtain rfl : k = m := by omega
        have hkk : ¬ (k : Int) < (k : Int) := by omega
        go_wp2_with fail
        go_ret
        exact ⟨rfl, HJ.out.bel⟩
end Go.Proofs.YthdckapgpibmiaaDoor
