/-
  The walks of the looker's instruction and function.
-/
import Derived.Test.YtlfcfaceeloedaaDoorVerW8
namespace Go.Proofs.YtlfcfaceeloedaaDoor
open Go.RowKit Go.Shelf Cd Ve
variable {E : LE} {W : World} {s : VS}

set_option maxRecDepth 100000 in
set_option maxHeartbeats 6400000 in
theorem instruction_any (i : In) (hi : mayB i = true) (hat : s.at_ < E.f.code.length) (h : LkAt E W s) : Calls Tryd.prog 72 #[.pointer (some ⟨E.lb, 0, none⟩), insV i] W fun x W' => x = .returned (.tuple #[]) ∧ LkSays E W W' (insS E.p E.f i s) := by
  obtain ⟨op, n⟩ := i
  unfold insV
  dsimp only
  have h0 : op ≠ 1 → 0 ≤ n := fun ho => by
    simp [mayB] at hi
    have h2 : 0 ≤ leastI op := by unfold leastI; rw [if_neg ho]; split; omega; split <;> omega
    omega
  have HK1 : Hid (Keeps (fun _ => False) W (W.alloc (.cells #[.int .i64 op, .int .i64 n] 37))) := Lib.hid ((Keeps.refl _ W).alloc _)
  have hx := BlkO.new W #[.int .i64 op, .int .i64 n] 37
  have HL1 := Lib.hid (h.fresh HK1.out)
  obtain ⟨ib, hib⟩ : ∃ ib, ib = W.heap.size := ⟨_, rfl⟩
  rw [← hib] at hx
  have c1 := hx.at_ 1 _ rfl
  have c0 := hx.at_ 0 _ rfl
  have HNE : Hid (¬ LkS E ib) := Lib.hid fun e => by have := h.lt _ e; omega
  obtain ⟨r, hr⟩ : ∃ r, r = insS E.p E.f (op, n) s := ⟨_, rfl⟩
  rw [← hr]
  have hk : op = 11 ∨ op = 12 ∨ op = 14 ∨ op = 23 ∨ op = 24 ∨ op = 25 ∨ op = 26 ∨ (¬ op = 11 ∧ ¬ op = 12 ∧ ¬ op = 14 ∧ ¬ op = 23 ∧ ¬ op = 24 ∧ ¬ op = 25 ∧ ¬ op = 26) := by omega
  go_enter Tryd.func72, Tryd.ntmps72
  go_upto_region 1 with fail
  rw [← hib]
  generalize W.alloc (.cells #[.int .i64 op, .int .i64 n] 37) = W1 at *
  have HIB := Lib.hid hx
  clear hx hib h hi
  rcases hk with rfl | rfl | rfl | rfl | rfl | rfl | rfl | ⟨e1, e2, e3, e4, e5, e6, e7⟩
  · have HE : Hid (r = VS.come E.f s n) := Lib.hid (by rw [hr]; rfl)
    have HP := Lib.hid (come_any n (fun _ => h0 (by decide)) HL1.out)
    clear hr h0 hat
    go_wp2_with fail
    refine HP.out.mono ?_
    rintro e w2 ⟨rfl, hs2⟩
    have HS2 := Lib.hid hs2
    clear hs2
    go_wp2_with fail
    go_end0
    exact ⟨rfl, by rw [HE.out]; exact HS2.out.new HK1.out⟩
  · have HE : Hid (r = VS.next E.f (VS.come E.f (s.take1 2) n)) := Lib.hid (by rw [hr]; rfl)
    have HP := Lib.hid (take1_any 2 HL1.out)
    have hn0 := h0 (by decide)
    clear hr h0 hat
    go_wp2_with fail
    refine HP.out.mono ?_
    rintro e w2 ⟨rfl, hs2⟩
    have HS2 := Lib.hid hs2
    have j1 := (HIB.out.keeps hs2.kp HNE.out).at_ 1 _ rfl
    have HQ := Lib.hid (come_any n (fun _ => hn0) hs2.lk)
    clear hs2 c0 c1
    go_wp2_with fail
    refine HQ.out.mono ?_
    rintro e w3 ⟨rfl, hs3⟩
    have HS3 := Lib.hid hs3
    have HR := Lib.hid (next_any hs3.lk)
    clear hs3
    go_wp2_with fail
    refine HR.out.mono ?_
    rintro e w4 ⟨rfl, hs4⟩
    have HS4 := Lib.hid hs4
    clear hs4
    go_wp2_with fail
    go_end0
    exact ⟨rfl, by rw [HE.out]; exact ((HS2.out.trans HS3.out).trans HS4.out).new HK1.out⟩
  · have HE : Hid (r = retS E.f s) := Lib.hid (by rw [hr]; rfl)
    have HP := Lib.hid (ret_any HL1.out)
    clear hr h0 hat
    go_wp2_with fail
    refine HP.out.mono ?_
    rintro e w2 ⟨rfl, hs2⟩
    have HS2 := Lib.hid hs2
    clear hs2
    go_wp2_with fail
    go_end0
    exact ⟨rfl, by rw [HE.out]; exact HS2.out.new HK1.out⟩
  · have HE : Hid (r = chooseS E.f n s) := Lib.hid (by rw [hr]; rfl)
    have HP := Lib.hid (choose_any n (h0 (by decide)) hat HL1.out)
    clear hr h0 hat
    go_wp2_with fail
    refine HP.out.mono ?_
    rintro e w2 ⟨rfl, hs2⟩
    have HS2 := Lib.hid hs2
    clear hs2
    go_wp2_with fail
    go_end0
    exact ⟨rfl, by rw [HE.out]; exact HS2.out.new HK1.out⟩
  · have HE : Hid (r = s.fail 6) := Lib.hid (by rw [hr]; rfl)
    have HP := Lib.hid (fail_any 6 HL1.out)
    clear hr h0 hat
    go_wp2_with fail
    refine HP.out.mono ?_
    rintro e w2 ⟨rfl, hs2⟩
    have HS2 := Lib.hid hs2
    clear hs2
    go_wp2_with fail
    go_end0
    exact ⟨rfl, by rw [HE.out]; exact HS2.out.new HK1.out⟩
  · have HE : Hid (r = s.fail 6) := Lib.hid (by rw [hr]; rfl)
    have HP := Lib.hid (fail_any 6 HL1.out)
    clear hr h0 hat
    go_wp2_with fail
    refine HP.out.mono ?_
    rintro e w2 ⟨rfl, hs2⟩
    have HS2 := Lib.hid hs2
    clear hs2
    go_wp2_with fail
    go_end0
    exact ⟨rfl, by rw [HE.out]; exact HS2.out.new HK1.out⟩
  · have HE : Hid (r = s.fail 6) := Lib.hid (by rw [hr]; rfl)
    have HP := Lib.hid (fail_any 6 HL1.out)
    clear hr h0 hat
    go_wp2_with fail
    refine HP.out.mono ?_
    rintro e w2 ⟨rfl, hs2⟩
    have HS2 := Lib.hid hs2
    clear hs2
    go_wp2_with fail
    go_end0
    exact ⟨rfl, by rw [HE.out]; exact HS2.out.new HK1.out⟩
  · have HE : Hid (r = VS.next E.f (changeS E.p E.f (op, n) s)) := Lib.hid (by rw [hr]; unfold insS; dsimp only; rw [if_neg e1, if_neg e2, if_neg e3, if_neg e4, if_neg (by simp [caseB, e5, e6, e7])])
    have HP := Lib.hid (change_any (op, n) h0 HL1.out)
    unfold insV at HP
    dsimp only at HP
    clear hr h0 hat
    go_wp2_with fail
    refine HP.out.mono ?_
    rintro e w2 ⟨rfl, hs2⟩
    have HS2 := Lib.hid hs2
    have HR := Lib.hid (next_any hs2.lk)
    clear hs2 c0 c1
    go_wp2_with fail
    refine HR.out.mono ?_
    rintro e w4 ⟨rfl, hs4⟩
    have HS4 := Lib.hid hs4
    clear hs4
    go_wp2_with fail
    go_end0
    exact ⟨rfl, by rw [HE.out]; exact (HS2.out.trans HS4.out).new HK1.out⟩

theorem loopS_step (p : Pg) (f : FnV) (n k : Nat) (s : VS) (h : (stepS p f k s).wrong = 0) : loopS p f (n + 1) k s = loopS p f n (k + 1) (stepS p f k s) := by
  rw [loopS, if_neg (fun g => g h)]
theorem loopS_stop (p : Pg) (f : FnV) (n k : Nat) (s : VS) (h : (stepS p f k s).wrong ≠ 0) : loopS p f (n + 1) k s = stepS p f k s := by
  rw [loopS, if_pos h]
/-- The cells of an instruction that is looked at. -/
theorem stepS_none {p : Pg} {f : FnV} {k : Nat} {s : VS} (h : s.ahead.getD k none = none) : stepS p f k s = s := by unfold stepS; rw [h]
theorem stepS_some {p : Pg} {f : FnV} {k : Nat} {s : VS} {u : Wt} (h : s.ahead.getD k none = some u) : stepS p f k s = insS p f (f.code.getD k (0, 0)) { s with at_ := k, waits := u } := by unfold stepS; rw [h]

theorem start_cells : ∀ n : Nat, 0 < n → (sdsC (List.replicate n none)).set 0 (.bool true) = sdsC ((List.replicate n none).set 0 (some []))
  | n + 1, _ => by rw [List.replicate_succ]; rfl
set_option maxRecDepth 100000 in
set_option maxHeartbeats 6400000 in
theorem function_any (h : LkAt E W ⟨List.replicate E.f.code.length none, 0, [], 0⟩) : Calls Tryd.prog 58 #[.pointer (some ⟨E.lb, 0, none⟩)] W fun x W' => x = .returned (.tuple #[]) ∧ LkSays E W W' (fnS E.p E.f) := by
  have HH := Lib.hid h
  have c5 := h.c (j := 5) rfl
  have c6 := h.c (j := 6) rfl
  obtain ⟨ao, m, cap, hvc, hm, hmc, hcm, -⟩ := h.code
  unfold maxLen at hcm
  rw [hvc] at c5
  dsimp only at c6
  rw [List.length_replicate, ← hm] at c6
  by_cases hm0 : m = 0
  · subst hm0
    have hc : E.f.code = [] := List.length_eq_zero_iff.1 hm.symm
    have HF := Lib.hid (fail_any 7 h)
    have HE : Hid (fnS E.p E.f = VS.fail ⟨List.replicate E.f.code.length none, 0, [], 0⟩ 7) := Lib.hid (by unfold fnS; rw [if_pos hc, hc]; rfl)
    clear h hm hvc hc
    go_enter Tryd.func58, Tryd.ntmps58
    go_wp2_with fail
    refine HF.out.mono ?_
    rintro e w1 ⟨rfl, hs1⟩
    have HS1 := Lib.hid hs1
    clear hs1
    go_wp2_with fail
    refine bodyPost_ret (results_none rfl _ _ _) rfl ?_
    exact ⟨rfl, by rw [HE.out]; exact HS1.out⟩
  have hmi : ¬ (m : Int) = 0 := by omega
  have hmp : 0 < m := by omega
  have hmpi : (0 : Int) < (m : Int) := by omega
  have hc : E.f.code ≠ [] := fun e => hm0 (by rw [hm, e]; rfl)
  have HE : Hid (fnS E.p E.f = loopS E.p E.f m 0 (startS E.f)) := Lib.hid (by unfold fnS; rw [if_neg hc, ← hm])
  have HM : Hid (m = E.f.code.length ∧ E.vc = .slice ao m cap) := Lib.hid ⟨hm, hvc⟩
  have HPK : Hid (PgK E.p ∧ FnK E.f) := Lib.hid ⟨pgR_k h.inn.right, fnR_k h.inn.rightF⟩
  have HW0 := Lib.hid (way_start E.f hc)
  have hlt0 : 0 < (List.replicate E.f.code.length (none : Sd)).length := by rw [List.length_replicate, ← hm]; exact hmp
  have ha0 := (sdsC_get (List.replicate E.f.code.length (none : Sd)) 0 none (by rw [List.getElem?_replicate, if_pos (by omega)]))
  have a0 := h.row.at_ _ _ ha0.1
  have f0 := h.row.free 0
  have HST : Hid (LkSays E W (W.setCell ⟨E.ab, 0, none⟩ (.bool true)) (startS E.f)) := Lib.hid (by
    have hk := own_set W E.ab 0 (.bool true)
    have hr := h.row.set 0 (.bool true) (by rw [sdsC_length]; dsimp only; omega)
    refine ⟨⟨h.inn, h.bel.trans (hk.below h.bel.size fun b _ hb => by rw [hb]; exact h.inn.lo2), ?_, ?_, ⟨Nat.zero_le _, by simp [startS], kok_nil, HW0.out.kok⟩⟩, hk.mono fun b _ hb => Or.inr hb⟩
    · have := h.blk.keeps hk (fun e => h.inn.ne e)
      simpa [lkC, startS] using this
    · show BlkO _ E.ab (sdsC ((List.replicate E.f.code.length none).set 0 (some [])))
      rw [← start_cells _ (by omega)]
      exact hr)
  clear h hm hvc hc ha0 hm0
  go_enter Tryd.func58, Tryd.ntmps58
  go_upto_region 3 with fail
  have c5' := HST.out.lk.c (j := 5) rfl
  rw [HM.out.2] at c5'
  generalize W.setCell ⟨E.ab, 0, none⟩ (.bool true) = W1 at *
  have hz : ((m : Int) == 0) = false := by simp; omega
  rw [hz]
  clear c5 c6 a0 f0 hmi hmp hmpi hlt0 hz
  go_wp2_with fail
  go_loopw [25] (fun iv wr => ∃ (k : Nat) (t : VS), k ≤ m ∧ iv = .int .i64 k ∧ LkSays E W wr t ∧ Hid (WayI E.f k t) ∧ Hid (loopS E.p E.f m 0 (startS E.f) = loopS E.p E.f (m - k) k t)) (fun iv _ => m - (intOf iv).toNat)
  case atStart => exact ⟨0, _, Nat.zero_le _, rfl, HST.out, HW0, Lib.hid rfl⟩
  case round =>
    obtain ⟨k, t, hk, rfl, hs, HWI, HLS⟩ := hrel
    rename World => wr
    by_cases hkm : k < m
    · have hkc : k < E.f.code.length := by rw [← HM.out.1]; exact hkm
      have hk9 : k ≤ 9000 := by have := hs.lk.inn.rightF.code; omega
      have HKC := Lib.hid hkc
      have hcd := hs.lk.code
      rw [HM.out.2] at hcd
      obtain ⟨b, o, c', e9, hc1, hc2⟩ := InsAt.get hcd hkc
      rw [Value.slice.injEq] at e9
      obtain ⟨rfl, -, rfl⟩ := e9
      obtain ⟨⟨op, n⟩, hkd⟩ : ∃ kd, kd = E.f.code.getD k (0, 0) := ⟨_, rfl⟩
      rw [← hkd] at hc1 hc2
      dsimp only at hc1 hc2
      have hmay : mayB (op, n) = true := by
        rw [hkd, List.getD_eq_getElem?_getD, List.getElem?_eq_getElem hkc]
        exact hs.lk.inn.rightF.ins _ (List.getElem_mem hkc)
      have HMAY := Lib.hid hmay
      have HKD := Lib.hid hkd
      obtain ⟨d, hd⟩ : ∃ d, d = t.ahead.getD k none := ⟨_, rfl⟩
      have hlen : t.ahead.length = m := by rw [HWI.out.len, HM.out.1]
      have hdk : t.ahead[k]? = some d := by rw [hd, List.getD_eq_getElem?_getD, List.getElem?_eq_getElem (by omega)]; rfl
      have HD := Lib.hid hd
      obtain ⟨W2, hW2⟩ : ∃ W2, W2 = wr.alloc (.cells #[.int .i64 op, .int .i64 n] 37) := ⟨_, rfl⟩
      have hx := BlkO.new wr #[.int .i64 op, .int .i64 n] 37
      have hk1 : Keeps (fun _ => False) wr W2 := by rw [hW2]; exact (Keeps.refl _ wr).alloc _
      rw [← hW2] at hx
      have HS2 : Hid (LkSays E W W2 t) := Lib.hid ⟨hs.lk.fresh hk1, hs.kp.trans (hk1.mono fun _ _ e => e.elim)⟩
      have HNE : Hid (¬ LkS E wr.heap.size) := Lib.hid fun e => by have := hs.lk.lt _ e; omega
      have hg := sdsC_get t.ahead k d hdk
      have a0 := HS2.out.lk.row.at_ _ _ hg.1
      have a1 := HS2.out.lk.row.at_ _ _ hg.2
      have c6 := HS2.out.lk.c (j := 6) rfl
      rw [hlen] at c6
      have c7 := HS2.out.lk.c (j := 7) rfl
      have c8 := HS2.out.lk.c (j := 8) rfl
      have z7 := HS2.out.lk.blk.free 7
      have z8 := HS2.out.lk.blk.free 8
      have hki : (0 : Int) ≤ (k : Int) ∧ (k : Int) < (m : Int) := by omega
      have hki1 : (k : Int) < (m : Int) := by omega
      have HX := Lib.hid hx
      clear hkd hmay hd hdk hlen hs hkc hcd hx hk1 hg c5'
      cases d with
      | none =>
        simp only [Option.isSome_none] at a0
        have HNS : Hid (stepS E.p E.f k t = t) := Lib.hid (stepS_none HD.out.symm)
        have HR : Hid (∃ t2, LkSays E W W2 t2 ∧ WayI E.f (k + 1) t2 ∧ loopS E.p E.f m 0 (startS E.f) = loopS E.p E.f (m - (k + 1)) (k + 1) t2) := Lib.hid ⟨t, HS2.out, ⟨HWI.out.wrong, HWI.out.len, HWI.out.zero, HWI.out.kok⟩, by
          rw [HLS.out, show m - k = (m - (k + 1)) + 1 by omega, loopS_step _ _ _ _ _ (by rw [HNS.out]; exact HWI.out.wrong), HNS.out]⟩
        rw [hW2] at a0 a1 c6 c7 c8 z7 z8 HR
        clear hW2
        go_wp2_with fail
        go_roundw
        case rel =>
          obtain ⟨t2, r1, r2, r3⟩ := HR.out
          exact ⟨k + 1, t2, by omega, by go_num, r1, Lib.hid r2, Lib.hid r3⟩
        case measure => simp [intOf]; omega
      | some u =>
        simp only [Option.isSome_some] at a0
        simp only [Option.getD_some] at a1
        have HSS : Hid (stepS E.p E.f k t = insS E.p E.f (op, n) { t with at_ := k, waits := u }) := Lib.hid (by rw [stepS_some HD.out.symm, ← HKD.out])
        obtain ⟨g1, g2⟩ := HS2.out.lk.at_ k hk9
        obtain ⟨g3, g4⟩ := g1.waits u (HWI.out.kok k u HD.out.symm)
        have HS3 : Hid (LkSays E W ((W2.setCell ⟨E.lb, 7, none⟩ (.int .i64 (k : Nat))).setCell ⟨E.lb, 8, none⟩ (.string (tx u))) { t with at_ := k, waits := u }) := Lib.hid (HS2.out.trans ⟨g3, g2.trans g4⟩)
        have HX3 := Lib.hid (HX.out.keeps (g2.trans g4) HNE.out)
        have i0 := HX3.out.at_ 0 _ rfl
        have i1 := HX3.out.at_ 1 _ rfl
        have HI := Lib.hid (instruction_any (s := { t with at_ := k, waits := u }) (op, n) HMAY.out HKC.out HS3.out.lk)
        unfold insV at HI
        dsimp only at HI
        rw [← HSS.out] at HI
        clear g1 g2 g3 g4
        rw [hW2] at a0 a1 c6 c7 c8 z7 z8 HS3 HI i0 i1
        clear hW2
        generalize tx u = T at *
        go_wp2_with fail
        refine HI.out.mono ?_
        rintro e w4 ⟨rfl, hs4⟩
        have HS4 := Lib.hid (HS3.out.trans hs4)
        have d9 := hs4.lk.c (j := 9) rfl
        clear hs4 i0 i1 a0 a1 c6 c7 c8 z7 z8
        by_cases hw : (stepS E.p E.f k t).wrong = 0
        · have HR : Hid (WayI E.f (k + 1) (stepS E.p E.f k t) ∧ loopS E.p E.f m 0 (startS E.f) = loopS E.p E.f (m - (k + 1)) (k + 1) (stepS E.p E.f k t)) := Lib.hid ⟨way_step HPK.out.1 HPK.out.2 HWI.out hw, by
            rw [HLS.out, show m - k = (m - (k + 1)) + 1 by omega, loopS_step _ _ _ _ _ hw]⟩
          rw [hw] at d9
          clear hw
          go_wp2_with fail
          go_roundw
          case rel => exact ⟨k + 1, _, by omega, by go_num, HS4.out, Lib.hid HR.out.1, Lib.hid HR.out.2⟩
          case measure => simp [intOf]; omega
        · have hwi : ¬ ((stepS E.p E.f k t).wrong : Int) = 0 := by omega
          have HR : Hid (fnS E.p E.f = stepS E.p E.f k t) := Lib.hid (by rw [HE.out, HLS.out, show m - k = (m - (k + 1)) + 1 by omega, loopS_stop _ _ _ _ _ hw])
          clear hw
          go_wp2_with fail
          refine bodyPost_ret (results_none rfl _ _ _) rfl ?_
          exact ⟨rfl, by rw [HR.out]; exact HS4.out⟩
    · obtain rfl : k = m := by omega
      have HR : Hid (fnS E.p E.f = t) := Lib.hid (by rw [HE.out, HLS.out, Nat.sub_self]; rfl)
      have HS := Lib.hid hs
      clear hs
      go_wp2_with fail
      go_end0
      exact ⟨rfl, by rw [HR.out]; exact HS.out⟩
end Go.Proofs.YtlfcfaceeloedaaDoor
