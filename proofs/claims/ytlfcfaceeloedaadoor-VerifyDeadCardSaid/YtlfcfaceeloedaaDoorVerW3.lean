/-
  The walks of the looker's ret, global, local, reckon, ask.
-/
import Derived.Test.YtlfcfaceeloedaaDoorVerW2
import Derived.Deep.RegionHeld3
import Derived.Deep.DeepCutAuto
import Derived.Deep.CutRange
namespace Go.Proofs.YtlfcfaceeloedaaDoor
open Go.RowKit Go.Shelf Cd Ve
variable {E : LE} {W : World} {s : VS}

theorem tx_list (u : Wt) : (tx u).toList = u := by
  rw [ByteArray.toList_eq]
  simp [tx]
theorem LkAt.lt (h : LkAt E W s) : ∀ b, LkS E b → b < W.heap.size := fun b e => by
  have h1 := h.blk.lt
  have h2 := h.row.lt
  rcases e with rfl | rfl <;> assumption
theorem one_new (W : World) (k : Int) : IntsAt (W.alloc (.cells #[.int .i64 k] 3)) (.slice (some ⟨W.heap.size, 0, none⟩) 1 1) [k] := by
  refine ⟨_, 1, 1, rfl, rfl, Nat.le_refl _, by decide, fun _ => ⟨W.heap.size, 0, rfl, by simp, fun i hi => ?_⟩⟩
  obtain rfl : i = 0 := by omega
  rw [World.cell?_alloc_at _ _ _ _ rfl]
  rfl
theorem two_new (W : World) (k j : Int) : IntsAt (W.alloc (.cells #[.int .i64 k, .int .i64 j] 3)) (.slice (some ⟨W.heap.size, 0, none⟩) 2 2) [k, j] := by
  refine ⟨_, 2, 2, rfl, rfl, Nat.le_refl _, by decide, fun _ => ⟨W.heap.size, 0, rfl, by simp, fun i hi => ?_⟩⟩
  have : i = 0 ∨ i = 1 := by omega
  rcases this with rfl | rfl <;> (rw [World.cell?_alloc_at _ _ _ _ rfl]; rfl)
theorem off_new (h : LkAt E W s) (n c : Nat) : Off (.slice (some ⟨W.heap.size, 0, none⟩) n c) (LkS E) := fun b e g => by
  have h1 := h.lt b g
  have h2 : W.heap.size = b := by injection e
  omega
/-- One kind is taken. -/
theorem take1_any (k : Int) (h : LkAt E W s) : Calls Tryd.prog 83 #[.pointer (some ⟨E.lb, 0, none⟩), .slice (some ⟨W.heap.size, 0, none⟩) 1 1] (W.alloc (.cells #[.int .i64 k] 3)) fun x W' => x = .returned (.tuple #[]) ∧ LkSays E W W' (s.take1 k) :=
  (take_any _ [k] (h.fresh ((Keeps.refl _ W).alloc _)) (one_new W k) (fun _ => off_new h 1 1)).mono fun _ _ ⟨h1, h2⟩ => ⟨h1, h2.new ((Keeps.refl _ W).alloc _)⟩
theorem take2_any (k j : Int) (h : LkAt E W s) : Calls Tryd.prog 83 #[.pointer (some ⟨E.lb, 0, none⟩), .slice (some ⟨W.heap.size, 0, none⟩) 2 2] (W.alloc (.cells #[.int .i64 k, .int .i64 j] 3)) fun x W' => x = .returned (.tuple #[]) ∧ LkSays E W W' (s.takeL [k, j]) :=
  (take_any _ [k, j] (h.fresh ((Keeps.refl _ W).alloc _)) (two_new W k j) (fun _ => off_new h 2 2)).mono fun _ _ ⟨h1, h2⟩ => ⟨h1, h2.new ((Keeps.refl _ W).alloc _)⟩

set_option maxRecDepth 100000 in
set_option maxHeartbeats 1600000 in
theorem ret_any (h : LkAt E W s) : Calls Tryd.prog 85 #[.pointer (some ⟨E.lb, 0, none⟩)] W fun x W' => x = .returned (.tuple #[]) ∧ LkSays E W W' (retS E.f s) := by
  have HH := Lib.hid h
  have c4 := h.c (j := 4) rfl
  have HT := Lib.hid (take1_any E.f.kind h)
  obtain ⟨t, ht⟩ : ∃ t, t = if E.f.kind ≠ 0 then s.take1 E.f.kind else s := ⟨_, rfl⟩
  have HR : Hid (retS E.f s = if t.waits ≠ [] then t.fail 13 else t) := Lib.hid (by rw [ht]; rfl)
  obtain ⟨ki, hki⟩ : ∃ ki, ki = E.f.kind := ⟨_, rfl⟩
  rw [← hki] at c4 HT ht
  clear h hki
  go_enter Tryd.func85, Tryd.ntmps85
  by_cases h0 : ki = 0
  · have hk : t = s := by rw [ht, if_neg (fun g => g h0)]
    have HS : Hid (LkSays E W W t) := Lib.hid (by rw [hk]; exact ⟨HH.out, Keeps.refl _ _⟩)
    clear hk ht
    subst h0
    have HF := Lib.hid (fail_any 13 HS.out.lk)
    have c8 := HS.out.lk.c (j := 8) rfl
    by_cases hw : t.waits = []
    · have HE : Hid (retS E.f s = t) := Lib.hid (by rw [HR.out, if_neg (fun g => g hw)])
      rw [hw, tx_nil] at c8
      clear hw
      go_wp2_with fail
      go_end0
      exact ⟨rfl, by rw [HE.out]; exact HS.out⟩
    · have HE : Hid (retS E.f s = t.fail 13) := Lib.hid (by rw [HR.out, if_pos hw])
      have hne : (!(tx t.waits).toList.isEmpty) = true := by rw [tx_list]; simpa using hw
      generalize tx t.waits = T at *
      clear hw
      go_wp2_with fail
      refine HF.out.mono ?_
      rintro e w2 ⟨rfl, hs⟩
      have HS2 := Lib.hid hs
      clear hs
      go_wp2_with fail
      go_end0
      exact ⟨rfl, by rw [HE.out]; exact HS.out.trans HS2.out⟩
  · have hk : t = s.take1 ki := by rw [ht, if_pos h0]
    rw [← hk] at HT
    clear hk ht
    go_wp2_with fail
    refine HT.out.mono ?_
    rintro e w1 ⟨rfl, hs⟩
    have HS := Lib.hid hs
    clear hs
    have HF := Lib.hid (fail_any 13 HS.out.lk)
    have c8 := HS.out.lk.c (j := 8) rfl
    by_cases hw : t.waits = []
    · have HE : Hid (retS E.f s = t) := Lib.hid (by rw [HR.out, if_neg (fun g => g hw)])
      rw [hw, tx_nil] at c8
      clear hw
      go_wp2_with fail
      go_end0
      exact ⟨rfl, by rw [HE.out]; exact HS.out⟩
    · have HE : Hid (retS E.f s = t.fail 13) := Lib.hid (by rw [HR.out, if_pos hw])
      have hne : (!(tx t.waits).toList.isEmpty) = true := by rw [tx_list]; simpa using hw
      generalize tx t.waits = T at *
      clear hw
      go_wp2_with fail
      refine HF.out.mono ?_
      rintro e w2 ⟨rfl, hs⟩
      have HS2 := Lib.hid hs
      clear hs
      go_wp2_with fail
      go_end0
      exact ⟨rfl, by rw [HE.out]; exact HS.out.trans HS2.out⟩

def insV (i : In) : Value := .agg #[.int .i64 i.1, .int .i64 i.2]
set_option maxRecDepth 100000 in
set_option maxHeartbeats 3200000 in
theorem global_any (i : In) (h : LkAt E W s) : Calls Tryd.prog 103 #[.pointer (some ⟨E.lb, 0, none⟩), insV i] W fun x W' => x = .returned (.tuple #[]) ∧ LkSays E W W' (globalS E.p i s) := by
  obtain ⟨op, n⟩ := i
  unfold insV
  dsimp only
  obtain ⟨g, hg⟩ : ∃ g, g = E.p.globals := ⟨_, rfl⟩
  have HG : Hid (globalS E.p (op, n) s = if g ≤ n then s.fail 2 else if op = 6 then s.put 1 else s.take1 1) := Lib.hid (by rw [hg]; rfl)
  have HK1 : Hid (Keeps (fun _ => False) W (W.alloc (.cells #[.int .i64 op, .int .i64 n] 37))) := Lib.hid ((Keeps.refl _ W).alloc _)
  have hx := BlkO.new W #[.int .i64 op, .int .i64 n] 37
  have HL1 := Lib.hid (h.fresh HK1.out)
  obtain ⟨ib, hib⟩ : ∃ ib, ib = W.heap.size := ⟨_, rfl⟩
  rw [← hib] at hx
  have c1 := hx.at_ 1 _ rfl
  have c0 := hx.at_ 0 _ rfl
  have g0 := HL1.out.c (j := 0) rfl
  rw [← hg] at g0
  go_enter Tryd.func103, Tryd.ntmps103
  go_upto_region 1 with fail
  rw [← hib]
  generalize W.alloc (.cells #[.int .i64 op, .int .i64 n] 37) = W1 at *
  have HIB : Hid (BlkO W1 ib [.int .i64 op, .int .i64 n]) := Lib.hid hx
  have HNE : Hid (¬ LkS E ib) := Lib.hid fun e => by have := h.lt _ e; omega
  have HAS : Hid (∀ V, Keeps (fun _ => False) W1 V → Calls Tryd.prog 95 #[.pointer (some ⟨E.lb, 0, none⟩), .int .i64 n, .int .i64 g] V fun x W' => x = .returned (.bool (decide (n < g))) ∧ LkSays E W1 W' (hasS n g s)) := Lib.hid fun V hV =>
    (has_any n g (HL1.out.fresh hV)).mono fun _ _ ⟨h1, h2⟩ => ⟨h1, h2.new hV⟩
  have HGG := Lib.hid hg
  have HZ : Hid (∀ V t, LkSays E W1 V t → V.cell? ⟨ib, 1, none⟩ = some (.int .i64 n) ∧ V.cell? ⟨E.lb, 0, none⟩ = some (.int .i64 g)) := Lib.hid fun V t hV => ⟨(HIB.out.keeps hV.kp HNE.out).at_ 1 _ rfl, by rw [HGG.out]; exact hV.lk.c (j := 0) rfl⟩
  clear hg hx h hib
  go_region_held3 (fun V : World => V.cell? ⟨ib, 1, none⟩ = some (.int .i64 n) ∧ V.cell? ⟨E.lb, 0, none⟩ = some (.int .i64 g)) (first | exact ⟨c1, g0⟩ | exact HZ.out _ _ (by assumption)) ((go_at_call 95; refine (HAS.out _ ((Keeps.refl _ _).drew)).mono ?_; rintro e w2 ⟨rfl, hs2⟩))
  have HS2 := Lib.hid hs2
  have c0' := (HIB.out.keeps hs2.kp HNE.out).at_ 0 _ rfl
  have c1' := (HIB.out.keeps hs2.kp HNE.out).at_ 1 _ rfl
  clear hs2 c0 c1 g0
  by_cases hmn : g ≤ n
  · have hmn2 : ¬ n < g := by omega
    have HE : Hid (globalS E.p (op, n) s = s.fail 2) := Lib.hid (by rw [HG.out, if_pos hmn])
    have HE2 : Hid (hasS n g s = s.fail 2) := Lib.hid (if_pos hmn)
    rw [show (!decide (n < g)) = true by simp [hmn2]]
    clear hmn hmn2
    go_wp2_with fail
    refine bodyPost_ret (results_none rfl _ _ _) rfl ?_
    exact ⟨rfl, by rw [HE.out, ← HE2.out]; exact HS2.out.new HK1.out⟩
  have hmn2 : n < g := by omega
  rw [show (!decide (n < g)) = false by simp [hmn2]]
  have HE2 : Hid (hasS n g s = s) := Lib.hid (if_neg hmn)
  rw [HE2.out] at HS2
  by_cases h6 : op = 6
  · have HE : Hid (globalS E.p (op, n) s = s.put 1) := Lib.hid (by rw [HG.out, if_neg hmn, if_pos h6])
    have HP := Lib.hid (put_any 1 (by decide) (by decide) HS2.out.lk)
    clear hmn
    go_wp2_with fail
    refine HP.out.mono ?_
    rintro e w3 ⟨rfl, hs3⟩
    have HS3 := Lib.hid hs3
    clear hs3
    go_wp2_with fail
    go_end0
    exact ⟨rfl, by rw [HE.out]; exact (HS2.out.trans HS3.out).new HK1.out⟩
  · have HE : Hid (globalS E.p (op, n) s = s.take1 1) := Lib.hid (by rw [HG.out, if_neg hmn, if_neg h6])
    have HP := Lib.hid (take1_any 1 HS2.out.lk)
    clear hmn
    go_wp2_with fail
    refine HP.out.mono ?_
    rintro e w3 ⟨rfl, hs3⟩
    have HS3 := Lib.hid hs3
    clear hs3
    go_wp2_with fail
    go_end0
    exact ⟨rfl, by rw [HE.out]; exact (HS2.out.trans HS3.out).new HK1.out⟩

/-- What stands ahead of the world W0 stands yet. -/
theorem LkAt.locals (h : LkAt E W s) : IntsAt W E.vl E.f.locals := h.inn.locals.below h.bel
theorem LkAt.code (h : LkAt E W s) : InsAt W E.vc E.f.code := h.inn.code.below h.bel
theorem LkAt.fns (h : LkAt E W s) : FnsAt W E.vf E.p.fns := h.inn.fns.below h.bel
set_option maxRecDepth 100000 in
set_option maxHeartbeats 3200000 in
theorem local_any (i : In) (h0 : 0 ≤ i.2) (h : LkAt E W s) : Calls Tryd.prog 102 #[.pointer (some ⟨E.lb, 0, none⟩), insV i] W fun x W' => x = .returned (.tuple #[]) ∧ LkSays E W W' (localS E.f i s) := by
  obtain ⟨op, n⟩ := i
  unfold insV
  dsimp only at h0 ⊢
  obtain ⟨vl, hg⟩ : ∃ vl, vl = E.vl := ⟨_, rfl⟩
  obtain ⟨ao, m, cap, hvl, hm, hmc, hcm, -⟩ := h.locals
  rw [← hg] at hvl
  subst hvl
  unfold maxLen at hcm
  obtain ⟨kd, hkd⟩ : ∃ kd, kd = E.f.locals.getD n.toNat 0 := ⟨_, rfl⟩
  have HG : Hid (localS E.f (op, n) s = if (m : Int) ≤ n then s.fail 2 else if op = 4 then s.put kd else s.take1 kd) := Lib.hid (by rw [hkd, hm]; rfl)
  have HKD : Hid (kd ≤ 3 ∧ (n.toNat < m → 0 ≤ kd)) := Lib.hid (by
    refine ⟨by rw [hkd]; exact getD_le (fun k hk => (h.inn.rightF.kinds k hk).2) _, fun hl => ?_⟩
    rw [hm] at hl
    rw [hkd, List.getD_eq_getElem?_getD, List.getElem?_eq_getElem hl]
    exact Int.le_trans (by decide) (h.inn.rightF.kinds _ (List.getElem_mem hl)).1)
  have HM := Lib.hid hm
  have HKK := Lib.hid hkd
  clear hm hkd
  have HK1 : Hid (Keeps (fun _ => False) W (W.alloc (.cells #[.int .i64 op, .int .i64 n] 37))) := Lib.hid ((Keeps.refl _ W).alloc _)
  have hx := BlkO.new W #[.int .i64 op, .int .i64 n] 37
  have HL1 := Lib.hid (h.fresh HK1.out)
  obtain ⟨ib, hib⟩ : ∃ ib, ib = W.heap.size := ⟨_, rfl⟩
  rw [← hib] at hx
  have c1 := hx.at_ 1 _ rfl
  have c0 := hx.at_ 0 _ rfl
  have g0 := HL1.out.c (j := 3) rfl
  rw [← hg] at g0
  go_enter Tryd.func102, Tryd.ntmps102
  go_upto_region 1 with fail
  rw [← hib]
  generalize W.alloc (.cells #[.int .i64 op, .int .i64 n] 37) = W1 at *
  have HIB : Hid (BlkO W1 ib [.int .i64 op, .int .i64 n]) := Lib.hid hx
  have HNE : Hid (¬ LkS E ib) := Lib.hid fun e => by have := h.lt _ e; omega
  have HAS : Hid (∀ V, Keeps (fun _ => False) W1 V → Calls Tryd.prog 95 #[.pointer (some ⟨E.lb, 0, none⟩), .int .i64 n, .int .i64 (m : Int)] V fun x W' => x = .returned (.bool (decide (n < (m : Int)))) ∧ LkSays E W1 W' (hasS n (m : Int) s)) := Lib.hid fun V hV =>
    (has_any n (m : Int) (HL1.out.fresh hV)).mono fun _ _ ⟨h1, h2⟩ => ⟨h1, h2.new hV⟩
  have HGG := Lib.hid hg
  have HZ : Hid (∀ V t, LkSays E W1 V t → V.cell? ⟨ib, 1, none⟩ = some (.int .i64 n) ∧ V.cell? ⟨E.lb, 3, none⟩ = some (.slice ao m cap)) := Lib.hid fun V t hV => ⟨(HIB.out.keeps hV.kp HNE.out).at_ 1 _ rfl, by rw [HGG.out]; exact hV.lk.c (j := 3) rfl⟩
  clear hg hx h hib
  go_region_held3 (fun V : World => V.cell? ⟨ib, 1, none⟩ = some (.int .i64 n) ∧ V.cell? ⟨E.lb, 3, none⟩ = some (.slice ao m cap)) (first | exact ⟨c1, g0⟩ | exact HZ.out _ _ (by assumption)) ((go_at_call 95; refine (HAS.out _ ((Keeps.refl _ _).drew)).mono ?_; rintro e w2 ⟨rfl, hs2⟩))
  have HS2 := Lib.hid hs2
  have c0' := (HIB.out.keeps hs2.kp HNE.out).at_ 0 _ rfl
  have c1' := (HIB.out.keeps hs2.kp HNE.out).at_ 1 _ rfl
  clear hs2 c0 c1 g0
  by_cases hmn : (m : Int) ≤ n
  · have hmn2 : ¬ n < (m : Int) := by omega
    have HE : Hid (localS E.f (op, n) s = s.fail 2) := Lib.hid (by rw [HG.out, if_pos hmn])
    have HE2 : Hid (hasS n (m : Int) s = s.fail 2) := Lib.hid (if_pos hmn)
    rw [show (!decide (n < (m : Int))) = true by simp [hmn2]]
    clear hmn hmn2
    go_wp2_with fail
    refine bodyPost_ret (results_none rfl _ _ _) rfl ?_
    exact ⟨rfl, by rw [HE.out, ← HE2.out]; exact HS2.out.new HK1.out⟩
  have hmn2 : n < (m : Int) := by omega
  rw [show (!decide (n < (m : Int))) = false by simp [hmn2]]
  have HE2 : Hid (hasS n (m : Int) s = s) := Lib.hid (if_neg hmn)
  rw [HE2.out] at HS2
  obtain ⟨q, rfl⟩ : ∃ q : Nat, n = (q : Int) := ⟨n.toNat, by omega⟩
  have hqm : q < m := by omega
  obtain ⟨b, o, rfl, hbl, hcl⟩ : ∃ b o, ao = some ⟨b, o, none⟩ ∧ b < w2.heap.size ∧ ∀ i, i < m → w2.cell? ⟨b, o + i, none⟩ = some (.int .i64 (E.f.locals.getD i 0)) := by
    obtain ⟨_, _, _, e, _, _, _, hx⟩ := HS2.out.lk.locals
    rw [← HGG.out] at e
    cases e
    exact hx (by omega)
  have hc := hcl q hqm
  have hkq : E.f.locals.getD q 0 = kd := HKK.out.symm
  rw [hkq] at hc
  have g0' := HS2.out.lk.c (j := 3) rfl
  rw [← HGG.out] at g0'
  have hqi : (0 : Int) ≤ (q : Int) ∧ (q : Int) < (m : Int) := by omega
  have hk0 : 0 ≤ kd := HKD.out.2 (by omega)
  have hk3 := HKD.out.1
  have HSD := Lib.hid HS2.out.drew
  clear hcl hkq
  by_cases h6 : op = 4
  · have HE : Hid (localS E.f (op, (q : Int)) s = s.put kd) := Lib.hid (by rw [HG.out, if_neg hmn, if_pos h6])
    have HP := Lib.hid (put_any kd hk0 hk3 HSD.out.lk)
    clear hmn
    go_wp2_with fail
    go_region
    go_wp2_with fail
    refine HP.out.mono ?_
    rintro e w3 ⟨rfl, hs3⟩
    have HS3 := Lib.hid hs3
    clear hs3
    go_wp2_with fail
    go_end0
    exact ⟨rfl, by rw [HE.out]; exact (HSD.out.trans HS3.out).new HK1.out⟩
  · have HE : Hid (localS E.f (op, (q : Int)) s = s.take1 kd) := Lib.hid (by rw [HG.out, if_neg hmn, if_neg h6])
    have HP := Lib.hid (take1_any kd HSD.out.lk)
    clear hmn
    go_wp2_with fail
    go_region
    go_wp2_with fail
    refine HP.out.mono ?_
    rintro e w3 ⟨rfl, hs3⟩
    have HS3 := Lib.hid hs3
    clear hs3
    go_wp2_with fail
    go_end0
    exact ⟨rfl, by rw [HE.out]; exact (HSD.out.trans HS3.out).new HK1.out⟩
end Go.Proofs.YtlfcfaceeloedaaDoor
