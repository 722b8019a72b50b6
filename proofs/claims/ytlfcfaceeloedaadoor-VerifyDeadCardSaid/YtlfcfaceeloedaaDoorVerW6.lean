/-
  The walks of the looker's call and change.
-/
import Derived.Test.YtlfcfaceeloedaaDoorVerW5
namespace Go.Proofs.YtlfcfaceeloedaaDoor
open Go.RowKit Go.Shelf Cd Ve
variable {E : LE} {W : World} {s : VS}

theorem FnsAt.get {w : World} {v : Value} {l : List FnV} (h : FnsAt w v l) {k : Nat} (hk : k < l.length) : ∃ b o c, v = .slice (some ⟨b, o, none⟩) l.length c ∧ FnAt w b (o + k * 4) (l.getD k default) := by
  obtain ⟨ao, n, cap, hv, hn, hc, hm, hx⟩ := h
  obtain ⟨b, o, h1, _, h3⟩ := hx (by omega)
  have := h3 k _ (List.getElem?_eq_getElem hk)
  rw [List.getD_eq_getElem?_getD, List.getElem?_eq_getElem hk]
  exact ⟨b, o, cap, by rw [hv, h1, hn], this⟩
/-- The first so many of a slice of numbers. -/
theorem IntsAt.take {w : World} {ao : Option Addr} {n cap : Nat} {l : List Int} (h : IntsAt w (.slice ao n cap) l) (k : Nat) (hk : k ≤ l.length) : IntsAt w (.slice ao k cap) (l.take k) := by
  obtain ⟨ao', n', cap', e, hn, hc, hm, hx⟩ := h
  cases e
  refine ⟨ao, k, cap, rfl, by rw [List.length_take]; omega, by omega, hm, fun h0 => ?_⟩
  obtain ⟨b, o, h1, h2, h3⟩ := hx (by omega)
  refine ⟨b, o, h1, h2, fun i hi => ?_⟩
  rw [h3 i (by omega), List.getD_eq_getElem?_getD, List.getD_eq_getElem?_getD, List.getElem?_take_of_lt hi]

set_option maxRecDepth 100000 in
set_option maxHeartbeats 6400000 in
theorem call_any (i : In) (h0 : 0 ≤ i.2) (h : LkAt E W s) : Calls Tryd.prog 105 #[.pointer (some ⟨E.lb, 0, none⟩), insV i] W fun x W' => x = .returned (.tuple #[]) ∧ LkSays E W W' (callS E.p i s) := by
  obtain ⟨op, n⟩ := i
  unfold insV
  dsimp only at h0 ⊢
  obtain ⟨vf, hg⟩ : ∃ vf, vf = E.vf := ⟨_, rfl⟩
  obtain ⟨ao, m, cap, hvf, hm, hmc, hcm, -⟩ := h.fns
  rw [← hg] at hvf
  subst hvf
  unfold maxLen at hcm
  have HG : Hid (callS E.p (op, n) s = if (m : Int) ≤ n then s.fail 2 else if op = 13 ∧ (E.p.fns.getD n.toNat default).kind ≠ 0 then (s.takeL ((E.p.fns.getD n.toNat default).locals.take (E.p.fns.getD n.toNat default).params.toNat)).put (E.p.fns.getD n.toNat default).kind else s.takeL ((E.p.fns.getD n.toNat default).locals.take (E.p.fns.getD n.toNat default).params.toNat)) := Lib.hid (by rw [hm]; rfl)
  have HM := Lib.hid hm
  clear hm
  have HK1 : Hid (Keeps (fun _ => False) W (W.alloc (.cells #[.int .i64 op, .int .i64 n] 37))) := Lib.hid ((Keeps.refl _ W).alloc _)
  have hx := BlkO.new W #[.int .i64 op, .int .i64 n] 37
  have HL1 := Lib.hid (h.fresh HK1.out)
  obtain ⟨ib, hib⟩ : ∃ ib, ib = W.heap.size := ⟨_, rfl⟩
  rw [← hib] at hx
  have c1 := hx.at_ 1 _ rfl
  have c0 := hx.at_ 0 _ rfl
  have g0 := HL1.out.c (j := 1) rfl
  rw [← hg] at g0
  go_enter Tryd.func105, Tryd.ntmps105
  go_upto_region 1 with fail
  rw [← hib]
  generalize W.alloc (.cells #[.int .i64 op, .int .i64 n] 37) = W1 at *
  have HIB : Hid (BlkO W1 ib [.int .i64 op, .int .i64 n]) := Lib.hid hx
  have HNE : Hid (¬ LkS E ib) := Lib.hid fun e => by have := h.lt _ e; omega
  have HAS : Hid (∀ V, Keeps (fun _ => False) W1 V → Calls Tryd.prog 95 #[.pointer (some ⟨E.lb, 0, none⟩), .int .i64 n, .int .i64 (m : Int)] V fun x W' => x = .returned (.bool (decide (n < (m : Int)))) ∧ LkSays E W1 W' (hasS n (m : Int) s)) := Lib.hid fun V hV =>
    (has_any n (m : Int) (HL1.out.fresh hV)).mono fun _ _ ⟨h1, h2⟩ => ⟨h1, h2.new hV⟩
  have HGG := Lib.hid hg
  have HZ : Hid (∀ V t, LkSays E W1 V t → V.cell? ⟨ib, 1, none⟩ = some (.int .i64 n) ∧ V.cell? ⟨E.lb, 1, none⟩ = some (.slice ao m cap)) := Lib.hid fun V t hV => ⟨(HIB.out.keeps hV.kp HNE.out).at_ 1 _ rfl, by rw [HGG.out]; exact hV.lk.c (j := 1) rfl⟩
  clear hg hx h hib
  go_region_held3 (fun V : World => V.cell? ⟨ib, 1, none⟩ = some (.int .i64 n) ∧ V.cell? ⟨E.lb, 1, none⟩ = some (.slice ao m cap)) (first | exact ⟨c1, g0⟩ | exact HZ.out _ _ (by assumption)) ((go_at_call 95; refine (HAS.out _ ((Keeps.refl _ _).drew)).mono ?_; rintro e w2 ⟨rfl, hs2⟩))
  have HS2 := Lib.hid hs2
  have c0' := (HIB.out.keeps hs2.kp HNE.out).at_ 0 _ rfl
  have c1' := (HIB.out.keeps hs2.kp HNE.out).at_ 1 _ rfl
  clear hs2 c0 c1 g0
  by_cases hmn : (m : Int) ≤ n
  · have hmn2 : ¬ n < (m : Int) := by omega
    have HE : Hid (callS E.p (op, n) s = s.fail 2) := Lib.hid (by rw [HG.out, if_pos hmn])
    have HE2 : Hid (hasS n (m : Int) s = s.fail 2) := Lib.hid (if_pos hmn)
    rw [show (!decide (n < (m : Int))) = true by simp [hmn2]]
    clear hmn hmn2
    go_wp2_with fail
    refine bodyPost_ret (results_none rfl _ _ _) rfl ?_
    exact ⟨rfl, by rw [HE.out, ← HE2.out]; exact HS2.out.new HK1.out⟩
  have hmn2 : n < (m : Int) := by omega
  rw [show (!decide (n < (m : Int))) = false by simp [hmn2]]
  have HE2 : Hid (hasS n (m : Int) s = s) := Lib.hid (if_neg hmn)
  rw [HE2.out] at HS2
  obtain ⟨q, rfl⟩ : ∃ q : Nat, n = (q : Int) := ⟨n.toNat, by omega⟩
  have hqm : q < m := by omega
  have hfl : q < E.p.fns.length := by rw [← HM.out]; exact hqm
  have hfn := HS2.out.lk.inn.fns
  rw [← HGG.out] at hfn
  obtain ⟨b, o, c, hsl, f1, ⟨vl, f2, hli⟩, f3, vc, f4, hci⟩ := hfn.get hfl
  rw [Value.slice.injEq] at hsl
  obtain ⟨rfl, -, rfl⟩ := hsl
  have hr : FnR (E.p.fns.getD q default) := by
    rw [List.getD_eq_getElem?_getD, List.getElem?_eq_getElem hfl]
    exact HS2.out.lk.inn.right.each _ (List.getElem_mem hfl)
  have HF := HG.out
  rw [if_neg hmn] at HF
  have HG2 : Hid (callS E.p (op, (q : Int)) s = if op = 13 ∧ (E.p.fns.getD q default).kind ≠ 0 then (s.takeL ((E.p.fns.getD q default).locals.take (E.p.fns.getD q default).params.toNat)).put (E.p.fns.getD q default).kind else s.takeL ((E.p.fns.getD q default).locals.take (E.p.fns.getD q default).params.toNat)) := Lib.hid HF
  have hk0 := keeps_none HS2.out.lk.bel
  have f1 := hk0.cell_of f1 id
  have f2 := hk0.cell_of f2 id
  have f3 := hk0.cell_of f3 id
  have f4 := hk0.cell_of f4 id
  clear HF HG hfn hk0
  generalize E.p.fns.getD q default = g at *
  obtain ⟨pa, ls, ki, cs⟩ := g
  dsimp only at f1 f2 f3 hli HG2 hci
  have p0 := hr.params0
  have p1 := hr.params
  have k0 := hr.kind0
  have k1 := hr.kind
  dsimp only at p0 p1 k0 k1
  have HOF : Hid (∀ P, 0 < (ls.take P).length → Off vl (LkS E)) := Lib.hid fun P hP j hj e => by
    obtain ⟨a', n', c', rfl, hn', _, _, hx'⟩ := hli
    rw [List.length_take] at hP
    obtain ⟨b', o', rfl, hb', _⟩ := hx' (by omega)
    have hbj : b' = j := by injection hj
    have h1 := HS2.out.lk.inn.lo
    have h2 := HS2.out.lk.inn.lo2
    rcases e with e | e <;> omega
  have HLI := Lib.hid (hli.below HS2.out.lk.bel)
  obtain ⟨a1, n1, d1, rfl, hn1, hnc1, hcm1, -⟩ := hli
  obtain ⟨a2, n2, d2, rfl, hn2, hnc2, hcm2, -⟩ := hci
  unfold maxLen at hcm1 hcm2
  obtain ⟨P, rfl⟩ : ∃ P : Nat, pa = (P : Int) := ⟨pa.toNat, by omega⟩
  have hPn : P ≤ n1 := by omega
  have HPL : Hid (P ≤ ls.length) := Lib.hid (by omega)
  have g0' := HS2.out.lk.c (j := 1) rfl
  rw [← HGG.out] at g0'
  have hqi : (0 : Int) ≤ (q : Int) ∧ (q : Int) < (m : Int) := by omega
  obtain ⟨W3, hW3⟩ : ∃ W3, W3 = (w2.alloc (.cells #[.int .i64 (P : Int), .slice a1 n1 d1, .int .i64 ki, .slice a2 n2 d2] 47)).drew := ⟨_, rfl⟩
  have hn9 := BlkO.new w2 #[.int .i64 (P : Int), .slice a1 n1 d1, .int .i64 ki, .slice a2 n2 d2] 47
  have hn9 := hn9.keeps ((Keeps.refl (fun _ : Nat => False) _).drew) id
  rw [← hW3] at hn9
  have HK3 : Hid (Keeps (fun _ => False) w2 W3) := Lib.hid (by rw [hW3]; exact ((Keeps.refl _ _).alloc _).drew)
  have x0 := hn9.at_ 0 _ rfl
  have x1 := hn9.at_ 1 _ rfl
  have x2 := hn9.at_ 2 _ rfl
  clear hfl p0 p1 hn1 hn2 hr hmn hmn2
  have l1 := block_lt_of_cell c1'
  have l2 := block_lt_of_cell g0'
  have l3 := block_lt_of_cell f1
  dsimp only at l1 l2 l3
  go_wp2_with fail
  go_region
  rw [← hW3]
  obtain ⟨fb, hfb⟩ : ∃ fb, fb = w2.heap.size := ⟨_, rfl⟩
  rw [← hfb] at hn9 x0 x1 x2 ⊢
  have HIB3 := Lib.hid ((HIB.out.keeps HS2.out.kp HNE.out).keeps HK3.out id)
  have HS3 : Hid (LkSays E W W3 s) := Lib.hid ((HS2.out.new HK1.out).trans ⟨HS2.out.lk.fresh HK3.out, HK3.out.mono fun _ _ e => e.elim⟩)
  have HFB := Lib.hid hn9
  have HNE3 : Hid (¬ LkS E fb) := Lib.hid fun e => by have := HS2.out.lk.lt _ e; omega
  have HTK := Lib.hid (take_any (.slice a1 P d1) (ls.take P) HS3.out.lk ((HLI.out.keeps HK3.out (fun _ _ => id)).take P HPL.out) (fun g j hj => HOF.out P g j (by cases a1 <;> exact hj)))
  have y0 := HIB3.out.at_ 0 _ rfl
  obtain ⟨t, ht⟩ : ∃ t, t = s.takeL (ls.take P) := ⟨_, rfl⟩
  dsimp only [Int.toNat_natCast] at HG2
  rw [← ht] at HG2 HTK
  clear hW3 hfb c0' c1' f1 f2 f3 f4 g0' l1 l2 l3 hn9 ht
  have hPd : P ≤ d1 := by omega
  go_wp2_with fail
  refine HTK.out.mono ?_
  rintro e w4 ⟨rfl, hs4⟩
  have HS4 := Lib.hid hs4
  have HFB4 := Lib.hid (HFB.out.keeps hs4.kp HNE3.out)
  have z0 := (HIB3.out.keeps hs4.kp HNE.out).at_ 0 _ rfl
  have z2 := HFB4.out.at_ 2 _ rfl
  have HPU := Lib.hid (put_any ki k0 k1 hs4.lk)
  clear hs4 x0 x1 x2 y0
  by_cases h13 : op = 13
  · by_cases hk : ki = 0
    · have HE : Hid (callS E.p (op, (q : Int)) s = t) := Lib.hid (by rw [HG2.out, if_neg (fun g => g.2 hk)])
      clear HG2
      subst h13 hk
      go_wp2_with fail
      go_end0
      exact ⟨rfl, by rw [HE.out]; exact HS3.out.trans HS4.out⟩
    · have HE : Hid (callS E.p (op, (q : Int)) s = t.put ki) := Lib.hid (by rw [HG2.out, if_pos ⟨h13, hk⟩])
      clear HG2
      subst h13
      go_wp2_with fail
      refine HPU.out.mono ?_
      rintro e w5 ⟨rfl, hs5⟩
      have HS5 := Lib.hid hs5
      clear hs5
      go_wp2_with fail
      go_end0
      exact ⟨rfl, by rw [HE.out]; exact (HS3.out.trans HS4.out).trans HS5.out⟩
  · have HE : Hid (callS E.p (op, (q : Int)) s = t) := Lib.hid (by rw [HG2.out, if_neg (fun g => h13 g.1)])
    clear HG2
    go_wp2_with fail
    go_end0
    exact ⟨rfl, by rw [HE.out]; exact HS3.out.trans HS4.out⟩

set_option maxRecDepth 100000 in
set_option maxHeartbeats 6400000 in
theorem change_any (i : In) (h0 : i.1 ≠ 1 → 0 ≤ i.2) (h : LkAt E W s) : Calls Tryd.prog 87 #[.pointer (some ⟨E.lb, 0, none⟩), insV i] W fun x W' => x = .returned (.tuple #[]) ∧ LkSays E W W' (changeS E.p E.f i s) := by
  obtain ⟨op, n⟩ := i
  unfold insV
  dsimp only at h0 ⊢
  have HK1 : Hid (Keeps (fun _ => False) W (W.alloc (.cells #[.int .i64 op, .int .i64 n] 37))) := Lib.hid ((Keeps.refl _ W).alloc _)
  have hx := BlkO.new W #[.int .i64 op, .int .i64 n] 37
  have HL1 := Lib.hid (h.fresh HK1.out)
  obtain ⟨ib, hib⟩ : ∃ ib, ib = W.heap.size := ⟨_, rfl⟩
  rw [← hib] at hx
  have c1 := hx.at_ 1 _ rfl
  have c0 := hx.at_ 0 _ rfl
  obtain ⟨r, hr⟩ : ∃ r, r = changeS E.p E.f (op, n) s := ⟨_, rfl⟩
  rw [← hr]
  have hk : op = 1 ∨ op = 2 ∨ op = 3 ∨ op = 4 ∨ op = 5 ∨ op = 6 ∨ op = 7 ∨ op = 8 ∨ op = 9 ∨ op = 10 ∨ op = 13 ∨ op = 15 ∨ (¬ op = 1 ∧ ¬ op = 2 ∧ ¬ op = 3 ∧ ¬ op = 4 ∧ ¬ op = 5 ∧ ¬ op = 6 ∧ ¬ op = 7 ∧ ¬ op = 8 ∧ ¬ op = 9 ∧ ¬ op = 10 ∧ ¬ op = 13 ∧ ¬ op = 15) := by omega
  go_enter Tryd.func87, Tryd.ntmps87
  go_upto_region 1 with fail
  rw [← hib]
  generalize W.alloc (.cells #[.int .i64 op, .int .i64 n] 37) = W1 at *
  clear hx hib h
  rcases hk with rfl | rfl | rfl | rfl | rfl | rfl | rfl | rfl | rfl | rfl | rfl | rfl | ⟨h1, h2, h3, h4, h5, h6, h7, h8, h9, h10, h13, h15⟩
  · have HE : Hid (r = s.put 1) := Lib.hid (by rw [hr]; rfl)
    have HP := Lib.hid (put_any 1 (by decide) (by decide) HL1.out)
    skip
    clear hr h0
    go_wp2_with fail
    refine HP.out.mono ?_
    rintro e w2 ⟨rfl, hs2⟩
    have HS2 := Lib.hid hs2
    clear hs2
    go_wp2_with fail
    go_end0
    exact ⟨rfl, by rw [HE.out]; exact HS2.out.new HK1.out⟩
  · have HE : Hid (r = s.put 2) := Lib.hid (by rw [hr]; rfl)
    have HP := Lib.hid (put_any 2 (by decide) (by decide) HL1.out)
    skip
    clear hr h0
    go_wp2_with fail
    refine HP.out.mono ?_
    rintro e w2 ⟨rfl, hs2⟩
    have HS2 := Lib.hid hs2
    clear hs2
    go_wp2_with fail
    go_end0
    exact ⟨rfl, by rw [HE.out]; exact HS2.out.new HK1.out⟩
  · have HE : Hid (r = s.put 3) := Lib.hid (by rw [hr]; rfl)
    have HP := Lib.hid (put_any 3 (by decide) (by decide) HL1.out)
    skip
    clear hr h0
    go_wp2_with fail
    refine HP.out.mono ?_
    rintro e w2 ⟨rfl, hs2⟩
    have HS2 := Lib.hid hs2
    clear hs2
    go_wp2_with fail
    go_end0
    exact ⟨rfl, by rw [HE.out]; exact HS2.out.new HK1.out⟩
  · have HE : Hid (r = localS E.f (4, n) s) := Lib.hid (by rw [hr]; rfl)
    have HP := Lib.hid (local_any (4, n) (h0 (by decide)) HL1.out)
    unfold insV at HP; dsimp only at HP
    clear hr h0
    go_wp2_with fail
    refine HP.out.mono ?_
    rintro e w2 ⟨rfl, hs2⟩
    have HS2 := Lib.hid hs2
    clear hs2
    go_wp2_with fail
    go_end0
    exact ⟨rfl, by rw [HE.out]; exact HS2.out.new HK1.out⟩
  · have HE : Hid (r = localS E.f (5, n) s) := Lib.hid (by rw [hr]; rfl)
    have HP := Lib.hid (local_any (5, n) (h0 (by decide)) HL1.out)
    unfold insV at HP; dsimp only at HP
    clear hr h0
    go_wp2_with fail
    refine HP.out.mono ?_
    rintro e w2 ⟨rfl, hs2⟩
    have HS2 := Lib.hid hs2
    clear hs2
    go_wp2_with fail
    go_end0
    exact ⟨rfl, by rw [HE.out]; exact HS2.out.new HK1.out⟩
  · have HE : Hid (r = globalS E.p (6, n) s) := Lib.hid (by rw [hr]; rfl)
    have HP := Lib.hid (global_any (6, n) HL1.out)
    unfold insV at HP; dsimp only at HP
    clear hr h0
    go_wp2_with fail
    refine HP.out.mono ?_
    rintro e w2 ⟨rfl, hs2⟩
    have HS2 := Lib.hid hs2
    clear hs2
    go_wp2_with fail
    go_end0
    exact ⟨rfl, by rw [HE.out]; exact HS2.out.new HK1.out⟩
  · have HE : Hid (r = globalS E.p (7, n) s) := Lib.hid (by rw [hr]; rfl)
    have HP := Lib.hid (global_any (7, n) HL1.out)
    unfold insV at HP; dsimp only at HP
    clear hr h0
    go_wp2_with fail
    refine HP.out.mono ?_
    rintro e w2 ⟨rfl, hs2⟩
    have HS2 := Lib.hid hs2
    clear hs2
    go_wp2_with fail
    go_end0
    exact ⟨rfl, by rw [HE.out]; exact HS2.out.new HK1.out⟩
  · have HE : Hid (r = reckonS (8, n) s) := Lib.hid (by rw [hr]; rfl)
    have HP := Lib.hid (reckon_any (8, n) HL1.out)
    unfold insV at HP; dsimp only at HP
    clear hr h0
    go_wp2_with fail
    refine HP.out.mono ?_
    rintro e w2 ⟨rfl, hs2⟩
    have HS2 := Lib.hid hs2
    clear hs2
    go_wp2_with fail
    go_end0
    exact ⟨rfl, by rw [HE.out]; exact HS2.out.new HK1.out⟩
  · have HE : Hid (r = reckonS (9, n) s) := Lib.hid (by rw [hr]; rfl)
    have HP := Lib.hid (reckon_any (9, n) HL1.out)
    unfold insV at HP; dsimp only at HP
    clear hr h0
    go_wp2_with fail
    refine HP.out.mono ?_
    rintro e w2 ⟨rfl, hs2⟩
    have HS2 := Lib.hid hs2
    clear hs2
    go_wp2_with fail
    go_end0
    exact ⟨rfl, by rw [HE.out]; exact HS2.out.new HK1.out⟩
  · have HE : Hid (r = s.take?.2) := Lib.hid (by rw [hr]; rfl)
    have HP := Lib.hid (takeAny_any HL1.out)
    skip
    clear hr h0
    go_wp2_with fail
    refine HP.out.mono ?_
    rintro e w2 ⟨rfl, hs2⟩
    have HS2 := Lib.hid hs2
    clear hs2
    go_wp2_with fail
    go_end0
    exact ⟨rfl, by rw [HE.out]; exact HS2.out.new HK1.out⟩
  · have HE : Hid (r = callS E.p (13, n) s) := Lib.hid (by rw [hr]; rfl)
    have HP := Lib.hid (call_any (13, n) (h0 (by decide)) HL1.out)
    unfold insV at HP; dsimp only at HP
    clear hr h0
    go_wp2_with fail
    refine HP.out.mono ?_
    rintro e w2 ⟨rfl, hs2⟩
    have HS2 := Lib.hid hs2
    clear hs2
    go_wp2_with fail
    go_end0
    exact ⟨rfl, by rw [HE.out]; exact HS2.out.new HK1.out⟩
  · have HE : Hid (r = callS E.p (15, n) s) := Lib.hid (by rw [hr]; rfl)
    have HP := Lib.hid (call_any (15, n) (h0 (by decide)) HL1.out)
    unfold insV at HP; dsimp only at HP
    clear hr h0
    go_wp2_with fail
    refine HP.out.mono ?_
    rintro e w2 ⟨rfl, hs2⟩
    have HS2 := Lib.hid hs2
    clear hs2
    go_wp2_with fail
    go_end0
    exact ⟨rfl, by rw [HE.out]; exact HS2.out.new HK1.out⟩
  · have HE : Hid (r = askS op s) := Lib.hid (by rw [hr]; unfold changeS; dsimp only; rw [if_neg h1, if_neg h2, if_neg h3, if_neg (by omega), if_neg (by omega), if_neg (by omega), if_neg h10, if_neg (by omega)])
    have HP := Lib.hid (ask_any op HL1.out)
    clear hr h0
    go_wp2_with fail
    refine HP.out.mono ?_
    rintro e w2 ⟨rfl, hs2⟩
    have HS2 := Lib.hid hs2
    clear hs2
    go_wp2_with fail
    go_end0
    exact ⟨rfl, by rw [HE.out]; exact HS2.out.new HK1.out⟩
end Go.Proofs.YtlfcfaceeloedaaDoor
