/-
  The walks of the looker's lead and choose.
-/
import Derived.Test.YtlfcfaceeloedaaDoorVerW7
namespace Go.Proofs.YtlfcfaceeloedaaDoor
open Go.RowKit Go.Shelf Cd Ve
variable {E : LE} {W : World} {s : VS}

theorem lead_snoc (f : FnV) (rest : Wt) (cs : List In) (s : VS) (k : Nat) (h : k < cs.length) : leadOne f rest ((cs.take k).foldl (leadOne f rest) s) (cs.getD k (0, 0)) = (cs.take (k + 1)).foldl (leadOne f rest) s := by
  rw [List.take_succ_eq_append_getElem h, List.foldl_append, List.getD_eq_getElem?_getD, List.getElem?_eq_getElem h]
  rfl
set_option maxRecDepth 100000 in
set_option maxHeartbeats 6400000 in
theorem lead_any (v : Value) (cs : List In) (hcs : s.wrong = 0 → ∀ c ∈ cs, 0 ≤ c.2) (h : LkAt E W s) (hv : InsAt W v cs) (hO : 0 < cs.length → Off v (LkS E)) : Calls Tryd.prog 100 #[.pointer (some ⟨E.lb, 0, none⟩), v] W fun x W' => x = .returned (.tuple #[]) ∧ LkSays E W W' (leadS E.f cs s) := by
  have HH := Lib.hid h
  have HV := Lib.hid hv
  have HCS := Lib.hid hcs
  have HO := Lib.hid hO
  have c8 := h.c (j := 8) rfl
  obtain ⟨rest, hrest⟩ : ∃ rest, rest = s.waits := ⟨_, rfl⟩
  have HR : Hid (rest = s.waits ∧ KOk rest) := Lib.hid ⟨hrest, by rw [hrest]; exact h.ok.kok⟩
  rw [← hrest] at c8
  obtain ⟨T, hT⟩ : ∃ T, T = tx rest := ⟨_, rfl⟩
  rw [← hT] at c8
  have HT := Lib.hid hT
  obtain ⟨ao, m, cap, rfl, hm, hmc, hcm, -⟩ := hv
  unfold maxLen at hcm
  have HM := Lib.hid hm
  clear h hcs hO hrest hT hm
  go_enter Tryd.func100, Tryd.ntmps100
  go_wp2_with fail
  go_loopw [13] (fun iv wr => ∃ k : Nat, k ≤ m ∧ iv = .int .i64 k ∧ LkSays E W wr ((cs.take k).foldl (leadOne E.f rest) s)) (fun iv _ => m - (intOf iv).toNat)
  case atStart => exact ⟨0, Nat.zero_le _, rfl, HH.out, Keeps.refl _ _⟩
  case round =>
    obtain ⟨k, hk, rfl, hs⟩ := hrel
    rename World => wr
    by_cases hkm : k < m
    · have hkc : k < cs.length := by rw [← HM.out]; exact hkm
      obtain ⟨b, o, c', e9, hc1, hc2⟩ := InsAt.get (HV.out.keeps hs.kp (HO.out (by omega))) hkc
      rw [Value.slice.injEq] at e9
      obtain ⟨rfl, -, rfl⟩ := e9
      obtain ⟨⟨op, n⟩, hkd⟩ : ∃ kd, kd = cs.getD k (0, 0) := ⟨_, rfl⟩
      rw [← hkd] at hc1 hc2
      dsimp only at hc1 hc2
      obtain ⟨t, ht⟩ : ∃ t, t = (cs.take k).foldl (leadOne E.f rest) s := ⟨_, rfl⟩
      rw [← ht] at hs
      have HT1 : Hid ((cs.take (k + 1)).foldl (leadOne E.f rest) s = VS.come E.f (if op = 25 then VS.put { t with waits := rest } 1 else { t with waits := rest }) n) := Lib.hid (by rw [← lead_snoc _ _ _ _ _ hkc, ← hkd, ← ht]; rfl)
      have HN0 : Hid (t.wrong = 0 → 0 ≤ n) := Lib.hid fun h0 => by
        have g := grow_lead E.f rest HR.out.2 (cs.take k) s
        rw [← ht] at g
        have := HCS.out (g.zero h0) (op, n) (by rw [hkd, List.getD_eq_getElem?_getD, List.getElem?_eq_getElem hkc]; exact List.getElem_mem hkc)
        exact this
      have hki : (k : Int) < (m : Int) := by omega
      have hki2 : (0 : Int) ≤ (k : Int) := by omega
      obtain ⟨W1, hW1⟩ : ∃ W1, W1 = wr.alloc (.cells #[.int .i64 op, .int .i64 n] 37) := ⟨_, rfl⟩
      have hx := BlkO.new wr #[.int .i64 op, .int .i64 n] 37
      have hk1 : Keeps (fun _ => False) wr W1 := by rw [hW1]; exact (Keeps.refl _ wr).alloc _
      rw [← hW1] at hx
      have HS1 : Hid (LkSays E W W1 t) := Lib.hid ⟨hs.lk.fresh hk1, hs.kp.trans (hk1.mono fun _ _ e => e.elim)⟩
      have HNE : Hid (¬ LkS E wr.heap.size) := Lib.hid fun e => by have := hs.lk.lt _ e; omega
      clear hkd ht hkc hs hk1 c8
      have d8 := HS1.out.lk.c (j := 8) rfl
      have z8 := HS1.out.lk.blk.free 8
      obtain ⟨g1, g2⟩ := HS1.out.lk.waits rest HR.out.2
      rw [← HT.out] at g1 g2
      have HS2 : Hid (LkSays E W (W1.setCell ⟨E.lb, 8, none⟩ (.string T)) { t with waits := rest }) := Lib.hid (HS1.out.trans ⟨g1, g2⟩)
      have HI2 := Lib.hid (hx.keeps g2 HNE.out)
      clear g1 g2 hx
      rw [hW1] at d8 z8 HS2 HI2
      have i0 := HI2.out.at_ 0 _ rfl
      have i1 := HI2.out.at_ 1 _ rfl
      clear hW1
      by_cases h25 : op = 25
      · subst h25
        have HP := Lib.hid (put_any 1 (by decide) (by decide) HS2.out.lk)
        rw [if_pos rfl] at HT1
        go_wp2_with fail
        refine HP.out.mono ?_
        rintro e w3 ⟨rfl, hs3⟩
        have HS3 := Lib.hid hs3
        have j1 := (HI2.out.keeps hs3.kp HNE.out).at_ 1 _ rfl
        have HCM := Lib.hid (come_any n (fun h0 => HN0.out ((grow_put ({ t with waits := rest } : VS) (by decide)).zero h0)) hs3.lk)
        rw [← HT1.out] at HCM
        clear hs3 i0 i1
        go_wp2_with fail
        refine HCM.out.mono ?_
        rintro e w4 ⟨rfl, hs4⟩
        have HS4 := Lib.hid hs4
        clear hs4
        go_wp2_with fail
        go_roundw
        case rel => exact ⟨k + 1, by omega, by go_num, (HS2.out.trans HS3.out).trans HS4.out⟩
        case measure => simp [intOf]; omega
      · rw [if_neg h25] at HT1
        have HCM := Lib.hid (come_any (s := { t with waits := rest }) n (fun h0 => HN0.out h0) HS2.out.lk)
        rw [← HT1.out] at HCM
        go_wp2_with fail
        refine HCM.out.mono ?_
        rintro e w4 ⟨rfl, hs4⟩
        have HS4 := Lib.hid hs4
        clear hs4
        go_wp2_with fail
        go_roundw
        case rel => exact ⟨k + 1, by omega, by go_num, HS2.out.trans HS4.out⟩
        case measure => simp [intOf]; omega
    · obtain rfl : k = m := by omega
      have HE : Hid (leadS E.f cs s = (cs.take k).foldl (leadOne E.f rest) s) := Lib.hid (by unfold leadS; rw [HR.out.1, List.take_of_length_le (by rw [← HM.out]; exact Nat.le_refl _)])
      have HS := Lib.hid hs
      clear hs
      go_wp2_with fail
      go_end0
      exact ⟨rfl, by rw [HE.out]; exact HS.out⟩

theorem cases_ops (s : VS) : ∀ cs : List In, (cs.foldr caseS (false, s)).2.wrong = 0 → ∀ c ∈ cs, 24 ≤ c.1 ∧ c.1 ≤ 26
  | [], _, c, hc => by cases hc
  | d :: cs, h, c, hc => by
    have hd : 24 ≤ d.1 ∧ d.1 ≤ 26 := by
      rw [List.foldr_cons] at h
      unfold caseS at h
      by_cases e1 : d.1 = 24
      · omega
      · rw [if_neg e1] at h
        by_cases e2 : d.1 = 25
        · omega
        · rw [if_neg e2] at h
          by_cases e3 : d.1 = 26
          · omega
          · rw [if_neg e3] at h
            exact absurd h (fail_ne _ (by decide))
    rcases List.mem_cons.1 hc with rfl | hc
    · exact hd
    · exact cases_ops s cs ((grow_case d _).zero h) c hc
theorem case_n {f : FnV} (hf : FnR f) {c : In} (hc : c ∈ f.code) (h : 24 ≤ c.1 ∧ c.1 ≤ 26) : 0 ≤ c.2 := by
  have := hf.ins c hc
  simp [mayB] at this
  have h2 : leastI c.1 = 0 := by unfold leastI; rw [if_neg (by omega), if_neg (by omega), if_neg (by omega)]
  omega
theorem mem_cases {f : FnV} {a : Nat} {n : Int} {c : In} (h : c ∈ casesOf f a n) : c ∈ f.code := List.mem_of_mem_drop (List.mem_of_mem_take h)
theorem InsAt.mid {w : World} {b o m cap : Nat} {l : List In} (h : InsAt w (.slice (some ⟨b, o, none⟩) m cap) l) (k n : Nat) (hk : k + n ≤ m) : InsAt w (.slice (some ⟨b, o + k * 2, none⟩) n (cap - k)) ((l.drop k).take n) := by
  obtain ⟨ao, m', cap', e, hm, hc, hmx, hx⟩ := h
  cases e
  refine ⟨_, n, _, rfl, by rw [List.length_take, List.length_drop]; omega, by omega, by omega, fun h0 => ?_⟩
  obtain ⟨b', o', e, h2, h3⟩ := hx (by omega)
  cases e
  refine ⟨b, o + k * 2, rfl, h2, fun i x hi => ?_⟩
  rw [List.getElem?_take, List.getElem?_drop] at hi
  split at hi
  · have := h3 (k + i) x hi
    rw [show o + k * 2 + i * 2 = o + (k + i) * 2 by omega]
    exact this
  · cases hi
/-- What stands behind an instruction, in memory. -/
structure Behind (E : LE) (a b o L C : Nat) : Prop where
  len : L = E.f.code.length - (a + 1)
  cap : L ≤ C
  big : C ≤ 2 ^ 63 - 1
  at_ : ∀ (V : World) (n : Nat), Below E.W0.heap.size E.W0 V → n ≤ L → InsAt V (.slice (some ⟨b, o, none⟩) n C) (casesOf E.f a (n : Int))
  off : ∀ n, Off (.slice (some ⟨b, o, none⟩) n C) (LkS E)
set_option maxRecDepth 100000 in
set_option maxHeartbeats 6400000 in
theorem choose_any (n : Int) (hn0 : 0 ≤ n) (hat : s.at_ < E.f.code.length) (h : LkAt E W s) : Calls Tryd.prog 86 #[.pointer (some ⟨E.lb, 0, none⟩), .int .i64 n] W fun x W' => x = .returned (.tuple #[]) ∧ LkSays E W W' (chooseS E.f n s) := by
  obtain ⟨n, rfl⟩ : ∃ k : Nat, n = (k : Int) := ⟨n.toNat, by omega⟩
  have HH := Lib.hid h
  have c7 := h.c (j := 7) rfl
  have c5 := h.c (j := 5) rfl
  obtain ⟨b, o, cap, hvc, -, -⟩ := InsAt.get h.code hat
  obtain ⟨m, hm⟩ : ∃ m, m = E.f.code.length := ⟨_, rfl⟩
  rw [← hm] at hvc hat
  rw [hvc] at c5
  obtain ⟨a, ha⟩ : ∃ a, a = s.at_ := ⟨_, rfl⟩
  rw [← ha] at c7 hat
  have hmc : m ≤ cap ∧ cap ≤ 2 ^ 63 - 1 := by
    obtain ⟨_, _, _, e, _, h1, h2, _⟩ := h.code
    rw [hvc] at e
    cases e
    exact ⟨h1, h2⟩
  obtain ⟨hmc1, hmc2⟩ := hmc
  have hw1 : IntKind.i64.wrap ((a : Int) + 1) = (a : Int) + 1 := by rw [IntKind.wrap_i64]; omega
  have HNUM : Hid (m = E.f.code.length ∧ a = s.at_ ∧ E.vc = .slice (some ⟨b, o, none⟩) m cap) := Lib.hid ⟨hm, ha, hvc⟩
  clear h hm ha hvc
  go_enter Tryd.func86, Tryd.ntmps86
  have HOB : Hid (∀ p n c, Off (.slice (some ⟨b, p, none⟩) n c) (LkS E)) := Lib.hid fun p n c k hk e => by
    obtain ⟨_, _, _, e1, h1, _, _, h2⟩ := HH.out.inn.code
    rw [HNUM.out.2.2] at e1
    cases e1
    obtain ⟨b', o', e2, h3, _⟩ := h2 (by omega)
    cases e2
    have hbk : b = k := by injection hk
    have h4 := HH.out.inn.lo
    have h5 := HH.out.inn.lo2
    rcases e with e | e <;> omega
  by_cases hcap : a + 1 = cap
  · have hB : Behind E a b o 0 0 := ⟨by have := HNUM.out.1; omega, Nat.le_refl _, by omega, fun V n _ hn => by
      obtain rfl : n = 0 := by omega
      exact ⟨_, 0, 0, rfl, by simp [casesOf], Nat.le_refl _, Nat.zero_le _, fun h => absurd h (Nat.lt_irrefl _)⟩, fun n => HOB.out _ _ _⟩
    subst hcap
    go_wp2_with fail
    go_region
    clear hmc1 hmc2 hat
    obtain ⟨L, hL0⟩ : ∃ L : Nat, L = 0 := ⟨_, rfl⟩
    obtain ⟨C, hC0⟩ : ∃ C : Nat, C = 0 := ⟨_, rfl⟩
    rw [show (Value.slice (some ⟨b, o, none⟩) 0 0) = Value.slice (some ⟨b, o, none⟩) L C by rw [hL0, hC0]]
    have hB : Behind E a b o L C := by rw [hL0, hC0]; exact hB
    clear hL0 hC0
    have HLL := Lib.hid hB.len
    have hLC := hB.cap
    have hCC := hB.big
    have HB := Lib.hid hB
    have HSD : Hid (LkSays E W W.drew s) := Lib.hid ⟨HH.out.drew, (Keeps.refl _ W).drew⟩
    have HC : Hid (chooseS E.f (n : Int) s = if (6 : Int) < (n : Int) then s.fail 4 else if (L : Int) < (n : Int) then s.fail 3 else leadS E.f (casesOf E.f a (n : Int)) (casesS (casesOf E.f a (n : Int)) s)) := Lib.hid (by unfold chooseS; rw [← HNUM.out.2.1, ← HLL.out])
    clear hB c5 c7 hw1
    by_cases h6 : 6 < n
    · have h6i : (6 : Int) < (n : Int) := by omega
      have HE : Hid (chooseS E.f (n : Int) s = s.fail 4) := Lib.hid (by rw [HC.out, if_pos h6i])
      clear h6 HC
      have HF := Lib.hid (fail_any 4 HSD.out.lk)
      go_wp2_with fail
      refine HF.out.mono ?_
      rintro e w1 ⟨rfl, hs1⟩
      have HS1 := Lib.hid hs1
      clear hs1
      go_wp2_with fail
      go_end0
      exact ⟨rfl, by rw [HE.out]; exact HSD.out.trans HS1.out⟩
    have h6i : ¬ (6 : Int) < (n : Int) := by omega
    by_cases hL : L < n
    · have hLi : (L : Int) < (n : Int) := by omega
      have HE : Hid (chooseS E.f (n : Int) s = s.fail 3) := Lib.hid (by rw [HC.out, if_neg h6i, if_pos hLi])
      clear h6 hL HC
      have HF := Lib.hid (fail_any 3 HSD.out.lk)
      go_wp2_with fail
      refine HF.out.mono ?_
      rintro e w1 ⟨rfl, hs1⟩
      have HS1 := Lib.hid hs1
      clear hs1
      go_wp2_with fail
      go_end0
      exact ⟨rfl, by rw [HE.out]; exact HSD.out.trans HS1.out⟩
    have hLi : ¬ (L : Int) < (n : Int) := by omega
    have HE : Hid (chooseS E.f (n : Int) s = leadS E.f (casesOf E.f a (n : Int)) (casesS (casesOf E.f a (n : Int)) s)) := Lib.hid (by rw [HC.out, if_neg h6i, if_neg hLi])
    have hnL : n ≤ L := by omega
    have hnC : n ≤ C := by omega
    have hnLi : (n : Int) ≤ (C : Int) := by omega
    obtain ⟨cs, hcs⟩ : ∃ cs, cs = casesOf E.f a (n : Int) := ⟨_, rfl⟩
    rw [← hcs] at HE
    have HVA : Hid (∀ V, Below E.W0.heap.size E.W0 V → InsAt V (.slice (some ⟨b, o, none⟩) n C) cs) := Lib.hid fun V hV => by rw [hcs]; exact HB.out.at_ V n hV hnL
    have HMEM : Hid (∀ c ∈ cs, c ∈ E.f.code) := Lib.hid fun c hc => mem_cases (by rw [← hcs]; exact hc)
    have HTC := Lib.hid (takeCases_any _ cs HSD.out.lk (HVA.out _ HSD.out.lk.bel) (fun _ => HB.out.off n))
    clear h6 hL HC hcs
    go_wp2_with fail
    refine HTC.out.mono ?_
    rintro e w1 ⟨rfl, hs1⟩
    have HS1 := Lib.hid hs1
    have HLD := Lib.hid (lead_any _ cs (fun h0 c hc => case_n hs1.lk.inn.rightF (HMEM.out c hc) (cases_ops s cs h0 c hc)) hs1.lk (HVA.out _ hs1.lk.bel) (fun _ => HB.out.off n))
    clear hs1
    go_wp2_with fail
    refine HLD.out.mono ?_
    rintro e w2 ⟨rfl, hs2⟩
    have HS2 := Lib.hid hs2
    clear hs2
    go_wp2_with fail
    go_end0
    exact ⟨rfl, by rw [HE.out]; exact (HSD.out.trans HS1.out).trans HS2.out⟩
  · have hB : Behind E a b (o + (a + 1) * 2) (m - (a + 1)) (cap - (a + 1)) := ⟨by rw [← HNUM.out.1], by omega, by omega, fun V n hV hn => by
      have h1 := HH.out.inn.code.below hV
      rw [HNUM.out.2.2] at h1
      have h2 := h1.mid (a + 1) n (by omega)
      unfold casesOf
      exact h2, fun n => HOB.out _ _ _⟩
    go_wp2_with fail
    go_region
    generalize o + (a + 1) * 2 = o at *
    generalize m - (a + 1) = L at *
    generalize cap - (a + 1) = C at *
    clear hmc1 hmc2 hat hcap
    have HLL := Lib.hid hB.len
    have hLC := hB.cap
    have hCC := hB.big
    have HB := Lib.hid hB
    have HSD : Hid (LkSays E W W.drew s) := Lib.hid ⟨HH.out.drew, (Keeps.refl _ W).drew⟩
    have HC : Hid (chooseS E.f (n : Int) s = if (6 : Int) < (n : Int) then s.fail 4 else if (L : Int) < (n : Int) then s.fail 3 else leadS E.f (casesOf E.f a (n : Int)) (casesS (casesOf E.f a (n : Int)) s)) := Lib.hid (by unfold chooseS; rw [← HNUM.out.2.1, ← HLL.out])
    clear hB c5 c7 hw1
    by_cases h6 : 6 < n
    · have h6i : (6 : Int) < (n : Int) := by omega
      have HE : Hid (chooseS E.f (n : Int) s = s.fail 4) := Lib.hid (by rw [HC.out, if_pos h6i])
      clear h6 HC
      have HF := Lib.hid (fail_any 4 HSD.out.lk)
      go_wp2_with fail
      refine HF.out.mono ?_
      rintro e w1 ⟨rfl, hs1⟩
      have HS1 := Lib.hid hs1
      clear hs1
      go_wp2_with fail
      go_end0
      exact ⟨rfl, by rw [HE.out]; exact HSD.out.trans HS1.out⟩
    have h6i : ¬ (6 : Int) < (n : Int) := by omega
    by_cases hL : L < n
    · have hLi : (L : Int) < (n : Int) := by omega
      have HE : Hid (chooseS E.f (n : Int) s = s.fail 3) := Lib.hid (by rw [HC.out, if_neg h6i, if_pos hLi])
      clear h6 hL HC
      have HF := Lib.hid (fail_any 3 HSD.out.lk)
      go_wp2_with fail
      refine HF.out.mono ?_
      rintro e w1 ⟨rfl, hs1⟩
      have HS1 := Lib.hid hs1
      clear hs1
      go_wp2_with fail
      go_end0
      exact ⟨rfl, by rw [HE.out]; exact HSD.out.trans HS1.out⟩
    have hLi : ¬ (L : Int) < (n : Int) := by omega
    have HE : Hid (chooseS E.f (n : Int) s = leadS E.f (casesOf E.f a (n : Int)) (casesS (casesOf E.f a (n : Int)) s)) := Lib.hid (by rw [HC.out, if_neg h6i, if_neg hLi])
    have hnL : n ≤ L := by omega
    have hnC : n ≤ C := by omega
    have hnLi : (n : Int) ≤ (C : Int) := by omega
    obtain ⟨cs, hcs⟩ : ∃ cs, cs = casesOf E.f a (n : Int) := ⟨_, rfl⟩
    rw [← hcs] at HE
    have HVA : Hid (∀ V, Below E.W0.heap.size E.W0 V → InsAt V (.slice (some ⟨b, o, none⟩) n C) cs) := Lib.hid fun V hV => by rw [hcs]; exact HB.out.at_ V n hV hnL
    have HMEM : Hid (∀ c ∈ cs, c ∈ E.f.code) := Lib.hid fun c hc => mem_cases (by rw [← hcs]; exact hc)
    have HTC := Lib.hid (takeCases_any _ cs HSD.out.lk (HVA.out _ HSD.out.lk.bel) (fun _ => HB.out.off n))
    clear h6 hL HC hcs
    go_wp2_with fail
    refine HTC.out.mono ?_
    rintro e w1 ⟨rfl, hs1⟩
    have HS1 := Lib.hid hs1
    have HLD := Lib.hid (lead_any _ cs (fun h0 c hc => case_n hs1.lk.inn.rightF (HMEM.out c hc) (cases_ops s cs h0 c hc)) hs1.lk (HVA.out _ hs1.lk.bel) (fun _ => HB.out.off n))
    clear hs1
    go_wp2_with fail
    refine HLD.out.mono ?_
    rintro e w2 ⟨rfl, hs2⟩
    have HS2 := Lib.hid hs2
    clear hs2
    go_wp2_with fail
    go_end0
    exact ⟨rfl, by rw [HE.out]; exact (HSD.out.trans HS1.out).trans HS2.out⟩
end Go.Proofs.YtlfcfaceeloedaaDoor
