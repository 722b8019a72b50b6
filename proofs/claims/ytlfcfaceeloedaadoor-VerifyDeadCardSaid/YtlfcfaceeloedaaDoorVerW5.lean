/-
  The walks of the looker's come and comeNext.
-/
import Derived.Test.YtlfcfaceeloedaaDoorVerW4
namespace Go.Proofs.YtlfcfaceeloedaaDoor
open Go.RowKit Go.Shelf Cd Ve
variable {E : LE} {W : World} {s : VS}

/-- Two stands, each in a block of its own. -/
def TwoS (W wx : World) (v4 v5 a b c d : Value) : Prop := ∃ b4 b5, v4 = .pointer (some ⟨b4, 0, none⟩) ∧ v5 = .pointer (some ⟨b5, 0, none⟩) ∧ BlkO wx b4 [a, b] ∧ BlkO wx b5 [c, d] ∧ W.heap.size ≤ b4 ∧ W.heap.size ≤ b5 ∧ Below W.heap.size W wx
theorem twoS_new (W : World) (a b c d : Value) (t : TypeId) : TwoS W ((W.alloc (.cells #[a, b] t)).alloc (.cells #[c, d] t)).drew (.pointer (some ⟨W.heap.size, 0, none⟩)) (.pointer (some ⟨W.heap.size + 1, 0, none⟩)) a b c d := by
  have h1 := (BlkO.new W #[a, b] t).keeps (((Keeps.refl (fun _ : Nat => False) _).alloc (.cells #[c, d] t)).drew) id
  have h2 := (BlkO.new (W.alloc (.cells #[a, b] t)) #[c, d] t).keeps ((Keeps.refl (fun _ : Nat => False) _).drew) id
  rw [show (W.alloc (.cells #[a, b] t)).heap.size = W.heap.size + 1 by simp] at h2
  exact ⟨_, _, rfl, rfl, h1, h2, Nat.le_refl _, by omega, (((Below.refl W.heap.size W).alloc (Nat.le_refl _) _).alloc (by simp) _).drew⟩
theorem TwoS.swap {W wx : World} {v4 v5 a b c d : Value} (h : TwoS W wx v4 v5 a b c d) : TwoS W wx v5 v4 c d a b := by
  obtain ⟨b4, b5, h1, h2, h3, h4, h5, h6, h7⟩ := h
  exact ⟨b5, b4, h2, h1, h4, h3, h6, h5, h7⟩
theorem LkAt.drew (h : LkAt E W s) : LkAt E W.drew s := h.fresh (Keeps.refl _ W).drew
theorem InsAt.get {w : World} {v : Value} {l : List In} (h : InsAt w v l) {k : Nat} (hk : k < l.length) : ∃ b o c, v = .slice (some ⟨b, o, none⟩) l.length c ∧ w.cell? ⟨b, o + k * 2, none⟩ = some (.int .i64 (l.getD k (0, 0)).1) ∧ w.cell? ⟨b, o + k * 2 + 1, none⟩ = some (.int .i64 (l.getD k (0, 0)).2) := by
  obtain ⟨ao, n, cap, hv, hn, hc, hm, hx⟩ := h
  obtain ⟨b, o, h1, _, h3⟩ := hx (by omega)
  have := h3 k _ (List.getElem?_eq_getElem hk)
  rw [List.getD_eq_getElem?_getD, List.getElem?_eq_getElem hk]
  exact ⟨b, o, cap, by rw [hv, h1, hn], this.1, this.2⟩

set_option maxRecDepth 100000 in
set_option maxHeartbeats 6400000 in
theorem come_any (n : Int) (h0 : s.wrong = 0 → 0 ≤ n) (h : LkAt E W s) : Calls Tryd.prog 82 #[.pointer (some ⟨E.lb, 0, none⟩), .int .i64 n] W fun x W' => x = .returned (.tuple #[]) ∧ LkSays E W W' (VS.come E.f s n) := by
  have HH := Lib.hid h
  have c9 := h.c (j := 9) rfl
  by_cases hw : s.wrong = 0
  · have h0' := h0 hw
    obtain ⟨ao, m, cap, hvc, hm, hmc, hcm, -⟩ := h.code
    obtain ⟨vc, hg⟩ : ∃ vc, vc = E.vc := ⟨_, rfl⟩
    have c5 := h.c (j := 5) rfl
    rw [← hg] at c5 hvc
    subst hvc
    unfold maxLen at hcm
    have HGG := Lib.hid hg
    have HM := Lib.hid hm
    have HAS := Lib.hid (has_any n m h)
    have HC : Hid (VS.come E.f s n = if (m : Int) ≤ n then s.fail 2 else if caseB (E.f.code.getD n.toNat (0, 0)).1 then s.fail 6 else match s.ahead.getD n.toNat none with
      | some u => if u = s.waits then { s with ahead := s.ahead.set n.toNat (some s.waits) } else s.fail 13
      | none => if n ≤ (s.at_ : Int) then s.fail 13 else { s with ahead := s.ahead.set n.toNat (some s.waits) }) := Lib.hid (by unfold VS.come; rw [if_neg (fun g => g hw), hm]; rfl)
    rw [hw] at c9
    clear h h0 hg hm hw
    go_enter Tryd.func82, Tryd.ntmps82
    go_wp2_with fail
    refine HAS.out.mono ?_
    rintro e w1 ⟨rfl, hs1⟩
    clear c5 c9 HAS
    have HS1 := Lib.hid hs1
    clear hs1
    by_cases hmn : (m : Int) ≤ n
    · have hmn2 : ¬ n < (m : Int) := by omega
      have HE : Hid (VS.come E.f s n = s.fail 2) := Lib.hid (by rw [HC.out, if_pos hmn])
      have HE2 : Hid (hasS n m s = s.fail 2) := Lib.hid (if_pos hmn)
      rw [show (decide (n < (m : Int))) = false by simp [hmn2]]
      clear hmn hmn2
      go_wp2_with fail
      refine bodyPost_ret (results_none rfl _ _ _) rfl ?_
      exact ⟨rfl, by rw [HE.out, ← HE2.out]; exact HS1.out⟩
    have hmn2 : n < (m : Int) := by omega
    have HE2 : Hid (hasS n m s = s) := Lib.hid (if_neg hmn)
    rw [HE2.out] at HS1
    rw [show (decide (n < (m : Int))) = true by simp [hmn2]]
    obtain ⟨q, rfl⟩ : ∃ q : Nat, n = (q : Int) := ⟨n.toNat, by omega⟩
    have hqm : q < m := by omega
    have HC2 : Hid (VS.come E.f s (q : Int) = if caseB (E.f.code.getD q (0, 0)).1 then s.fail 6 else match s.ahead.getD q none with
      | some u => if u = s.waits then { s with ahead := s.ahead.set q (some s.waits) } else s.fail 13
      | none => if (q : Int) ≤ (s.at_ : Int) then s.fail 13 else { s with ahead := s.ahead.set q (some s.waits) }) := Lib.hid (by rw [HC.out, if_neg hmn]; rfl)
    clear HC hmn
    have hlen : s.ahead.length = m := by rw [HS1.out.lk.ok.len, HM.out]
    have hlt : q < s.ahead.length := by omega
    obtain ⟨d, hd⟩ : ∃ d, d = s.ahead.getD q none := ⟨_, rfl⟩
    have hdq : s.ahead[q]? = some d := by rw [hd, List.getD_eq_getElem?_getD, List.getElem?_eq_getElem hlt]; rfl
    rw [← hd] at HC2
    obtain ⟨hg1, hg2⟩ := sdsC_get s.ahead q d hdq
    have a0 := HS1.out.lk.row.at_ _ _ hg1
    have a1 := HS1.out.lk.row.at_ _ _ hg2
    have c6 := HS1.out.lk.c (j := 6) rfl
    have c8 := HS1.out.lk.c (j := 8) rfl
    have HLT := Lib.hid hlt
    have HDQ := Lib.hid hdq
    rw [hlen] at c6
    have HLEN := Lib.hid hlen
    have hqi : (0 : Int) ≤ (q : Int) ∧ (q : Int) < (m : Int) := by omega
    obtain ⟨T1, hT1⟩ : ∃ T1, T1 = tx (d.getD []) := ⟨_, rfl⟩
    obtain ⟨T2, hT2⟩ : ∃ T2, T2 = tx s.waits := ⟨_, rfl⟩
    obtain ⟨L, hL⟩ : ∃ L, L = d.isSome := ⟨_, rfl⟩
    rw [← hL] at a0
    rw [← hT1] at a1
    rw [← hT2] at c8
    have HTT : Hid (T1 = tx (d.getD []) ∧ T2 = tx s.waits ∧ L = d.isSome) := Lib.hid ⟨hT1, hT2, hL⟩
    clear hd hdq hg1 hg2 hlt hlen hT1 hT2 hL
    go_upto_region 1 with fail
    go_cut [4, 5] from 23 to 34 (fun v4 v5 wx => TwoS w1 wx v4 v5 (.bool L) (.string T1) (.bool true) (.string T2))
    case first =>
      have hlb1 := HS1.out.lk.blk.lt
      have hab1 := HS1.out.lk.row.lt
      go_region
      all_goals go_wp2_with fail
      all_goals go_meet
      · exact twoS_new _ _ _ _ _ _
      · exact (twoS_new _ _ _ _ _ _).swap
    case rest =>
      rename World => wx
      obtain ⟨b4, b5, rfl, rfl, hb4, hb5, hl4, hl5, hbw⟩ := hcut
      have HSX : Hid (LkSays E W wx s) := Lib.hid ⟨HS1.out.lk.below hbw, HS1.out.kp.trans (Keeps.of_new hbw)⟩
      have z0 := hb4.at_ 0 _ rfl
      have z1 := hb4.at_ 1 _ rfl
      have y0 := hb5.at_ 0 _ rfl
      have y1 := hb5.at_ 1 _ rfl
      have c5 := HSX.out.lk.c (j := 5) rfl
      have hcd := HSX.out.lk.code
      rw [← HGG.out] at c5 hcd
      obtain ⟨b, o, c, hsl, hcc, -⟩ := InsAt.get hcd (k := q) (by rw [← HM.out]; exact hqm)
      rw [Value.slice.injEq] at hsl
      obtain ⟨rfl, -, rfl⟩ := hsl
      obtain ⟨op, hop⟩ : ∃ op, op = (E.f.code.getD q (0, 0)).1 := ⟨_, rfl⟩
      rw [← hop] at hcc HC2
      have HIC := Lib.hid (isCase_any op wx)
      clear hop hcd a0 a1 c6 c8 hb4 hb5 hl4 hl5 hbw
      have c6 := HSX.out.lk.c (j := 6) rfl
      have c7 := HSX.out.lk.c (j := 7) rfl
      rw [HLEN.out] at c6
      cases hcb : caseB op with
      | true =>
        have HE : Hid (VS.come E.f s (q : Int) = s.fail 6) := Lib.hid (by rw [HC2.out, hcb]; rfl)
        rw [hcb] at HIC
        clear hcb HC2
        go_wp2_with fail
        refine HIC.out.mono ?_
        rintro e w2 ⟨rfl, hw2⟩
        subst hw2
        have HF := Lib.hid (fail_any 6 HSX.out.lk)
        go_wp2_with fail
        refine HF.out.mono ?_
        rintro e w3 ⟨rfl, hs3⟩
        have HS3 := Lib.hid hs3
        clear hs3
        go_wp2_with fail
        go_end0
        exact ⟨rfl, by rw [HE.out]; exact HSX.out.trans HS3.out⟩
      | false =>
        rw [hcb] at HIC HC2
        clear hcb
        go_wp2_with fail
        refine HIC.out.mono ?_
        rintro e w2 ⟨rfl, hw2⟩
        subst hw2
        have hqk : q * 2 = q * 2 := rfl
        obtain ⟨g1, g2⟩ := HSX.out.lk.ahead q s.waits HLT.out HSX.out.lk.ok.kok
        rw [← HTT.out.2.1] at g1 g2
        have HGS := Lib.hid (LkSays.mk g1 g2)
        have hrf0 := HSX.out.lk.row.free (q * 2)
        have hrf1 := HSX.out.lk.row.free (q * 2 + 1)
        have a0 := HSX.out.lk.row.at_ _ _ (sdsC_get s.ahead q d HDQ.out).1
        have a1 := HSX.out.lk.row.at_ _ _ (sdsC_get s.ahead q d HDQ.out).2
        clear g1 g2 hqk
        cases d with
        | some u =>
          obtain ⟨hT1, hT2, rfl⟩ := HTT.out
          by_cases hu : u = s.waits
          · have HE : Hid (VS.come E.f s (q : Int) = { s with ahead := s.ahead.set q (some s.waits) }) := Lib.hid (by rw [HC2.out]; simp [hu])
            have h12 : T1 = T2 := by rw [hT1, hT2, ← hu]; rfl
            clear hT1 hT2 hu
            subst h12
            simp only [Option.isSome_some] at z0
            go_wp2_with fail
            go_region
            go_wp2_with fail
            go_end0
            exact ⟨rfl, by rw [HE.out]; exact (HSX.out.trans HGS.out).drew⟩
          · have HE : Hid (VS.come E.f s (q : Int) = s.fail 13) := Lib.hid (by rw [HC2.out]; simp [hu])
            have h12 : ¬ T1.toList = T2.toList := fun e => hu (by rw [hT1, hT2, tx_list, tx_list] at e; exact e)
            clear hT1 hT2 hu
            simp only [Option.isSome_some] at z0
            have HF := Lib.hid (fail_any 13 HSX.out.lk)
            go_wp2_with fail
            refine HF.out.mono ?_
            rintro e w3 ⟨rfl, hs3⟩
            have HS3 := Lib.hid hs3
            clear hs3
            go_wp2_with fail
            go_end0
            exact ⟨rfl, by rw [HE.out]; exact HSX.out.trans HS3.out⟩
        | none =>
          obtain ⟨hT1, hT2, rfl⟩ := HTT.out
          clear hT1 hT2
          simp only [Option.isSome_none] at z0
          by_cases hqa : q ≤ s.at_
          · have hqai : (q : Int) ≤ (s.at_ : Int) := by omega
            have HE : Hid (VS.come E.f s (q : Int) = s.fail 13) := Lib.hid (by rw [HC2.out]; simp [hqai])
            clear hqa
            have HF := Lib.hid (fail_any 13 HSX.out.lk)
            go_wp2_with fail
            refine HF.out.mono ?_
            rintro e w3 ⟨rfl, hs3⟩
            have HS3 := Lib.hid hs3
            clear hs3
            go_wp2_with fail
            go_end0
            exact ⟨rfl, by rw [HE.out]; exact HSX.out.trans HS3.out⟩
          · have hqai : ¬ (q : Int) ≤ (s.at_ : Int) := by omega
            have HE : Hid (VS.come E.f s (q : Int) = { s with ahead := s.ahead.set q (some s.waits) }) := Lib.hid (by rw [HC2.out]; simp [hqai])
            clear hqa
            go_wp2_with fail
            go_region
            go_wp2_with fail
            go_end0
            exact ⟨rfl, by rw [HE.out]; exact (HSX.out.trans HGS.out).drew⟩
  · have hwi : ¬ (s.wrong : Int) = 0 := by omega
    have HE : Hid (VS.come E.f s n = s) := Lib.hid (by unfold VS.come; rw [if_pos hw])
    clear h h0 hw
    go_enter Tryd.func82, Tryd.ntmps82
    go_wp2_with fail
    refine bodyPost_ret (results_none rfl _ _ _) rfl ?_
    exact ⟨rfl, by rw [HE.out]; exact ⟨HH.out, Keeps.refl _ _⟩⟩

set_option maxRecDepth 100000 in
set_option maxHeartbeats 3200000 in
theorem next_any (h : LkAt E W s) : Calls Tryd.prog 84 #[.pointer (some ⟨E.lb, 0, none⟩)] W fun x W' => x = .returned (.tuple #[]) ∧ LkSays E W W' (VS.next E.f s) := by
  have c7 := h.c (j := 7) rfl
  have c5 := h.c (j := 5) rfl
  have hat := h.ok.at_
  obtain ⟨ao, m, cap, hvc, hm, hmc, hcm, -⟩ := h.code
  unfold maxLen at hcm
  obtain ⟨t, ht⟩ : ∃ t, t = if s.at_ + 1 = E.f.code.length then s.fail 7 else s := ⟨_, rfl⟩
  have HN : Hid (VS.next E.f s = VS.come E.f t ((s.at_ : Int) + 1)) := Lib.hid (by unfold VS.next; rw [ht])
  have HF := Lib.hid (fail_any 7 h.drew)
  have HH := Lib.hid h
  have hta : t.at_ = s.at_ := by
    rw [ht]
    split
    · exact (grow_fail s 7).at_
    · rfl
  have HTA := Lib.hid hta
  rw [hvc] at c5
  rw [← hm] at ht
  obtain ⟨a, ha⟩ : ∃ a, a = s.at_ := ⟨_, rfl⟩
  rw [← ha] at c7 hat HN ht HTA
  have hw1 : IntKind.i64.wrap ((a : Int) + 1) = (a : Int) + 1 := by rw [IntKind.wrap_i64]; omega
  clear h ha hvc hm hta
  go_enter Tryd.func84, Tryd.ntmps84
  by_cases hl : a + 1 = m
  · have hli : (a : Int) + 1 = (m : Int) := by omega
    rw [if_pos hl] at ht
    rw [← ht] at HF
    have HN' : Hid (VS.next E.f s = VS.come E.f t (m : Int)) := Lib.hid (by rw [HN.out, hli])
    clear hl ht HN
    go_wp2_with fail
    go_region
    go_wp2_with fail
    refine HF.out.mono ?_
    rintro e w1 ⟨rfl, hs1⟩
    have HS1 := Lib.hid hs1
    have HC := Lib.hid (come_any (m : Int) (fun _ => by omega) hs1.lk)
    have c7' := hs1.lk.c (j := 7) rfl
    rw [HTA.out] at c7'
    clear hs1
    go_wp2_with fail
    refine HC.out.mono ?_
    rintro e w2 ⟨rfl, hs2⟩
    have HS2 := Lib.hid hs2
    clear hs2
    go_wp2_with fail
    go_end0
    exact ⟨rfl, by rw [HN'.out]; exact (LkSays.trans ⟨HH.out.drew, (Keeps.refl _ _).drew⟩ HS1.out).trans HS2.out⟩
  · have hli : ¬ (a : Int) + 1 = (m : Int) := by omega
    rw [if_neg hl] at ht
    subst ht
    have HC := Lib.hid (come_any ((a : Int) + 1) (fun _ => by omega) HH.out.drew)
    clear hl
    go_wp2_with fail
    go_region
    go_wp2_with fail
    refine HC.out.mono ?_
    rintro e w2 ⟨rfl, hs2⟩
    have HS2 := Lib.hid hs2
    clear hs2
    go_wp2_with fail
    go_end0
    exact ⟨rfl, by rw [HN.out]; exact LkSays.trans ⟨HH.out.drew, (Keeps.refl _ _).drew⟩ HS2.out⟩
end Go.Proofs.YtlfcfaceeloedaaDoor
