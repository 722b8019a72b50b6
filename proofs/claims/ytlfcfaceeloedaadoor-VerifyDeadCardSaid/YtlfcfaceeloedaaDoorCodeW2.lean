/-
  The walks of package code's rightFn and Right.
-/
import Derived.Test.YtlfcfaceeloedaaDoorCodeW1
namespace Go.Proofs.YtlfcfaceeloedaaDoor
open Go.RowKit Cd

theorem errV_nz {n : Nat} (h : n ≠ 0) : errV n = .iface 26 (.int .i64 n) := by unfold errV; rw [if_neg h]
theorem all_kinds {l : List Int} (h : ∀ j, j < l.length → kindB (l.getD j 0) = true) : l.all kindB = true := by
  rw [List.all_eq_true]
  intro x hx
  obtain ⟨j, hj, rfl⟩ := List.mem_iff_getElem.1 hx
  have := h j hj
  rwa [List.getD_eq_getElem?_getD, List.getElem?_eq_getElem hj] at this
theorem not_kinds {l : List Int} {j : Nat} (hj : j < l.length) (h : kindB (l.getD j 0) = false) : l.all kindB = false := by
  rw [← Bool.not_eq_true, List.all_eq_true]
  intro ha
  have := ha (l.getD j 0) (by rw [List.getD_eq_getElem?_getD, List.getElem?_eq_getElem hj]; exact List.getElem_mem hj)
  rw [h] at this
  cases this
theorem all_ins {l : List In} (h : ∀ j, j < l.length → mayB (l.getD j (0, 0)) = true) : l.all mayB = true := by
  rw [List.all_eq_true]
  intro x hx
  obtain ⟨j, hj, rfl⟩ := List.mem_iff_getElem.1 hx
  have := h j hj
  rwa [List.getD_eq_getElem?_getD, List.getElem?_eq_getElem hj] at this
theorem not_ins {l : List In} {j : Nat} (hj : j < l.length) (h : mayB (l.getD j (0, 0)) = false) : l.all mayB = false := by
  rw [← Bool.not_eq_true, List.all_eq_true]
  intro ha
  have := ha (l.getD j (0, 0)) (by rw [List.getD_eq_getElem?_getD, List.getElem?_eq_getElem hj]; exact List.getElem_mem hj)
  rw [h] at this
  cases this

set_option maxRecDepth 100000 in
set_option maxHeartbeats 3200000 in
theorem rightFn_any (f : FnV) (vl vc : Value) (w : World) (hl : IntsAt w vl f.locals) (hc : InsAt w vc f.code) :
    Calls Tryd.prog 31 #[.agg #[.int .i64 f.params, vl, .int .i64 f.kind, vc]] w fun e w' => e = .returned (errV (fnE f)) ∧ Below w.heap.size w w' := by
  obtain ⟨pa, ls, ki, cs⟩ := f
  obtain ⟨ao, n, cap, rfl, hn, hnc, hcm, hx⟩ := hl
  obtain ⟨ao2, m, cap2, rfl, hm, hmc, hcm2, hx2⟩ := hc
  dsimp only at hn hm hx hx2 ⊢
  unfold maxLen at hcm hcm2
  have hb0 := (Below.refl w.heap.size w).alloc (Nat.le_refl _) (.cells #[.int .i64 pa, .slice ao n cap, .int .i64 ki, .slice ao2 m cap2] 47)
  have HB0 := Lib.hid hb0
  have HN := Lib.hid hn
  have HM := Lib.hid hm
  have HX : Hid (∀ W, Below w.heap.size w W → 0 < n → ∃ b o, ao = some ⟨b, o, none⟩ ∧ ∀ i, i < n → W.cell? ⟨b, o + i, none⟩ = some (.int .i64 (ls.getD i 0))) := Lib.hid fun W hW h0 => by
    obtain ⟨b, o, h1, h2, h3⟩ := hx h0
    exact ⟨b, o, h1, fun i hi => by rw [hW.cell (p := ⟨b, o + i, none⟩) h2]; exact h3 i hi⟩
  have HX2 : Hid (∀ W, Below w.heap.size w W → 0 < m → ∃ b o, ao2 = some ⟨b, o, none⟩ ∧ ∀ i, i < m → W.cell? ⟨b, o + i * 2, none⟩ = some (.int .i64 (cs.getD i (0, 0)).1) ∧ W.cell? ⟨b, o + i * 2 + 1, none⟩ = some (.int .i64 (cs.getD i (0, 0)).2)) := Lib.hid fun W hW h0 => by
    obtain ⟨b, o, h1, h2, h3⟩ := hx2 h0
    refine ⟨b, o, h1, fun i hi => ?_⟩
    have hi2 : i < cs.length := by omega
    have := h3 i _ (List.getElem?_eq_getElem hi2)
    rw [List.getD_eq_getElem?_getD, List.getElem?_eq_getElem hi2]
    rw [hW.cell (p := ⟨b, o + i * 2, none⟩) h2, hW.cell (p := ⟨b, o + i * 2 + 1, none⟩) h2]
    exact this
  have HF : Hid (∀ x, fnE ⟨pa, ls, ki, cs⟩ = x → errV (fnE ⟨pa, ls, ki, cs⟩) = errV x) := Lib.hid fun x h => by rw [h]
  have HE : Hid (fnE ⟨pa, ls, ki, cs⟩ = if 12 < n ∨ 9000 < m then 4 else if pa < 0 ∨ (n : Int) < pa ∨ ki < 0 ∨ 3 < ki then 2 else if ls.all kindB then (if cs.all mayB then 0 else 1) else 2) := Lib.hid (by
    rw [hn, hm]; rfl)
  clear hb0 hx hx2 hn hm
  go_enter Tryd.func31, Tryd.ntmps31
  by_cases h1 : 12 < n
  · have h1i : (12 : Int) < (n : Int) := by omega
    go_wp2_with fail
    go_ret
    exact ⟨by rw [HE.out, if_pos (Or.inl h1)]; rfl, HB0.out⟩
  have h1i : ¬ (12 : Int) < (n : Int) := by omega
  by_cases h2 : 9000 < m
  · have h2i : (9000 : Int) < (m : Int) := by omega
    go_wp2_with fail
    go_ret
    exact ⟨by rw [HE.out, if_pos (Or.inr h2)]; rfl, HB0.out⟩
  have h2i : ¬ (9000 : Int) < (m : Int) := by omega
  have H12 : Hid (¬ (12 < n ∨ 9000 < m)) := Lib.hid (by omega)
  by_cases h3 : pa < 0
  · go_wp2_with fail
    go_ret
    exact ⟨by rw [HE.out, if_neg H12.out, if_pos (Or.inl h3)]; rfl, HB0.out⟩
  by_cases h4 : (n : Int) < pa
  · go_wp2_with fail
    go_ret
    exact ⟨by rw [HE.out, if_neg H12.out, if_pos (Or.inr (Or.inl h4))]; rfl, HB0.out⟩
  by_cases h5 : ki < 0
  · go_wp2_with fail
    go_ret
    exact ⟨by rw [HE.out, if_neg H12.out, if_pos (Or.inr (Or.inr (Or.inl h5)))]; rfl, HB0.out⟩
  by_cases h6 : 3 < ki
  · go_wp2_with fail
    go_ret
    exact ⟨by rw [HE.out, if_neg H12.out, if_pos (Or.inr (Or.inr (Or.inr h6)))]; rfl, HB0.out⟩
  have HQ : Hid (fnE ⟨pa, ls, ki, cs⟩ = if ls.all kindB then (if cs.all mayB then 0 else 1) else 2) := Lib.hid (by
    rw [HE.out, if_neg H12.out, if_neg (by omega)])
  clear HE
  go_wp2_with fail
  clear h3 h4 h5 h6
  go_loopw [43] (fun iv wr => ∃ k : Nat, k ≤ n ∧ iv = .int .i64 k ∧ Hid (∀ j, j < k → kindB (ls.getD j 0) = true) ∧ wr = w.alloc (.cells #[.int .i64 pa, .slice ao n cap, .int .i64 ki, .slice ao2 m cap2] 47)) (fun iv _ => n - (intOf iv).toNat)
  case atStart => exact ⟨0, Nat.zero_le _, rfl, Lib.hid (fun j hj => absurd hj (Nat.not_lt_zero _)), rfl⟩
  case round =>
    obtain ⟨k, hk, rfl, hall, rfl⟩ := hrel
    by_cases hkn : k < n
    · obtain ⟨b, o, rfl, hcell⟩ := HX.out _ HB0.out (by omega)
      have hc1 := hcell k hkn
      have hi1 : (k : Int) < (n : Int) := by omega
      clear hcell HX
      obtain ⟨x, hxx⟩ : ∃ x, x = ls.getD k 0 := ⟨_, rfl⟩
      have HXX := Lib.hid hxx
      rw [← hxx] at hc1
      clear hxx
      by_cases g1 : x < 1
      · go_wp2_with fail
        go_ret
        exact ⟨by rw [HQ.out, not_kinds (j := k) (by rw [← HN.out]; exact hkn) (by rw [← HXX.out]; simp [kindB]; omega)]; rfl, HB0.out⟩
      · by_cases g2 : 3 < x
        · go_wp2_with fail
          go_ret
          exact ⟨by rw [HQ.out, not_kinds (j := k) (by rw [← HN.out]; exact hkn) (by rw [← HXX.out]; simp [kindB]; omega)]; rfl, HB0.out⟩
        · have HK : Hid (∀ j, j < k + 1 → kindB (ls.getD j 0) = true) := Lib.hid fun j hj => by
            by_cases e : j = k
            · subst e
              rw [← HXX.out]
              simp [kindB]
              omega
            · exact hall.out j (by omega)
          clear hall
          go_wp2_with fail
          go_roundw
          case rel => exact ⟨k + 1, by omega, by go_num, HK, trivial⟩
          case measure => simp [intOf]; omega
    · obtain rfl : k = n := by omega
      have HA : Hid (ls.all kindB = true) := Lib.hid (all_kinds fun j hj => hall.out j (by rw [HN.out]; exact hj))
      clear hall HX
      go_wp2_with fail
      go_loopw [58] (fun iv wr => ∃ q : Nat, q ≤ m ∧ iv = .int .i64 q ∧ Hid (∀ j, j < q → mayB (cs.getD j (0, 0)) = true) ∧ Below w.heap.size w wr) (fun iv _ => m - (intOf iv).toNat)
      case atStart => exact ⟨0, Nat.zero_le _, rfl, Lib.hid (fun j hj => absurd hj (Nat.not_lt_zero _)), HB0.out⟩
      case round =>
        obtain ⟨q, hq, rfl, hall, hbel⟩ := hrel
        rename World => wr
        by_cases hqm : q < m
        · obtain ⟨b, o, rfl, hcell⟩ := HX2.out _ hbel (by omega)
          obtain ⟨hc1, hc2⟩ := hcell q hqm
          have hi1 : (q : Int) < (m : Int) := by omega
          clear hcell HX2
          obtain ⟨x, y, hxx⟩ : ∃ x y, (x, y) = cs.getD q (0, 0) := ⟨_, _, rfl⟩
          have HXX := Lib.hid hxx
          rw [← hxx] at hc1 hc2
          clear hxx
          dsimp only at hc1 hc2
          have hba := hbel.alloc hbel.size (.cells #[.int .i64 x, .int .i64 y] 37)
          go_wp2_with fail
          refine (mayBe_ins x y _).mono ?_
          rintro e w2 ⟨rfl, hb2⟩
          have hb3 : Below w.heap.size w w2 := hba.trans (hb2.mono hba.size)
          cases hmb : mayB (x, y) with
          | false =>
            have HMB := Lib.hid hmb
            clear hmb
            go_wp2_with fail
            go_ret
            exact ⟨by rw [HQ.out, HA.out, not_ins (j := q) (by rw [← HM.out]; exact hqm) (by rw [← HXX.out]; exact HMB.out)]; rfl, hb3⟩
          | true =>
            have HK : Hid (∀ j, j < q + 1 → mayB (cs.getD j (0, 0)) = true) := Lib.hid fun j hj => by
              by_cases e : j = q
              · subst e
                rw [← HXX.out]
                exact hmb
              · exact hall.out j (by omega)
            clear hall hmb
            go_wp2_with fail
            go_roundw
            case rel => exact ⟨q + 1, by omega, by go_num, HK, hb3⟩
            case measure => simp [intOf]; omega
        · obtain rfl : q = m := by omega
          have HI : Hid (cs.all mayB = true) := Lib.hid (all_ins fun j hj => hall.out j (by rw [HM.out]; exact hj))
          clear hall HX2
          go_wp2_with fail
          go_ret
          exact ⟨by rw [HQ.out, HA.out, HI.out]; rfl, hbel⟩

theorem fnsE_at : ∀ {l : List FnV} {k : Nat} {f : FnV}, (∀ j g, j < k → l[j]? = some g → fnE g = 0) → l[k]? = some f → fnE f ≠ 0 → fnsE l = fnE f
  | [], _, _, _, h, _ => by cases h
  | g :: r, 0, f, _, h, h2 => by
    cases h
    unfold fnsE
    rw [if_neg h2]
  | g :: r, k + 1, f, h1, h, h2 => by
    unfold fnsE
    rw [if_pos (h1 0 g (Nat.succ_pos _) rfl)]
    exact fnsE_at (k := k) (fun j x hj hx => h1 (j + 1) x (by omega) (by simpa using hx)) (by simpa using h) h2
theorem fnsE_all {l : List FnV} (h : ∀ j g, j < l.length → l[j]? = some g → fnE g = 0) : fnsE l = 0 := by
  rw [fnsE_iff]
  intro f hf
  obtain ⟨j, hj, rfl⟩ := List.mem_iff_getElem.1 hf
  exact (fnE_iff _).1 (h j _ hj (List.getElem?_eq_getElem hj))

set_option maxRecDepth 100000 in
set_option maxHeartbeats 3200000 in
theorem right_any (p : Pg) (v : Value) (w : World) (hp : ProgAt w v p) :
    Calls Tryd.prog 11 #[v] w fun e w' => e = .returned (errV (progE p)) ∧ Below w.heap.size w w' := by
  obtain ⟨vf, rfl, ao, n, cap, rfl, hn, hnc, hcm, hx⟩ := hp
  unfold maxLen at hcm
  obtain ⟨gl, fs⟩ := p
  dsimp only at hn hx ⊢
  have hb0 := (Below.refl w.heap.size w).alloc (Nat.le_refl _) (.cells #[.int .i64 gl, .slice ao n cap] 24)
  have HB0 := Lib.hid hb0
  have HN := Lib.hid hn
  have HX : Hid (∀ W, Below w.heap.size w W → 0 < n → ∃ b o, ao = some ⟨b, o, none⟩ ∧ ∀ i f, fs[i]? = some f → FnAt W b (o + i * 4) f) := Lib.hid fun W hW h0 => by
    obtain ⟨b, o, h1, h2, h3⟩ := hx h0
    exact ⟨b, o, h1, fun i f hi => (h3 i f hi).below hW⟩
  have HE : Hid (progE ⟨gl, fs⟩ = if gl < 0 ∨ 8 < gl then 2 else if 12 < n then 4 else fnsE fs) := Lib.hid (by rw [hn]; rfl)
  clear hb0 hx hn
  go_enter Tryd.func11, Tryd.ntmps11
  by_cases h1 : gl < 0
  · go_wp2_with fail
    go_ret
    exact ⟨by rw [HE.out, if_pos (Or.inl h1)]; rfl, HB0.out⟩
  by_cases h2 : 8 < gl
  · go_wp2_with fail
    go_ret
    exact ⟨by rw [HE.out, if_pos (Or.inr h2)]; rfl, HB0.out⟩
  by_cases h3 : 12 < n
  · have h3i : (12 : Int) < (n : Int) := by omega
    go_wp2_with fail
    go_ret
    exact ⟨by rw [HE.out, if_neg (by omega), if_pos h3]; rfl, HB0.out⟩
  have h3i : ¬ (12 : Int) < (n : Int) := by omega
  have HQ : Hid (progE ⟨gl, fs⟩ = fnsE fs) := Lib.hid (by rw [HE.out, if_neg (by omega), if_neg h3])
  clear HE
  go_wp2_with fail
  clear h1 h2 h3 h3i
  go_loopw [23] (fun iv wr => ∃ k : Nat, k ≤ n ∧ iv = .int .i64 k ∧ Hid (∀ j g, j < k → fs[j]? = some g → fnE g = 0) ∧ Below w.heap.size w wr) (fun iv _ => n - (intOf iv).toNat)
  case atStart => exact ⟨0, Nat.zero_le _, rfl, Lib.hid (fun j _ hj => absurd hj (Nat.not_lt_zero _)), HB0.out⟩
  case round =>
    obtain ⟨k, hk, rfl, hall, hbel⟩ := hrel
    rename World => wr
    by_cases hkn : k < n
    · obtain ⟨b, o, rfl, hfn⟩ := HX.out _ hbel (by omega)
      have hkl : k < fs.length := by rw [← HN.out]; exact hkn
      obtain ⟨f, hf⟩ : ∃ f, fs[k]? = some f := ⟨_, List.getElem?_eq_getElem hkl⟩
      obtain ⟨hc1, ⟨vl, hc2, hli⟩, hc3, vc, hc4, hci⟩ := hfn k f hf
      have HF := Lib.hid hf
      have HLI := Lib.hid hli
      have HCI := Lib.hid hci
      have hi1 : (k : Int) < (n : Int) := by omega
      clear hfn HX hf hkl hli hci
      obtain ⟨pa, hpa⟩ : ∃ x, x = f.params := ⟨_, rfl⟩
      obtain ⟨ki, hki⟩ : ∃ x, x = f.kind := ⟨_, rfl⟩
      rw [← hpa] at hc1
      rw [← hki] at hc3
      have hba := hbel.alloc hbel.size (.cells #[.int .i64 pa, vl, .int .i64 ki, vc] 47)
      have hbw := (Below.refl wr.heap.size wr).alloc (Nat.le_refl _) (.cells #[.int .i64 pa, vl, .int .i64 ki, vc] 47)
      have HC := Lib.hid (rightFn_any f vl vc _ (HLI.out.below hbw) (HCI.out.below hbw))
      rw [← hpa, ← hki] at HC
      have ho1 : vl.oneCell' = true := by obtain ⟨_, _, _, e, _⟩ := HLI.out; rw [e]; rfl
      have ho2 : vc.oneCell' = true := by obtain ⟨_, _, _, e, _⟩ := HCI.out; rw [e]; rfl
      obtain ⟨_, n1, c1, rfl, -⟩ := HLI.out
      obtain ⟨_, n2, c2, rfl, -⟩ := HCI.out
      clear hpa hki hbw
      go_wp2_with fail
      refine HC.out.mono ?_
      rintro e w2 ⟨rfl, hb2⟩
      have hb3 : Below w.heap.size w w2 := hba.trans (hb2.mono hba.size)
      by_cases he : fnE f = 0
      · have HE := Lib.hid he
        have HK : Hid (∀ j g, j < k + 1 → fs[j]? = some g → fnE g = 0) := Lib.hid fun j g hj hg => by
          by_cases e : j = k
          · subst e
            rw [HF.out] at hg
            cases hg
            exact he
          · exact hall.out j g (by omega) hg
        rw [he, errV_0]
        clear hall he HC
        go_wp2_with fail
        go_roundw
        case rel => exact ⟨k + 1, by omega, by go_num, HK, hb3⟩
        case measure => simp [intOf]; omega
      · have HZ : Hid (fnsE fs = fnE f) := Lib.hid (fnsE_at (fun j g hj hg => hall.out j g hj hg) HF.out he)
        rw [errV_nz he]
        have HI := Lib.hid he
        clear hall he HC
        go_wp2_with fail
        go_ret
        exact ⟨by rw [HQ.out, HZ.out, errV_nz HI.out]; rfl, hb3⟩
    · obtain rfl : k = n := by omega
      have HA : Hid (fnsE fs = 0) := Lib.hid (fnsE_all fun j g hj hg => hall.out j g (by rw [HN.out]; exact hj) hg)
      clear hall HX
      go_wp2_with fail
      go_ret
      exact ⟨by rw [HQ.out, HA.out]; rfl, hbel⟩
end Go.Proofs.YtlfcfaceeloedaaDoor
