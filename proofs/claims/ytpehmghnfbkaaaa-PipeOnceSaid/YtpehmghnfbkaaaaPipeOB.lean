/-
  The walk of what PipeOnce asks behind each deal: who goes on waited; those that stand in rows wait.
-/
import Derived.Test.YtpehmghnfbkaaaaPipeOA
import Derived.Deep.Cut
import Derived.BigQuiet
import Derived.IntWalk
import Derived.Deep.RegionHeld
import Derived.StillTailTactics
namespace Go.Proofs.Ytpehmghnfbkaaaa
open Go.RowKit Go.Maps Pp

set_option maxRecDepth 100000 in
set_option maxHeartbeats 12800000 in
theorem onceF_any {w : World} {ρ : Nat → Role} {pb N xb mb K k : Nat} {s : St} {f : Int → Bool} {D : DataW Unit} (h : Pipes w ρ pb N s) (hN : N ≤ 1000000) (hx : w.cell? ⟨xb, 0, none⟩ = some (.map (some mb))) (hD : w.ownsMap Try.prog 3 (plainElem Try.prog 3) mb k D)
    (hkK : k + 1 ≤ K) (hK : K ≤ 1000) (hW : WaitM D f) (hmf : ρ mb = .free) (hxm : xb ≠ mb) {t : Int} (hwt : (Lit.int .i64 t).wf = true) {vw : Value} {wk : List Wk} {b : Bool} {B : Nat} (hw : w.ownsRow B 45 3 vw wk.length (cellsK wk))
    (hon : OnceR f (fun x => (s.asks x).isSome) t wk b) (hwf : ∀ x, f x = true → (Lit.int .i64 x).wf = true) :
    Calls Try.prog 18 #[.pointer (some ⟨pb, 0, none⟩), .int .i64 t, vw, .bool b, .pointer (some ⟨xb, 0, none⟩)] w fun e w' => e = .returned (.bool true) ∧ OnM w w' mb K (fun x => (s.asks x).isSome) := by
  have HP := Lib.hid h
  have HD := Lib.hid hD
  have HW := Lib.hid hW
  have HMF := Lib.hid hmf
  have HXM := Lib.hid hxm
  have HWT := Lib.hid hwt
  have HWF := Lib.hid hwf
  have h32 : s.chs.length ≤ 32 := h.1.many
  have HSW : Hid (∀ x : Int, (s.asks x).isSome = true → (Lit.int .i64 x).wf = true) := Lib.hid fun x hx => by
    obtain ⟨_, vch, ptr, mb', D', h1⟩ := h
    obtain ⟨l, hl⟩ := Option.isSome_iff_exists.1 hx
    exact (h1.talk x l hl).1
  have HXL : Hid (xb < w.heap.size) := Lib.hid (block_lt_of_cell hx)
  have HROWS : Hid (∀ (k : Nat) c, s.chs[k]? = some c → c.sends.length ≤ 6000000 ∧ c.recvs.length ≤ 6000000) := Lib.hid fun k c hc => by
    obtain ⟨_, vch, ptr, mb', D', h1⟩ := h
    have := h1.rows k c hc
    omega
  have HX0 : Hid (∀ W, Keeps (fun b => b = mb) w W → W.cell? ⟨xb, 0, none⟩ = some (.map (some mb))) := Lib.hid fun W hk => hk.cell_of hx hxm
  have HKK := Lib.hid hkK
  clear h hD hW hmf hxm hwt hwf hkK

  rcases hon with ⟨rfl, rfl, hg⟩ | ⟨rfl, rfl, hg⟩ | ⟨rfl, y, rfl, hy, hg⟩
  · obtain ⟨aw, cw, rfl⟩ := own_slice hw
    have HG := Lib.hid hg
    clear hg hw
    have hk1000 : k ≤ 1000 := by have := HKK.out; omega
    go_enter Try.func18, Try.ntmps18
    go_wp2_with (at_mapUpdate; refine wpList_mapUpdate_own _ rfl _ _ _ 34 rfl 3 3 keyedP Try.underlying34 _ mb k D rfl HD.out (by unfold maxLen; omega) _ _ _ rfl rfl (keyOf_int_mk Try.underlying3 HWT.out) _ [] (plainElem_int Try.underlying3 (a := 1) (by decide)) ?_; intro w8 hown8 hgrow8; have HO8 := Lib.hid hown8; have HG8 := Lib.hid hgrow8; clear hown8 hgrow8)
    have HM0 : Hid (OnM w w8 mb K (fun x => (s.asks x).isSome)) := Lib.hid (OnM.put (Keeps.refl _ _) HD.out HW.out HG8.out HO8.out HG.out HKK.out)
    clear hx
    go_loopw [10] (fun iv wr => iv = .int .i64 0 ∧ OnM w wr mb K (fun x => (s.asks x).isSome)) (fun _ _ => 0)
    case atStart => exact ⟨rfl, HM0.out⟩
    case round =>
      obtain ⟨rfl, hJ⟩ := hrel
      rename World => wr
      clear HM0
      have HJ := Lib.hid hJ
      have HPr : Hid (Pipes wr ρ pb N s) := Lib.hid (HP.out.keeps HJ.out.keep fun g _ e => by rw [e]; exact HMF.out)
      clear hJ
      go_wp2_with fail
      refine (look_any HPr.out hN).mono ?_
      rintro e w6 ⟨ao, cap, rfl, L, hm, hlk, hb6⟩
      have HJ6 : Hid (OnM w w6 mb K (fun x => (s.asks x).isSome)) := Lib.hid (HJ.out.new (Keeps.of_new hb6))
      obtain ⟨ao', cap', hv, hx6⟩ := readO_of hm hlk
      rw [Value.slice.injEq] at hv
      obtain ⟨rfl, -, rfl⟩ := hv
      have HX6 := Lib.hid hx6
      obtain ⟨n, hn⟩ : ∃ n, n = s.chs.length := ⟨_, rfl⟩
      rw [← hn] at h32 ⊢
      have HN := Lib.hid hn
      clear hm hlk hb6 hx6 hn
      go_wp2_with fail
      go_loopw [12] (fun iv wi => ∃ i : Nat, i ≤ n ∧ iv = .int .i64 i ∧ Below w6.heap.size w6 wi) (fun iv _ => n - (intOf iv).toNat)
      case atStart => exact ⟨0, Nat.zero_le _, rfl, Below.refl _ _⟩
      case round =>
        obtain ⟨i, hi, rfl, hbi⟩ := hrel
        rename World => wi
        have HBI := Lib.hid hbi
        clear hbi
        by_cases hin : i < n
        · obtain ⟨g, rfl, hgl, hg⟩ := HX6.out (by rw [← HN.out]; omega)
          obtain ⟨c, hc⟩ : ∃ c, s.chs[i]? = some c := ⟨_, List.getElem?_eq_getElem (by rw [← HN.out]; exact hin)⟩
          obtain ⟨v1, v2, c3, c4, hr1, hr2⟩ := hg i c hc
          obtain ⟨asl, ks, rfl, -, -⟩ := hr1.slice
          obtain ⟨ar, kr, rfl, -, -⟩ := hr2.slice
          have hii : (0 : Int) ≤ (i : Int) ∧ (i : Int) < (n : Int) := by omega
          have HC : Hid (∀ W : World, Below w6.heap.size w6 W → W.cell? ⟨g, i * 5 + 3, none⟩ = some (.slice asl c.sends.length ks) ∧ W.cell? ⟨g, i * 5 + 4, none⟩ = some (.slice ar c.recvs.length kr)) := Lib.hid fun W hW =>
            ⟨(hW.cell (p := ⟨g, i * 5 + 3, none⟩) hgl).trans c3, (hW.cell (p := ⟨g, i * 5 + 4, none⟩) hgl).trans c4⟩
          have HRW : Hid (∀ W : World, Below w6.heap.size w6 W → RowW W (.slice asl c.sends.length ks) c.sends ∧ RowW W (.slice ar c.recvs.length kr) c.recvs) := Lib.hid fun W hW =>
            ⟨hr1.keeps (Keeps.of_new (S := fun _ => False) hW) fun _ _ => id, hr2.keeps (Keeps.of_new (S := fun _ => False) hW) fun _ _ => id⟩
          have hrl := HROWS.out i c hc
          have HASK : Hid (∀ x ∈ c.sends ++ c.recvs, (s.asks x.1).isSome = true) := Lib.hid fun x hx => by
            rcases List.mem_append.1 hx with hx | hx
            · obtain ⟨l, _, h1, _⟩ := HP.out.1.sends i c hc x hx
              rw [h1]; rfl
            · obtain ⟨l, _, h1, _⟩ := HP.out.1.recvs i c hc x hx
              rw [h1]; rfl
          clear hg hr1 hr2 c3 c4 hc hgl
          go_upto_region 14 with fail
          refine wp_region_held_drew (S := (fun W : World => W.cell? ⟨g, i * 5 + 3, none⟩ = some (.slice asl c.sends.length ks) ∧ W.cell? ⟨g, i * 5 + 4, none⟩ = some (.slice ar c.recvs.length kr))) (by kernel_rfl) (HC.out _ (Below.drew HBI.out)) (fun hHeld => ?_)
          refine wpAnyH_take (i := 0) (oi := { dst := some 46, op := _, type := _, pos := _, after := _, guard := _ }) (v := .slice (some ⟨g, 0, none⟩) n cap) rfl (by kernel_rfl) (by kernel_rfl) (by kernel_rfl) (fun _ _ _ h => h) (Or.inl ⟨by rfl, ?_⟩) hHeld ?_
          · intro W9 hSW
            (try dsimp only at hSW)
            go_simp
          try simp only [Act.put, List.setIfInBounds_toArray, List.set_cons_zero, List.set_cons_succ]
          refine wpAnyH_take (i := 1) (oi := { dst := some 47, op := _, type := _, pos := _, after := _, guard := _ }) (v := .int .i64 (i : Nat)) rfl (by kernel_rfl) (by kernel_rfl) (by kernel_rfl) (fun _ _ _ h => h) (Or.inl ⟨by rfl, ?_⟩) hHeld ?_
          · intro W9 hSW
            (try dsimp only at hSW)
            go_simp
          try simp only [Act.put, List.setIfInBounds_toArray, List.set_cons_zero, List.set_cons_succ]
          refine wpAnyH_take (i := 2) (oi := { dst := some 48, op := _, type := _, pos := _, after := _, guard := _ }) (v := .pointer (some ⟨g, i * 5, none⟩)) rfl (by kernel_rfl) (by kernel_rfl) (by kernel_rfl) (fun _ _ _ h => h) (Or.inl ⟨by rfl, ?_⟩) hHeld ?_
          · intro W9 hSW
            (try dsimp only at hSW)
            go_simp
          try simp only [Act.put, List.setIfInBounds_toArray, List.set_cons_zero, List.set_cons_succ]
          refine wpAnyH_take (i := 3) (oi := { dst := some 49, op := _, type := _, pos := _, after := _, guard := _ }) (v := .pointer (some ⟨g, i * 5 + 3, none⟩)) rfl (by kernel_rfl) (by kernel_rfl) (by kernel_rfl) (fun _ _ _ h => h) (Or.inl ⟨by rfl, ?_⟩) hHeld ?_
          · intro W9 hSW
            (try dsimp only at hSW)
            go_simp
          try simp only [Act.put, List.setIfInBounds_toArray, List.set_cons_zero, List.set_cons_succ]
          refine wpAnyH_take (i := 4) (oi := { dst := some 50, op := _, type := _, pos := _, after := _, guard := _ }) (v := .slice asl c.sends.length ks) rfl (by kernel_rfl) (by kernel_rfl) (by kernel_rfl) (fun _ _ _ h => h) (Or.inl ⟨by rfl, ?_⟩) hHeld ?_
          · intro W9 hSW
            (try dsimp only at hSW)
            go_simp
          try simp only [Act.put, List.setIfInBounds_toArray, List.set_cons_zero, List.set_cons_succ]
          refine wpAnyH_take (i := 6) (oi := { dst := some 52, op := _, type := _, pos := _, after := _, guard := _ }) (v := .slice (some ⟨g, 0, none⟩) n cap) rfl (by kernel_rfl) (by kernel_rfl) (by kernel_rfl) (fun _ _ _ h => h) (Or.inl ⟨by rfl, ?_⟩) hHeld ?_
          · intro W9 hSW
            (try dsimp only at hSW)
            go_simp
          try simp only [Act.put, List.setIfInBounds_toArray, List.set_cons_zero, List.set_cons_succ]
          refine wpAnyH_take (i := 7) (oi := { dst := some 53, op := _, type := _, pos := _, after := _, guard := _ }) (v := .int .i64 (i : Nat)) rfl (by kernel_rfl) (by kernel_rfl) (by kernel_rfl) (fun _ _ _ h => h) (Or.inl ⟨by rfl, ?_⟩) hHeld ?_
          · intro W9 hSW
            (try dsimp only at hSW)
            go_simp
          try simp only [Act.put, List.setIfInBounds_toArray, List.set_cons_zero, List.set_cons_succ]
          refine wpAnyH_take (i := 8) (oi := { dst := some 54, op := _, type := _, pos := _, after := _, guard := _ }) (v := .pointer (some ⟨g, i * 5, none⟩)) rfl (by kernel_rfl) (by kernel_rfl) (by kernel_rfl) (fun _ _ _ h => h) (Or.inl ⟨by rfl, ?_⟩) hHeld ?_
          · intro W9 hSW
            (try dsimp only at hSW)
            go_simp
          try simp only [Act.put, List.setIfInBounds_toArray, List.set_cons_zero, List.set_cons_succ]
          refine wpAnyH_take (i := 9) (oi := { dst := some 55, op := _, type := _, pos := _, after := _, guard := _ }) (v := .pointer (some ⟨g, i * 5 + 4, none⟩)) rfl (by kernel_rfl) (by kernel_rfl) (by kernel_rfl) (fun _ _ _ h => h) (Or.inl ⟨by rfl, ?_⟩) hHeld ?_
          · intro W9 hSW
            (try dsimp only at hSW)
            go_simp
          try simp only [Act.put, List.setIfInBounds_toArray, List.set_cons_zero, List.set_cons_succ]
          refine wpAnyH_take (i := 10) (oi := { dst := some 56, op := _, type := _, pos := _, after := _, guard := _ }) (v := .slice ar c.recvs.length kr) rfl (by kernel_rfl) (by kernel_rfl) (by kernel_rfl) (fun _ _ _ h => h) (Or.inl ⟨by rfl, ?_⟩) hHeld ?_
          · intro W9 hSW
            (try dsimp only at hSW)
            go_simp
          try simp only [Act.put, List.setIfInBounds_toArray, List.set_cons_zero, List.set_cons_succ]
          refine wpAnyH_take (i := 13) (oi := { dst := some 59, op := _, type := _, pos := _, after := _, guard := _ }) (v := .int .i64 0) rfl (by kernel_rfl) (by kernel_rfl) (by kernel_rfl) (fun _ _ _ h => h) (Or.inl ⟨by rfl, ?_⟩) hHeld ?_
          · intro W9 hSW
            (try dsimp only at hSW)
            go_simp
          try simp only [Act.put, List.setIfInBounds_toArray, List.set_cons_zero, List.set_cons_succ]
          refine wpAnyH_ready (rs := [5]) (by kernel_rfl) (by simp) ?_
          refine AllReadyH.cons (o := { dst := some 51, op := _, type := _, pos := _, after := _, guard := _ }) rfl (fun K hK => ?_) AllReadyH.nil
          go_simp
          go_at_call 19
          refine (cloneW_any _ (HRW.out _ (Below.drew HBI.out)).1 (by omega)).mono ?_
          rintro e w8 ⟨u, rfl, ho8, hb8⟩
          obtain ⟨au, ku, hu⟩ := own_slice ho8
          subst hu
          have HB8 : Hid (Below w6.heap.size w6 w8) := Lib.hid (bel_step (Below.drew HBI.out) hb8)
          have HO8 := Lib.hid ho8
          have HSZ8 : Hid (wi.drew.heap.size ≤ w8.heap.size) := Lib.hid hb8.size
          have HSZ6 : Hid (w6.heap.size ≤ wi.drew.heap.size) := Lib.hid (Below.drew HBI.out).size
          have hg8 := HC.out w8 HB8.out
          clear ho8 hb8
          refine hK.out _ _ hg8 (fun hHeld => ?_)
          clear hK K hg8
          refine wpAnyH_ready (rs := [11]) (by kernel_rfl) (by simp) ?_
          refine AllReadyH.cons (o := { dst := some 57, op := _, type := _, pos := _, after := _, guard := _ }) rfl (fun K hK => ?_) AllReadyH.nil
          refine step_appendWs rfl (.tmp 51) (.tmp 56) rfl _ _ _ c.sends c.recvs HO8.out (HRW.out _ HB8.out).2 (by omega) HSZ8.out (by simp [Act.eval]) (by simp [Act.eval]) ?_
          intro a9 k9 w9 ho9 hk9
          have HO9 := Lib.hid ho9
          have HK9 := Lib.hid hk9
          have HB9 : Hid (Below w6.heap.size w6 w9) := Lib.hid (HB8.out.trans (HK9.out.below HB8.out.size fun b hb e => by have := (World.ownsRow.lt HO8.out b e).1; have := HSZ6.out; omega))
          have hg9 := HC.out w9 HB9.out
          clear ho9 hk9
          refine hK.out _ _ hg9 (fun hHeld => ?_)
          clear hK K hg9
          refine wpAnyH_take (i := 12) (oi := { dst := some 58, op := _, type := _, pos := _, after := _, guard := _ }) (v := .int .i64 ((c.sends ++ c.recvs).length : Nat)) rfl (by kernel_rfl) (by kernel_rfl) (by kernel_rfl) (fun _ _ _ h => h) (Or.inl ⟨by rfl, ?_⟩) hHeld ?_
          · intro W9 hSW
            (try dsimp only at hSW)
            go_simp
          try simp only [Act.put, List.setIfInBounds_toArray, List.set_cons_zero, List.set_cons_succ]
          refine wpAnyH_done (by kernel_rfl) ?_ _
          have HRD := Lib.hid (readW_of HO9.out)
          generalize hxs : c.sends ++ c.recvs = xs at *
          obtain ⟨m, hm⟩ : ∃ m, m = xs.length := ⟨_, rfl⟩
          have hml : m ≤ 12000000 := by rw [hm, ← hxs, List.length_append]; omega
          rw [← hm]
          have HM := Lib.hid hm
          clear hm hxs
          go_wp2_with fail
          go_loopw [59] (fun jv wa => ∃ j : Nat, j ≤ m ∧ jv = .int .i64 j ∧ Below w9.heap.size w9 wa) (fun jv _ => m - (intOf jv).toNat)
          case atStart => exact ⟨0, Nat.zero_le _, rfl, Below.refl _ _⟩
          case round =>
            obtain ⟨j, hj, rfl, hba⟩ := hrel
            rename World => wa
            have HBA := Lib.hid hba
            clear hba
            by_cases hjm : j < m
            · obtain ⟨⟨xt, xk⟩, hxj⟩ : ∃ x, xs[j]? = some x := ⟨_, List.getElem?_eq_getElem (by rw [← HM.out]; exact hjm)⟩
              have hav := HRD.out
              obtain ⟨ao9, cap9, hv9, hrd⟩ := hav
              rw [Value.slice.injEq] at hv9
              obtain ⟨rfl, -, rfl⟩ := hv9
              obtain ⟨gj, rfl, hgj, hcj⟩ := hrd (by rw [← HM.out]; omega)
              obtain ⟨q1, q2⟩ := hcj j _ hxj
              have r1 := (HBA.out.cell (p := ⟨gj, j * 2, none⟩) hgj).trans q1
              have r2 := (HBA.out.cell (p := ⟨gj, j * 2 + 1, none⟩) hgj).trans q2
              have hak := HASK.out _ (List.mem_of_getElem? hxj)
              have HBZ : Hid (Below w6.heap.size w6 (wa.alloc (.cells #[.int .i64 xt, .int .i64 (xk : Nat)] 58))) := Lib.hid ((HB9.out.trans (HBA.out.mono HB9.out.size)).alloc (Nat.le_trans HB9.out.size HBA.out.size) _)
              have HJZ := Lib.hid (HJ6.out.new (Keeps.of_new HBZ.out))
              have hlk := HJZ.out.look (x := xt) hak (HSW.out _ hak)
              have hx7 := HX0.out _ HJZ.out.keep
              have hji : (0 : Int) ≤ (j : Int) ∧ (j : Int) < (m : Int) := by omega
              have HBN : Hid (Below w9.heap.size w9 (wa.alloc (.cells #[.int .i64 xt, .int .i64 (xk : Nat)] 58))) := Lib.hid (HBA.out.alloc HBA.out.size _)
              clear hrd hcj q1 q2 hxj hak hgj
              simp only at r1 r2 hlk
              go_wp2_with fail
              go_roundw
              case rel => exact ⟨j + 1, by omega, by go_num, HBN.out⟩
              case measure => simp [intOf]; omega
            · obtain rfl : j = m := by omega
              have hjj : ¬ (j : Int) < (j : Int) := by omega
              go_wp2_with fail
              go_roundw
              case rel => exact ⟨i + 1, by omega, by go_num, HB9.out.trans (HBA.out.mono HB9.out.size)⟩
              case measure => simp [intOf]; omega
        · obtain rfl : i = n := by omega
          have hnn : ¬ (i : Int) < (i : Int) := by omega
          go_wp2_with fail
          go_ret
          exact ⟨by first | rfl | simp, HJ6.out.new (Keeps.of_new HBI.out)⟩
  · obtain ⟨aw, cw, rfl⟩ := own_slice hw
    have HM0 : Hid (OnM w w mb K (fun x => (s.asks x).isSome)) := Lib.hid ⟨⟨D, k, by have := HKK.out; omega, HD.out, HW.out.same hg⟩, Keeps.refl _ _⟩
    clear hg hw
    go_enter Try.func18, Try.ntmps18
    go_wp2_with fail
    go_loopw [10] (fun iv wr => iv = .int .i64 0 ∧ OnM w wr mb K (fun x => (s.asks x).isSome)) (fun _ _ => 0)
    case atStart => exact ⟨rfl, HM0.out⟩
    case round =>
      obtain ⟨rfl, hJ⟩ := hrel
      rename World => wr
      clear HM0
      have HJ := Lib.hid hJ
      have HPr : Hid (Pipes wr ρ pb N s) := Lib.hid (HP.out.keeps HJ.out.keep fun g _ e => by rw [e]; exact HMF.out)
      clear hJ
      go_wp2_with fail
      refine (look_any HPr.out hN).mono ?_
      rintro e w6 ⟨ao, cap, rfl, L, hm, hlk, hb6⟩
      have HJ6 : Hid (OnM w w6 mb K (fun x => (s.asks x).isSome)) := Lib.hid (HJ.out.new (Keeps.of_new hb6))
      obtain ⟨ao', cap', hv, hx6⟩ := readO_of hm hlk
      rw [Value.slice.injEq] at hv
      obtain ⟨rfl, -, rfl⟩ := hv
      have HX6 := Lib.hid hx6
      obtain ⟨n, hn⟩ : ∃ n, n = s.chs.length := ⟨_, rfl⟩
      rw [← hn] at h32 ⊢
      have HN := Lib.hid hn
      clear hm hlk hb6 hx6 hn
      go_wp2_with fail
      go_loopw [12] (fun iv wi => ∃ i : Nat, i ≤ n ∧ iv = .int .i64 i ∧ Below w6.heap.size w6 wi) (fun iv _ => n - (intOf iv).toNat)
      case atStart => exact ⟨0, Nat.zero_le _, rfl, Below.refl _ _⟩
      case round =>
        obtain ⟨i, hi, rfl, hbi⟩ := hrel
        rename World => wi
        have HBI := Lib.hid hbi
        clear hbi
        by_cases hin : i < n
        · obtain ⟨g, rfl, hgl, hg⟩ := HX6.out (by rw [← HN.out]; omega)
          obtain ⟨c, hc⟩ : ∃ c, s.chs[i]? = some c := ⟨_, List.getElem?_eq_getElem (by rw [← HN.out]; exact hin)⟩
          obtain ⟨v1, v2, c3, c4, hr1, hr2⟩ := hg i c hc
          obtain ⟨asl, ks, rfl, -, -⟩ := hr1.slice
          obtain ⟨ar, kr, rfl, -, -⟩ := hr2.slice
          have hii : (0 : Int) ≤ (i : Int) ∧ (i : Int) < (n : Int) := by omega
          have HC : Hid (∀ W : World, Below w6.heap.size w6 W → W.cell? ⟨g, i * 5 + 3, none⟩ = some (.slice asl c.sends.length ks) ∧ W.cell? ⟨g, i * 5 + 4, none⟩ = some (.slice ar c.recvs.length kr)) := Lib.hid fun W hW =>
            ⟨(hW.cell (p := ⟨g, i * 5 + 3, none⟩) hgl).trans c3, (hW.cell (p := ⟨g, i * 5 + 4, none⟩) hgl).trans c4⟩
          have HRW : Hid (∀ W : World, Below w6.heap.size w6 W → RowW W (.slice asl c.sends.length ks) c.sends ∧ RowW W (.slice ar c.recvs.length kr) c.recvs) := Lib.hid fun W hW =>
            ⟨hr1.keeps (Keeps.of_new (S := fun _ => False) hW) fun _ _ => id, hr2.keeps (Keeps.of_new (S := fun _ => False) hW) fun _ _ => id⟩
          have hrl := HROWS.out i c hc
          have HASK : Hid (∀ x ∈ c.sends ++ c.recvs, (s.asks x.1).isSome = true) := Lib.hid fun x hx => by
            rcases List.mem_append.1 hx with hx | hx
            · obtain ⟨l, _, h1, _⟩ := HP.out.1.sends i c hc x hx
              rw [h1]; rfl
            · obtain ⟨l, _, h1, _⟩ := HP.out.1.recvs i c hc x hx
              rw [h1]; rfl
          clear hg hr1 hr2 c3 c4 hc hgl
          go_upto_region 14 with fail
          refine wp_region_held_drew (S := (fun W : World => W.cell? ⟨g, i * 5 + 3, none⟩ = some (.slice asl c.sends.length ks) ∧ W.cell? ⟨g, i * 5 + 4, none⟩ = some (.slice ar c.recvs.length kr))) (by kernel_rfl) (HC.out _ (Below.drew HBI.out)) (fun hHeld => ?_)
          refine wpAnyH_take (i := 0) (oi := { dst := some 46, op := _, type := _, pos := _, after := _, guard := _ }) (v := .slice (some ⟨g, 0, none⟩) n cap) rfl (by kernel_rfl) (by kernel_rfl) (by kernel_rfl) (fun _ _ _ h => h) (Or.inl ⟨by rfl, ?_⟩) hHeld ?_
          · intro W9 hSW
            (try dsimp only at hSW)
            go_simp
          try simp only [Act.put, List.setIfInBounds_toArray, List.set_cons_zero, List.set_cons_succ]
          refine wpAnyH_take (i := 1) (oi := { dst := some 47, op := _, type := _, pos := _, after := _, guard := _ }) (v := .int .i64 (i : Nat)) rfl (by kernel_rfl) (by kernel_rfl) (by kernel_rfl) (fun _ _ _ h => h) (Or.inl ⟨by rfl, ?_⟩) hHeld ?_
          · intro W9 hSW
            (try dsimp only at hSW)
            go_simp
          try simp only [Act.put, List.setIfInBounds_toArray, List.set_cons_zero, List.set_cons_succ]
          refine wpAnyH_take (i := 2) (oi := { dst := some 48, op := _, type := _, pos := _, after := _, guard := _ }) (v := .pointer (some ⟨g, i * 5, none⟩)) rfl (by kernel_rfl) (by kernel_rfl) (by kernel_rfl) (fun _ _ _ h => h) (Or.inl ⟨by rfl, ?_⟩) hHeld ?_
          · intro W9 hSW
            (try dsimp only at hSW)
            go_simp
          try simp only [Act.put, List.setIfInBounds_toArray, List.set_cons_zero, List.set_cons_succ]
          refine wpAnyH_take (i := 3) (oi := { dst := some 49, op := _, type := _, pos := _, after := _, guard := _ }) (v := .pointer (some ⟨g, i * 5 + 3, none⟩)) rfl (by kernel_rfl) (by kernel_rfl) (by kernel_rfl) (fun _ _ _ h => h) (Or.inl ⟨by rfl, ?_⟩) hHeld ?_
          · intro W9 hSW
            (try dsimp only at hSW)
            go_simp
          try simp only [Act.put, List.setIfInBounds_toArray, List.set_cons_zero, List.set_cons_succ]
          refine wpAnyH_take (i := 4) (oi := { dst := some 50, op := _, type := _, pos := _, after := _, guard := _ }) (v := .slice asl c.sends.length ks) rfl (by kernel_rfl) (by kernel_rfl) (by kernel_rfl) (fun _ _ _ h => h) (Or.inl ⟨by rfl, ?_⟩) hHeld ?_
          · intro W9 hSW
            (try dsimp only at hSW)
            go_simp
          try simp only [Act.put, List.setIfInBounds_toArray, List.set_cons_zero, List.set_cons_succ]
          refine wpAnyH_take (i := 6) (oi := { dst := some 52, op := _, type := _, pos := _, after := _, guard := _ }) (v := .slice (some ⟨g, 0, none⟩) n cap) rfl (by kernel_rfl) (by kernel_rfl) (by kernel_rfl) (fun _ _ _ h => h) (Or.inl ⟨by rfl, ?_⟩) hHeld ?_
          · intro W9 hSW
            (try dsimp only at hSW)
            go_simp
          try simp only [Act.put, List.setIfInBounds_toArray, List.set_cons_zero, List.set_cons_succ]
          refine wpAnyH_take (i := 7) (oi := { dst := some 53, op := _, type := _, pos := _, after := _, guard := _ }) (v := .int .i64 (i : Nat)) rfl (by kernel_rfl) (by kernel_rfl) (by kernel_rfl) (fun _ _ _ h => h) (Or.inl ⟨by rfl, ?_⟩) hHeld ?_
          · intro W9 hSW
            (try dsimp only at hSW)
            go_simp
          try simp only [Act.put, List.setIfInBounds_toArray, List.set_cons_zero, List.set_cons_succ]
          refine wpAnyH_take (i := 8) (oi := { dst := some 54, op := _, type := _, pos := _, after := _, guard := _ }) (v := .pointer (some ⟨g, i * 5, none⟩)) rfl (by kernel_rfl) (by kernel_rfl) (by kernel_rfl) (fun _ _ _ h => h) (Or.inl ⟨by rfl, ?_⟩) hHeld ?_
          · intro W9 hSW
            (try dsimp only at hSW)
            go_simp
          try simp only [Act.put, List.setIfInBounds_toArray, List.set_cons_zero, List.set_cons_succ]
          refine wpAnyH_take (i := 9) (oi := { dst := some 55, op := _, type := _, pos := _, after := _, guard := _ }) (v := .pointer (some ⟨g, i * 5 + 4, none⟩)) rfl (by kernel_rfl) (by kernel_rfl) (by kernel_rfl) (fun _ _ _ h => h) (Or.inl ⟨by rfl, ?_⟩) hHeld ?_
          · intro W9 hSW
            (try dsimp only at hSW)
            go_simp
          try simp only [Act.put, List.setIfInBounds_toArray, List.set_cons_zero, List.set_cons_succ]
          refine wpAnyH_take (i := 10) (oi := { dst := some 56, op := _, type := _, pos := _, after := _, guard := _ }) (v := .slice ar c.recvs.length kr) rfl (by kernel_rfl) (by kernel_rfl) (by kernel_rfl) (fun _ _ _ h => h) (Or.inl ⟨by rfl, ?_⟩) hHeld ?_
          · intro W9 hSW
            (try dsimp only at hSW)
            go_simp
          try simp only [Act.put, List.setIfInBounds_toArray, List.set_cons_zero, List.set_cons_succ]
          refine wpAnyH_take (i := 13) (oi := { dst := some 59, op := _, type := _, pos := _, after := _, guard := _ }) (v := .int .i64 0) rfl (by kernel_rfl) (by kernel_rfl) (by kernel_rfl) (fun _ _ _ h => h) (Or.inl ⟨by rfl, ?_⟩) hHeld ?_
          · intro W9 hSW
            (try dsimp only at hSW)
            go_simp
          try simp only [Act.put, List.setIfInBounds_toArray, List.set_cons_zero, List.set_cons_succ]
          refine wpAnyH_ready (rs := [5]) (by kernel_rfl) (by simp) ?_
          refine AllReadyH.cons (o := { dst := some 51, op := _, type := _, pos := _, after := _, guard := _ }) rfl (fun K hK => ?_) AllReadyH.nil
          go_simp
          go_at_call 19
          refine (cloneW_any _ (HRW.out _ (Below.drew HBI.out)).1 (by omega)).mono ?_
          rintro e w8 ⟨u, rfl, ho8, hb8⟩
          obtain ⟨au, ku, hu⟩ := own_slice ho8
          subst hu
          have HB8 : Hid (Below w6.heap.size w6 w8) := Lib.hid (bel_step (Below.drew HBI.out) hb8)
          have HO8 := Lib.hid ho8
          have HSZ8 : Hid (wi.drew.heap.size ≤ w8.heap.size) := Lib.hid hb8.size
          have HSZ6 : Hid (w6.heap.size ≤ wi.drew.heap.size) := Lib.hid (Below.drew HBI.out).size
          have hg8 := HC.out w8 HB8.out
          clear ho8 hb8
          refine hK.out _ _ hg8 (fun hHeld => ?_)
          clear hK K hg8
          refine wpAnyH_ready (rs := [11]) (by kernel_rfl) (by simp) ?_
          refine AllReadyH.cons (o := { dst := some 57, op := _, type := _, pos := _, after := _, guard := _ }) rfl (fun K hK => ?_) AllReadyH.nil
          refine step_appendWs rfl (.tmp 51) (.tmp 56) rfl _ _ _ c.sends c.recvs HO8.out (HRW.out _ HB8.out).2 (by omega) HSZ8.out (by simp [Act.eval]) (by simp [Act.eval]) ?_
          intro a9 k9 w9 ho9 hk9
          have HO9 := Lib.hid ho9
          have HK9 := Lib.hid hk9
          have HB9 : Hid (Below w6.heap.size w6 w9) := Lib.hid (HB8.out.trans (HK9.out.below HB8.out.size fun b hb e => by have := (World.ownsRow.lt HO8.out b e).1; have := HSZ6.out; omega))
          have hg9 := HC.out w9 HB9.out
          clear ho9 hk9
          refine hK.out _ _ hg9 (fun hHeld => ?_)
          clear hK K hg9
          refine wpAnyH_take (i := 12) (oi := { dst := some 58, op := _, type := _, pos := _, after := _, guard := _ }) (v := .int .i64 ((c.sends ++ c.recvs).length : Nat)) rfl (by kernel_rfl) (by kernel_rfl) (by kernel_rfl) (fun _ _ _ h => h) (Or.inl ⟨by rfl, ?_⟩) hHeld ?_
          · intro W9 hSW
            (try dsimp only at hSW)
            go_simp
          try simp only [Act.put, List.setIfInBounds_toArray, List.set_cons_zero, List.set_cons_succ]
          refine wpAnyH_done (by kernel_rfl) ?_ _
          have HRD := Lib.hid (readW_of HO9.out)
          generalize hxs : c.sends ++ c.recvs = xs at *
          obtain ⟨m, hm⟩ : ∃ m, m = xs.length := ⟨_, rfl⟩
          have hml : m ≤ 12000000 := by rw [hm, ← hxs, List.length_append]; omega
          rw [← hm]
          have HM := Lib.hid hm
          clear hm hxs
          go_wp2_with fail
          go_loopw [59] (fun jv wa => ∃ j : Nat, j ≤ m ∧ jv = .int .i64 j ∧ Below w9.heap.size w9 wa) (fun jv _ => m - (intOf jv).toNat)
          case atStart => exact ⟨0, Nat.zero_le _, rfl, Below.refl _ _⟩
          case round =>
            obtain ⟨j, hj, rfl, hba⟩ := hrel
            rename World => wa
            have HBA := Lib.hid hba
            clear hba
            by_cases hjm : j < m
            · obtain ⟨⟨xt, xk⟩, hxj⟩ : ∃ x, xs[j]? = some x := ⟨_, List.getElem?_eq_getElem (by rw [← HM.out]; exact hjm)⟩
              have hav := HRD.out
              obtain ⟨ao9, cap9, hv9, hrd⟩ := hav
              rw [Value.slice.injEq] at hv9
              obtain ⟨rfl, -, rfl⟩ := hv9
              obtain ⟨gj, rfl, hgj, hcj⟩ := hrd (by rw [← HM.out]; omega)
              obtain ⟨q1, q2⟩ := hcj j _ hxj
              have r1 := (HBA.out.cell (p := ⟨gj, j * 2, none⟩) hgj).trans q1
              have r2 := (HBA.out.cell (p := ⟨gj, j * 2 + 1, none⟩) hgj).trans q2
              have hak := HASK.out _ (List.mem_of_getElem? hxj)
              have HBZ : Hid (Below w6.heap.size w6 (wa.alloc (.cells #[.int .i64 xt, .int .i64 (xk : Nat)] 58))) := Lib.hid ((HB9.out.trans (HBA.out.mono HB9.out.size)).alloc (Nat.le_trans HB9.out.size HBA.out.size) _)
              have HJZ := Lib.hid (HJ6.out.new (Keeps.of_new HBZ.out))
              have hlk := HJZ.out.look (x := xt) hak (HSW.out _ hak)
              have hx7 := HX0.out _ HJZ.out.keep
              have hji : (0 : Int) ≤ (j : Int) ∧ (j : Int) < (m : Int) := by omega
              have HBN : Hid (Below w9.heap.size w9 (wa.alloc (.cells #[.int .i64 xt, .int .i64 (xk : Nat)] 58))) := Lib.hid (HBA.out.alloc HBA.out.size _)
              clear hrd hcj q1 q2 hxj hak hgj
              simp only at r1 r2 hlk
              go_wp2_with fail
              go_roundw
              case rel => exact ⟨j + 1, by omega, by go_num, HBN.out⟩
              case measure => simp [intOf]; omega
            · obtain rfl : j = m := by omega
              have hjj : ¬ (j : Int) < (j : Int) := by omega
              go_wp2_with fail
              go_roundw
              case rel => exact ⟨i + 1, by omega, by go_num, HB9.out.trans (HBA.out.mono HB9.out.size)⟩
              case measure => simp [intOf]; omega
        · obtain rfl : i = n := by omega
          have hnn : ¬ (i : Int) < (i : Int) := by omega
          go_wp2_with fail
          go_ret
          exact ⟨by first | rfl | simp, HJ6.out.new (Keeps.of_new HBI.out)⟩
  · obtain ⟨gw, cw, rfl, hc1, hc2, k0, k1, k2⟩ := wake_cells hw
    obtain ⟨yt, yc, yn⟩ := y
    simp only at hy hg k0 k1 k2
    have HG := Lib.hid hg
    have HWY := Lib.hid (HWF.out _ hy)
    have hlk : ∀ z, (Instr.lookup 34 (.map (some mb)) (.int .i64 yt) false).run Try.prog (w.drewN z) = .ok (.int .i64 1) (w.drewN z) := fun z => HW.out.look ((keeps_drewN (Keeps.refl (fun _ => False) w) z).map HD.out id) hy HWY.out
    have HSTEP : Hid (∀ z, Keeps (fun _ => False) w (w.drewN z)) := Lib.hid fun z => keeps_drewN (Keeps.refl (fun _ => False) w) z
    have hkn : 1 ≤ cw := by simpa using hc1
    clear hg hw hy hc1
    go_enter Try.func18, Try.ntmps18
    go_wp2_with fail
    go_loopw [10] (fun iv wr => (iv = .int .i64 0 ∧ wr = w) ∨ (iv = .int .i64 1 ∧ OnM w wr mb K (fun x => (s.asks x).isSome))) (fun iv _ => 1 - (intOf iv).toNat)
    case atStart => exact Or.inl ⟨rfl, rfl⟩
    case round =>
      rcases hrel with ⟨rfl, hww⟩ | ⟨rfl, hJ⟩
      · subst hww
        go_wp2_with fail
        go_quiet (fail)
        go_upto_region 8 with fail
        have HK3 : Hid (Keeps (fun _ => False) wr (wr.drewN nq)) := Lib.hid (HSTEP.out nq)
        have HD3 : Hid ((wr.drewN nq).ownsMap Try.prog 3 (plainElem Try.prog 3) mb k D) := Lib.hid (HK3.out.map HD.out id)
        have hx3 : (wr.drewN nq).cell? ⟨xb, 0, none⟩ = some (.map (some mb)) := hx
        have k03 : (wr.drewN nq).cell? ⟨gw, 0, none⟩ = some (.int .i64 yt) := k0
        clear hx k0 k1 k2 hlk
        generalize wr.drewN nq = w3 at *
        go_still_tail 6, (by kernel_rfl)
        change wpList _ _ _ _ _ w3.drew
        have HD4 : Hid (w3.drew.ownsMap Try.prog 3 (plainElem Try.prog 3) mb k D) := Lib.hid HD3.out.drew
        go_wp2_with (at_delete; refine wpList_delete_own _ rfl _ _ 34 3 rfl 3 keyedP Try.underlying34 _ mb k D rfl HD4.out _ _ rfl (keyOf_int_mk Try.underlying3 HWY.out) ?_; intro w5 hown5 hturn5; have HO5 := Lib.hid hown5; have HT5 := Lib.hid hturn5; clear hown5 hturn5)
        have hk35 : Keeps (fun g => g = mb) w3 w5 := by
          have h1 := HT5.out.grown
          exact ⟨h1.os, h1.tape, h1.output, h1.size, fun g hg hn => h1.block g hg (fun e => hn (by cases e; rfl))⟩
        go_roundw
        case rel => exact Or.inr ⟨rfl, ⟨_, k, by have := HKK.out; omega, HO5.out, HW.out.del HG.out⟩, (HK3.out.mono fun _ _ e => e.elim).trans hk35⟩
        case measure => simp [intOf]
      · rename World => wr
        have HJ := Lib.hid hJ
        have HPr : Hid (Pipes wr ρ pb N s) := Lib.hid (HP.out.keeps HJ.out.keep fun g _ e => by rw [e]; exact HMF.out)
        clear hJ
        go_wp2_with fail
        refine (look_any HPr.out hN).mono ?_
        rintro e w6 ⟨ao, cap, rfl, L, hm, hlk, hb6⟩
        have HJ6 : Hid (OnM w w6 mb K (fun x => (s.asks x).isSome)) := Lib.hid (HJ.out.new (Keeps.of_new hb6))
        obtain ⟨ao', cap', hv, hx6⟩ := readO_of hm hlk
        rw [Value.slice.injEq] at hv
        obtain ⟨rfl, -, rfl⟩ := hv
        have HX6 := Lib.hid hx6
        obtain ⟨n, hn⟩ : ∃ n, n = s.chs.length := ⟨_, rfl⟩
        rw [← hn] at h32 ⊢
        have HN := Lib.hid hn
        clear hm hlk hb6 hx6 hn
        go_wp2_with fail
        go_loopw [12] (fun iv wi => ∃ i : Nat, i ≤ n ∧ iv = .int .i64 i ∧ Below w6.heap.size w6 wi) (fun iv _ => n - (intOf iv).toNat)
        case atStart => exact ⟨0, Nat.zero_le _, rfl, Below.refl _ _⟩
        case round =>
          obtain ⟨i, hi, rfl, hbi⟩ := hrel
          rename World => wi
          have HBI := Lib.hid hbi
          clear hbi
          by_cases hin : i < n
          · obtain ⟨g, rfl, hgl, hg⟩ := HX6.out (by rw [← HN.out]; omega)
            obtain ⟨c, hc⟩ : ∃ c, s.chs[i]? = some c := ⟨_, List.getElem?_eq_getElem (by rw [← HN.out]; exact hin)⟩
            obtain ⟨v1, v2, c3, c4, hr1, hr2⟩ := hg i c hc
            obtain ⟨asl, ks, rfl, -, -⟩ := hr1.slice
            obtain ⟨ar, kr, rfl, -, -⟩ := hr2.slice
            have hii : (0 : Int) ≤ (i : Int) ∧ (i : Int) < (n : Int) := by omega
            have HC : Hid (∀ W : World, Below w6.heap.size w6 W → W.cell? ⟨g, i * 5 + 3, none⟩ = some (.slice asl c.sends.length ks) ∧ W.cell? ⟨g, i * 5 + 4, none⟩ = some (.slice ar c.recvs.length kr)) := Lib.hid fun W hW =>
              ⟨(hW.cell (p := ⟨g, i * 5 + 3, none⟩) hgl).trans c3, (hW.cell (p := ⟨g, i * 5 + 4, none⟩) hgl).trans c4⟩
            have HRW : Hid (∀ W : World, Below w6.heap.size w6 W → RowW W (.slice asl c.sends.length ks) c.sends ∧ RowW W (.slice ar c.recvs.length kr) c.recvs) := Lib.hid fun W hW =>
              ⟨hr1.keeps (Keeps.of_new (S := fun _ => False) hW) fun _ _ => id, hr2.keeps (Keeps.of_new (S := fun _ => False) hW) fun _ _ => id⟩
            have hrl := HROWS.out i c hc
            have HASK : Hid (∀ x ∈ c.sends ++ c.recvs, (s.asks x.1).isSome = true) := Lib.hid fun x hx => by
              rcases List.mem_append.1 hx with hx | hx
              · obtain ⟨l, _, h1, _⟩ := HP.out.1.sends i c hc x hx
                rw [h1]; rfl
              · obtain ⟨l, _, h1, _⟩ := HP.out.1.recvs i c hc x hx
                rw [h1]; rfl
            clear hg hr1 hr2 c3 c4 hc hgl
            go_upto_region 14 with fail
            refine wp_region_held_drew (S := (fun W : World => W.cell? ⟨g, i * 5 + 3, none⟩ = some (.slice asl c.sends.length ks) ∧ W.cell? ⟨g, i * 5 + 4, none⟩ = some (.slice ar c.recvs.length kr))) (by kernel_rfl) (HC.out _ (Below.drew HBI.out)) (fun hHeld => ?_)
            refine wpAnyH_take (i := 0) (oi := { dst := some 46, op := _, type := _, pos := _, after := _, guard := _ }) (v := .slice (some ⟨g, 0, none⟩) n cap) rfl (by kernel_rfl) (by kernel_rfl) (by kernel_rfl) (fun _ _ _ h => h) (Or.inl ⟨by rfl, ?_⟩) hHeld ?_
            · intro W9 hSW
              (try dsimp only at hSW)
              go_simp
            try simp only [Act.put, List.setIfInBounds_toArray, List.set_cons_zero, List.set_cons_succ]
            refine wpAnyH_take (i := 1) (oi := { dst := some 47, op := _, type := _, pos := _, after := _, guard := _ }) (v := .int .i64 (i : Nat)) rfl (by kernel_rfl) (by kernel_rfl) (by kernel_rfl) (fun _ _ _ h => h) (Or.inl ⟨by rfl, ?_⟩) hHeld ?_
            · intro W9 hSW
              (try dsimp only at hSW)
              go_simp
            try simp only [Act.put, List.setIfInBounds_toArray, List.set_cons_zero, List.set_cons_succ]
            refine wpAnyH_take (i := 2) (oi := { dst := some 48, op := _, type := _, pos := _, after := _, guard := _ }) (v := .pointer (some ⟨g, i * 5, none⟩)) rfl (by kernel_rfl) (by kernel_rfl) (by kernel_rfl) (fun _ _ _ h => h) (Or.inl ⟨by rfl, ?_⟩) hHeld ?_
            · intro W9 hSW
              (try dsimp only at hSW)
              go_simp
            try simp only [Act.put, List.setIfInBounds_toArray, List.set_cons_zero, List.set_cons_succ]
            refine wpAnyH_take (i := 3) (oi := { dst := some 49, op := _, type := _, pos := _, after := _, guard := _ }) (v := .pointer (some ⟨g, i * 5 + 3, none⟩)) rfl (by kernel_rfl) (by kernel_rfl) (by kernel_rfl) (fun _ _ _ h => h) (Or.inl ⟨by rfl, ?_⟩) hHeld ?_
            · intro W9 hSW
              (try dsimp only at hSW)
              go_simp
            try simp only [Act.put, List.setIfInBounds_toArray, List.set_cons_zero, List.set_cons_succ]
            refine wpAnyH_take (i := 4) (oi := { dst := some 50, op := _, type := _, pos := _, after := _, guard := _ }) (v := .slice asl c.sends.length ks) rfl (by kernel_rfl) (by kernel_rfl) (by kernel_rfl) (fun _ _ _ h => h) (Or.inl ⟨by rfl, ?_⟩) hHeld ?_
            · intro W9 hSW
              (try dsimp only at hSW)
              go_simp
            try simp only [Act.put, List.setIfInBounds_toArray, List.set_cons_zero, List.set_cons_succ]
            refine wpAnyH_take (i := 6) (oi := { dst := some 52, op := _, type := _, pos := _, after := _, guard := _ }) (v := .slice (some ⟨g, 0, none⟩) n cap) rfl (by kernel_rfl) (by kernel_rfl) (by kernel_rfl) (fun _ _ _ h => h) (Or.inl ⟨by rfl, ?_⟩) hHeld ?_
            · intro W9 hSW
              (try dsimp only at hSW)
              go_simp
            try simp only [Act.put, List.setIfInBounds_toArray, List.set_cons_zero, List.set_cons_succ]
            refine wpAnyH_take (i := 7) (oi := { dst := some 53, op := _, type := _, pos := _, after := _, guard := _ }) (v := .int .i64 (i : Nat)) rfl (by kernel_rfl) (by kernel_rfl) (by kernel_rfl) (fun _ _ _ h => h) (Or.inl ⟨by rfl, ?_⟩) hHeld ?_
            · intro W9 hSW
              (try dsimp only at hSW)
              go_simp
            try simp only [Act.put, List.setIfInBounds_toArray, List.set_cons_zero, List.set_cons_succ]
            refine wpAnyH_take (i := 8) (oi := { dst := some 54, op := _, type := _, pos := _, after := _, guard := _ }) (v := .pointer (some ⟨g, i * 5, none⟩)) rfl (by kernel_rfl) (by kernel_rfl) (by kernel_rfl) (fun _ _ _ h => h) (Or.inl ⟨by rfl, ?_⟩) hHeld ?_
            · intro W9 hSW
              (try dsimp only at hSW)
              go_simp
            try simp only [Act.put, List.setIfInBounds_toArray, List.set_cons_zero, List.set_cons_succ]
            refine wpAnyH_take (i := 9) (oi := { dst := some 55, op := _, type := _, pos := _, after := _, guard := _ }) (v := .pointer (some ⟨g, i * 5 + 4, none⟩)) rfl (by kernel_rfl) (by kernel_rfl) (by kernel_rfl) (fun _ _ _ h => h) (Or.inl ⟨by rfl, ?_⟩) hHeld ?_
            · intro W9 hSW
              (try dsimp only at hSW)
              go_simp
            try simp only [Act.put, List.setIfInBounds_toArray, List.set_cons_zero, List.set_cons_succ]
            refine wpAnyH_take (i := 10) (oi := { dst := some 56, op := _, type := _, pos := _, after := _, guard := _ }) (v := .slice ar c.recvs.length kr) rfl (by kernel_rfl) (by kernel_rfl) (by kernel_rfl) (fun _ _ _ h => h) (Or.inl ⟨by rfl, ?_⟩) hHeld ?_
            · intro W9 hSW
              (try dsimp only at hSW)
              go_simp
            try simp only [Act.put, List.setIfInBounds_toArray, List.set_cons_zero, List.set_cons_succ]
            refine wpAnyH_take (i := 13) (oi := { dst := some 59, op := _, type := _, pos := _, after := _, guard := _ }) (v := .int .i64 0) rfl (by kernel_rfl) (by kernel_rfl) (by kernel_rfl) (fun _ _ _ h => h) (Or.inl ⟨by rfl, ?_⟩) hHeld ?_
            · intro W9 hSW
              (try dsimp only at hSW)
              go_simp
            try simp only [Act.put, List.setIfInBounds_toArray, List.set_cons_zero, List.set_cons_succ]
            refine wpAnyH_ready (rs := [5]) (by kernel_rfl) (by simp) ?_
            refine AllReadyH.cons (o := { dst := some 51, op := _, type := _, pos := _, after := _, guard := _ }) rfl (fun K hK => ?_) AllReadyH.nil
            go_simp
            go_at_call 19
            refine (cloneW_any _ (HRW.out _ (Below.drew HBI.out)).1 (by omega)).mono ?_
            rintro e w8 ⟨u, rfl, ho8, hb8⟩
            obtain ⟨au, ku, hu⟩ := own_slice ho8
            subst hu
            have HB8 : Hid (Below w6.heap.size w6 w8) := Lib.hid (bel_step (Below.drew HBI.out) hb8)
            have HO8 := Lib.hid ho8
            have HSZ8 : Hid (wi.drew.heap.size ≤ w8.heap.size) := Lib.hid hb8.size
            have HSZ6 : Hid (w6.heap.size ≤ wi.drew.heap.size) := Lib.hid (Below.drew HBI.out).size
            have hg8 := HC.out w8 HB8.out
            clear ho8 hb8
            refine hK.out _ _ hg8 (fun hHeld => ?_)
            clear hK K hg8
            refine wpAnyH_ready (rs := [11]) (by kernel_rfl) (by simp) ?_
            refine AllReadyH.cons (o := { dst := some 57, op := _, type := _, pos := _, after := _, guard := _ }) rfl (fun K hK => ?_) AllReadyH.nil
            refine step_appendWs rfl (.tmp 51) (.tmp 56) rfl _ _ _ c.sends c.recvs HO8.out (HRW.out _ HB8.out).2 (by omega) HSZ8.out (by simp [Act.eval]) (by simp [Act.eval]) ?_
            intro a9 k9 w9 ho9 hk9
            have HO9 := Lib.hid ho9
            have HK9 := Lib.hid hk9
            have HB9 : Hid (Below w6.heap.size w6 w9) := Lib.hid (HB8.out.trans (HK9.out.below HB8.out.size fun b hb e => by have := (World.ownsRow.lt HO8.out b e).1; have := HSZ6.out; omega))
            have hg9 := HC.out w9 HB9.out
            clear ho9 hk9
            refine hK.out _ _ hg9 (fun hHeld => ?_)
            clear hK K hg9
            refine wpAnyH_take (i := 12) (oi := { dst := some 58, op := _, type := _, pos := _, after := _, guard := _ }) (v := .int .i64 ((c.sends ++ c.recvs).length : Nat)) rfl (by kernel_rfl) (by kernel_rfl) (by kernel_rfl) (fun _ _ _ h => h) (Or.inl ⟨by rfl, ?_⟩) hHeld ?_
            · intro W9 hSW
              (try dsimp only at hSW)
              go_simp
            try simp only [Act.put, List.setIfInBounds_toArray, List.set_cons_zero, List.set_cons_succ]
            refine wpAnyH_done (by kernel_rfl) ?_ _
            have HRD := Lib.hid (readW_of HO9.out)
            generalize hxs : c.sends ++ c.recvs = xs at *
            obtain ⟨m, hm⟩ : ∃ m, m = xs.length := ⟨_, rfl⟩
            have hml : m ≤ 12000000 := by rw [hm, ← hxs, List.length_append]; omega
            rw [← hm]
            have HM := Lib.hid hm
            clear hm hxs
            go_wp2_with fail
            go_loopw [59] (fun jv wa => ∃ j : Nat, j ≤ m ∧ jv = .int .i64 j ∧ Below w9.heap.size w9 wa) (fun jv _ => m - (intOf jv).toNat)
            case atStart => exact ⟨0, Nat.zero_le _, rfl, Below.refl _ _⟩
            case round =>
              obtain ⟨j, hj, rfl, hba⟩ := hrel
              rename World => wa
              have HBA := Lib.hid hba
              clear hba
              by_cases hjm : j < m
              · obtain ⟨⟨xt, xk⟩, hxj⟩ : ∃ x, xs[j]? = some x := ⟨_, List.getElem?_eq_getElem (by rw [← HM.out]; exact hjm)⟩
                have hav := HRD.out
                obtain ⟨ao9, cap9, hv9, hrd⟩ := hav
                rw [Value.slice.injEq] at hv9
                obtain ⟨rfl, -, rfl⟩ := hv9
                obtain ⟨gj, rfl, hgj, hcj⟩ := hrd (by rw [← HM.out]; omega)
                obtain ⟨q1, q2⟩ := hcj j _ hxj
                have r1 := (HBA.out.cell (p := ⟨gj, j * 2, none⟩) hgj).trans q1
                have r2 := (HBA.out.cell (p := ⟨gj, j * 2 + 1, none⟩) hgj).trans q2
                have hak := HASK.out _ (List.mem_of_getElem? hxj)
                have HBZ : Hid (Below w6.heap.size w6 (wa.alloc (.cells #[.int .i64 xt, .int .i64 (xk : Nat)] 58))) := Lib.hid ((HB9.out.trans (HBA.out.mono HB9.out.size)).alloc (Nat.le_trans HB9.out.size HBA.out.size) _)
                have HJZ := Lib.hid (HJ6.out.new (Keeps.of_new HBZ.out))
                have hlk := HJZ.out.look (x := xt) hak (HSW.out _ hak)
                have hx7 := HX0.out _ HJZ.out.keep
                have hji : (0 : Int) ≤ (j : Int) ∧ (j : Int) < (m : Int) := by omega
                have HBN : Hid (Below w9.heap.size w9 (wa.alloc (.cells #[.int .i64 xt, .int .i64 (xk : Nat)] 58))) := Lib.hid (HBA.out.alloc HBA.out.size _)
                clear hrd hcj q1 q2 hxj hak hgj
                simp only at r1 r2 hlk
                go_wp2_with fail
                go_roundw
                case rel => exact ⟨j + 1, by omega, by go_num, HBN.out⟩
                case measure => simp [intOf]; omega
              · obtain rfl : j = m := by omega
                have hjj : ¬ (j : Int) < (j : Int) := by omega
                go_wp2_with fail
                go_roundw
                case rel => exact ⟨i + 1, by omega, by go_num, HB9.out.trans (HBA.out.mono HB9.out.size)⟩
                case measure => simp [intOf]; omega
          · obtain rfl : i = n := by omega
            have hnn : ¬ (i : Int) < (i : Int) := by omega
            go_wp2_with fail
            go_ret
            exact ⟨by first | rfl | simp, HJ6.out.new (Keeps.of_new HBI.out)⟩
end Go.Proofs.Ytpehmghnfbkaaaa
