/-
  The walk of the law VerifyMore: each for itself.
-/
import Derived.Test.YtlfcfaceeloedaaDoorVerClone
import Derived.Test.YtlfcfaceeloedaaDoorLate
namespace Go.Proofs.YtlfcfaceeloedaaDoor
open Go.RowKit Go.Shelf Cd Ve

/-- What is told of a program is told of it with a function more. -/
theorem more_like {p q : Pg} {l l' : List (List Sd)} (hg : q.globals = p.globals) {f : FnV} (hq : q.fns = p.fns ++ [f]) (h : LookOk p l) (h' : LookOk q l') : l'.length = l.length + 1 ∧ l'.take l.length = l := by
  obtain ⟨h1, h2⟩ := h.bounds
  obtain ⟨h3, h4⟩ := h'.bounds
  rw [hq, List.length_append] at h3
  refine ⟨by rw [h3, h1]; rfl, ?_⟩
  have hne : p.fns ≠ [] := fun e => by have := h.head; unfold headB at this; rw [e] at this; cases this
  have hs : SigLe p q := ⟨hg, hne, fun j g hj => ⟨g, by rw [hq, List.getElem?_append_left (List.getElem?_eq_some_iff.1 hj).1]; exact hj, rfl, rfl, rfl⟩⟩
  apply List.ext_getElem?
  intro j
  rw [List.getElem?_take]
  split
  · rename_i hj
    have hj2 : j < p.fns.length := by omega
    obtain ⟨r1, r2, _⟩ := h2 j _ (List.getElem?_eq_getElem hj2)
    obtain ⟨_, r4, _⟩ := h4 j p.fns[j] (by rw [hq, List.getElem?_append_left hj2]; exact List.getElem?_eq_getElem hj2)
    rw [r2, r4, fn_like (D := fun _ => False) hs (pgR_k h.right) (fnR_k (h.right.each _ (List.getElem_mem hj2))) (Like.refl _) r1 (fun _ e => e.elim) (fun _ _ _ _ _ _ _ e => e)]
  · rename_i hj
    rw [List.getElem?_eq_none (by omega)]
/-- The first so many of what is told. -/
theorem TellsAt.take {w : World} {ao : Option Addr} {n cap : Nat} {l : List (List Sh)} (h : TellsAt w (.slice ao n cap) l) (k : Nat) (hk : k ≤ l.length) : TellsAt w (.slice ao k cap) (l.take k) := by
  obtain ⟨_, _, _, e, hn, hc, hm, hx⟩ := h
  cases e
  refine ⟨ao, k, cap, rfl, by rw [List.length_take]; omega, by omega, hm, fun i ss hi => ?_⟩
  rw [List.getElem?_take] at hi
  split at hi
  · exact hx i ss hi
  · cases hi

set_option maxRecDepth 100000 in
set_option maxHeartbeats 25600000 in
theorem verifyMore_any (p : Pg) (gl : Int) (vf : Value) (f : FnV) (pa : Int) (vl : Value) (ki : Int) (vc : Value) (w : World) (hp : ProgAt w (.agg #[.int .i64 gl, vf]) p) (hf0 : pa = f.params) (hf1 : ki = f.kind) (hf2 : IntsAt w vl f.locals) (hf3 : InsAt w vc f.code) (hE : ErrT w) :
    Calls Tryd.prog 5 #[.agg #[.int .i64 gl, vf], .agg #[.int .i64 pa, vl, .int .i64 ki, vc]] w fun e w' => e = .returned (.bool true) ∧ Below w.heap.size w w' := by
  have HP := Lib.hid hp
  obtain ⟨_, e0, ao, n, cap, hvf, hn, hnc, hcm, -⟩ := hp
  obtain rfl : vf = .slice ao n cap := by rw [← hvf]; exact agg2_snd e0
  have hgl : gl = p.globals := by
    injection e0 with e0
    injection e0 with e0
    injection e0 with e0 _
    injection e0
  clear e0 hvf
  unfold maxLen at hcm
  have HGL := Lib.hid hgl
  have HL2 := Lib.hid hf2
  have HC2 := Lib.hid hf3
  obtain ⟨a1, n1, d1, rfl, hn1, hnc1, hcm1, -⟩ := hf2
  obtain ⟨a2, n2, d2, rfl, hn2, hnc2, hcm2, -⟩ := hf3
  unfold maxLen at hcm1 hcm2
  have HFF : Hid (pa = f.params ∧ ki = f.kind ∧ n1 = f.locals.length ∧ n2 = f.code.length) := Lib.hid ⟨hf0, hf1, hn1, hn2⟩
  obtain ⟨W1, hW1⟩ : ∃ W1, W1 = (w.alloc (.cells #[.int .i64 gl, .slice ao n cap] 24)).alloc (.cells #[.int .i64 pa, .slice a1 n1 d1, .int .i64 ki, .slice a2 n2 d2] 47) := ⟨_, rfl⟩
  have hb1 : Below w.heap.size w W1 := by rw [hW1]; exact ((Below.refl _ w).alloc (Nat.le_refl _) _).alloc (by simp) _
  have hx1 := (BlkO.new w #[.int .i64 gl, .slice ao n cap] 24).keeps ((Keeps.refl (fun _ : Nat => False) _).alloc (.cells #[.int .i64 pa, .slice a1 n1 d1, .int .i64 ki, .slice a2 n2 d2] 47)) id
  have hx2 := BlkO.new (w.alloc (.cells #[.int .i64 gl, .slice ao n cap] 24)) #[.int .i64 pa, .slice a1 n1 d1, .int .i64 ki, .slice a2 n2 d2] 47
  rw [show (w.alloc (.cells #[.int .i64 gl, .slice ao n cap] 24)).heap.size = w.heap.size + 1 by simp] at hx2
  rw [← hW1] at hx1 hx2
  obtain ⟨pb, hpb⟩ : ∃ pb, pb = w.heap.size := ⟨_, rfl⟩
  obtain ⟨fb, hfb⟩ : ∃ fb, fb = w.heap.size + 1 := ⟨_, rfl⟩
  rw [← hpb] at hx1
  rw [← hfb] at hx2
  have HX1 := Lib.hid hx1
  have HX2 := Lib.hid hx2
  have HB1 := Lib.hid hb1
  have HFT := Lib.hid (fitted_any W1 (hE.below hb1 (block_lt_of_cell hE)))
  have HN := Lib.hid hn
  clear hgl hn hb1 hx1 hx2 hE hf0 hf1 hn1 hn2
  go_enter Tryd.func5, Tryd.ntmps5
  go_upto_region 1 with fail
  rw [← hW1, ← hfb, ← hpb]
  clear hW1 hpb hfb
  go_wp2_with fail
  refine HFT.out.mono ?_
  rintro e w1 ⟨rfl, hb1⟩
  have HB1' := Lib.hid (HB1.out.trans (hb1.mono HB1.out.size))
  have HX1' := Lib.hid (HX1.out.below hb1)
  have HX2' := Lib.hid (HX2.out.below hb1)
  have HBG := Lib.hid (big_any p _ w1 (HP.out.below HB1'.out))
  have p0 := HX1'.out.at_ 0 _ rfl
  have p1 := HX1'.out.at_ 1 _ rfl
  clear hb1 HFT HX1 HX2 HB1
  go_wp2_with fail
  refine HBG.out.mono ?_
  rintro e w2 ⟨rfl, hb2⟩
  have HB2 := Lib.hid (HB1'.out.trans (hb2.mono HB1'.out.size))
  have HY1 := Lib.hid (HX1'.out.below hb2)
  have HY2 := Lib.hid (HX2'.out.below hb2)
  clear hb2 HBG p0 p1
  have p0 := HY1.out.at_ 0 _ rfl
  have p1 := HY1.out.at_ 1 _ rfl
  have q1 := HY2.out.at_ 1 _ rfl
  have q3 := HY2.out.at_ 3 _ rfl
  cases hbg : bigB p with
  | true =>
    go_wp2_with fail
    go_ret
    exact ⟨rfl, HB2.out⟩
  | false =>
    have HSML := Lib.hid (big_no hbg)
    clear hbg
    by_cases h120 : 120 < n2
    · have h120i : (120 : Int) < (n2 : Int) := by omega
      go_wp2_with fail
      go_ret
      exact ⟨rfl, HB2.out⟩
    have h120i : ¬ (120 : Int) < (n2 : Int) := by omega
    by_cases h14 : 14 < n1
    · have h14i : (14 : Int) < (n1 : Int) := by omega
      go_wp2_with fail
      go_ret
      exact ⟨rfl, HB2.out⟩
    have h14i : ¬ (14 : Int) < (n1 : Int) := by omega
    have HSH := Lib.hid (shapes_any p _ w2 (HP.out.below HB2.out))
    go_wp2_with fail
    refine HSH.out.mono ?_
    rintro e w3 ⟨hs, hb3⟩
    have HB3 := Lib.hid (HB2.out.trans (hb3.mono HB2.out.size))
    have HZ1 := Lib.hid (HY1.out.below hb3)
    have HZ2 := Lib.hid (HY2.out.below hb3)
    clear hb3 HSH p0 p1 q1 q3 h120 h120i h14 h14i HX1' HX2' HB1'
    cases ha : lookA p with
    | err m =>
      rw [ha] at hs
      subst hs
      have hm : m ≠ 0 := look_err ha
      rw [errV_nz hm]
      clear ha hm
      go_wp2_with fail
      go_ret
      exact ⟨rfl, HB3.out⟩
    | at_ m place =>
      rw [ha] at hs
      obtain ⟨b, rfl, -⟩ := hs
      clear ha
      go_wp2_with fail
      go_ret
      exact ⟨rfl, HB3.out⟩
    | ok l =>
      rw [ha] at hs
      obtain ⟨v, rfl, htl⟩ := hs
      have HTL := Lib.hid htl
      obtain ⟨a5, n5, c5, rfl, hn5, hnc5, hcm5, -⟩ := htl
      unfold maxLen at hcm5
      rw [List.length_map] at hn5
      have HLK := Lib.hid (look_ok ha)
      have HN5 : Hid (n5 = l.length ∧ l.length = n) := Lib.hid ⟨hn5, by rw [HLK.out.bounds.1, ← HN.out]⟩
      have hn12 : n ≤ 12 := by have := HLK.out.right.fns; have := HN.out; omega
      have hn0 : 0 < n := by
        have h1 := HLK.out.head
        have h2 := HN.out
        unfold headB at h1
        cases hfs : p.fns with
        | nil => rw [hfs] at h1; cases h1
        | cons f r => rw [h2, hfs]; exact Nat.succ_pos _
      clear ha hn5
      obtain ⟨b, o, rfl, hbo⟩ : ∃ b o, ao = some ⟨b, o, none⟩ ∧ True := by
        obtain ⟨_, e, _, _, _, h2, _, _, _, hx⟩ := HP.out
        have := agg2_snd e
        rw [← this] at h2
        cases h2
        obtain ⟨b, o, h, _⟩ := hx hn0
        exact ⟨b, o, h, trivial⟩
      clear hbo
      have HFN : Hid (FnsAt w3 (.slice (some ⟨b, o, none⟩) n cap) p.fns) := Lib.hid (by
        obtain ⟨_, e, h⟩ := HP.out.below HB3.out
        have := agg2_snd e
        subst this
        exact h)
      obtain ⟨gs, hgs1, hgs2, hgs3⟩ := HFN.out.fxs
      obtain ⟨b', o', e', hgs4⟩ := hgs3 hn0
      cases e'
      have HGN : Hid (n ≤ 1000000 ∧ gs.length = n) := Lib.hid ⟨by omega, by have := congrArg List.length hgs1; rw [List.length_map] at this; rw [this, ← HN.out]⟩
      have HGM := Lib.hid hgs1
      have HGS3 := Lib.hid hgs2
      have HGC3 : Hid (∀ V, Keeps (fun _ => False) w3 V → ∃ b' o', some (⟨b, o, none⟩ : Addr) = some ⟨b', o', none⟩ ∧ ∀ k u, (fxsC gs)[k]? = some u → V.cell? ⟨b', o' + k, none⟩ = some u) := Lib.hid fun V hV => ⟨b, o, rfl, fun k u hk => hV.cell_of (hgs4 k u hk) id⟩
      have HSC3 : Hid (∀ V, Keeps (fun _ => False) w3 V → V.cell? ⟨pb, 0, none⟩ = some (.int .i64 gl) ∧ V.cell? ⟨pb, 1, none⟩ = some (.slice (some ⟨b, o, none⟩) n cap) ∧ V.cell? ⟨fb, 0, none⟩ = some (.int .i64 pa) ∧ V.cell? ⟨fb, 1, none⟩ = some (.slice a1 n1 d1) ∧ V.cell? ⟨fb, 2, none⟩ = some (.int .i64 ki) ∧ V.cell? ⟨fb, 3, none⟩ = some (.slice a2 n2 d2)) := Lib.hid fun V hV =>
        ⟨(HZ1.out.keeps hV id).at_ 0 _ rfl, (HZ1.out.keeps hV id).at_ 1 _ rfl, (HZ2.out.keeps hV id).at_ 0 _ rfl, (HZ2.out.keeps hV id).at_ 1 _ rfl, (HZ2.out.keeps hV id).at_ 2 _ rfl, (HZ2.out.keeps hV id).at_ 3 _ rfl⟩
      obtain ⟨fx, hfx⟩ : ∃ fx : Fx, fx = (f, .slice a1 n1 d1, .slice a2 n2 d2) := ⟨_, rfl⟩
      have HFX : Hid (fx.1 = f ∧ FxAt w3 fx) := Lib.hid (by rw [hfx]; exact ⟨rfl, HL2.out.below HB3.out, HC2.out.below HB3.out⟩)
      have HFXC : Hid ([.int .i64 pa, .slice a1 n1 d1, .int .i64 ki, .slice a2 n2 d2] = fxC fx) := Lib.hid (by rw [hfx, HFF.out.1, HFF.out.2.1]; rfl)
      have HFXO : Hid (∀ u ∈ fxC fx, u.oneCell' = true) := Lib.hid HFX.out.2.one
      clear hgs1 hgs2 hgs3 hgs4 hfx
      go_upto_region 8 with fail
      go_cut [7] from 32 to 40 (fun v7 wx => ∃ qb aq cq, v7 = .pointer (some ⟨qb, 0, none⟩) ∧ NewP w3 wx qb n gl aq cq gs fx)
      case first =>
        skip
        refine wp_region_late (S := (fun W : World => W.cell? ⟨pb, 0, none⟩ = some (.int .i64 gl) ∧ W.cell? ⟨pb, 1, none⟩ = some (.slice (some ⟨b, o, none⟩) n cap) ∧ W.cell? ⟨fb, 0, none⟩ = some (.int .i64 pa) ∧ W.cell? ⟨fb, 1, none⟩ = some (.slice a1 n1 d1) ∧ W.cell? ⟨fb, 2, none⟩ = some (.int .i64 ki) ∧ W.cell? ⟨fb, 3, none⟩ = some (.slice a2 n2 d2))) (T := [10]) (by kernel_rfl) ?_
        have hHeld := HSC3.out _ ((Keeps.refl (fun _ : Nat => False) w3).drew)
        have HK30 : Hid (Keeps (fun _ => False) w3 w3.drew ∧ w3.drew.heap.size = w3.heap.size) := Lib.hid ⟨(Keeps.refl _ w3).drew, rfl⟩
        generalize w3.drew = W0 at *
        have HSC := Lib.hid fun V (hV : Keeps (fun _ => False) W0 V) => HSC3.out V (HK30.out.1.trans hV)
        have HGS := Lib.hid fun g hg => (HGS3.out g hg).below (HK30.out.1.below (Nat.le_refl _) fun _ _ e => e.elim)
        have HGC := Lib.hid fun V (hV : Keeps (fun _ => False) W0 V) => HGC3.out V (HK30.out.1.trans hV)
        have HS : Hid (Keeps (fun _ => False) W0 W0) := Lib.hid (Keeps.refl _ _)
        refine late_take0 (i := 0) (oi := { dst := some 32, op := _, type := _, pos := _, after := _, guard := _ }) (v := .pointer (some ⟨pb, 0, none⟩)) rfl (by kernel_rfl) (by kernel_rfl) (by kernel_rfl) (fun _ _ _ h => h) (Or.inl ⟨by rfl, ?_⟩) ?_
        · intro W9 hSW
          (try dsimp only at hSW)
          go_simp
        try simp only [Act.put, List.setIfInBounds_toArray, List.set_cons_zero, List.set_cons_succ]
        refine late_take (i := 1) (oi := { dst := some 33, op := _, type := _, pos := _, after := _, guard := _ }) (v := .int .i64 gl) rfl (by kernel_rfl) (by kernel_rfl) (by kernel_rfl) (by kernel_rfl) (fun _ _ _ h => h) (Or.inl ⟨by rfl, ?_⟩) hHeld ?_
        · intro W9 hSW
          (try dsimp only at hSW)
          obtain ⟨hS0, hS1, hS2, hS3, hS4, hS5⟩ := hSW
          go_simp
        try simp only [Act.put, List.setIfInBounds_toArray, List.set_cons_zero, List.set_cons_succ]
        refine late_take0 (i := 2) (oi := { dst := some 34, op := _, type := _, pos := _, after := _, guard := _ }) (v := .pointer (some ⟨pb, 1, none⟩)) rfl (by kernel_rfl) (by kernel_rfl) (by kernel_rfl) (fun _ _ _ h => h) (Or.inl ⟨by rfl, ?_⟩) ?_
        · intro W9 hSW
          (try dsimp only at hSW)
          go_simp
        try simp only [Act.put, List.setIfInBounds_toArray, List.set_cons_zero, List.set_cons_succ]
        refine late_take (i := 3) (oi := { dst := some 35, op := _, type := _, pos := _, after := _, guard := _ }) (v := .slice (some ⟨b, o, none⟩) n cap) rfl (by kernel_rfl) (by kernel_rfl) (by kernel_rfl) (by kernel_rfl) (fun _ _ _ h => h) (Or.inl ⟨by rfl, ?_⟩) hHeld ?_
        · intro W9 hSW
          (try dsimp only at hSW)
          obtain ⟨hS0, hS1, hS2, hS3, hS4, hS5⟩ := hSW
          go_simp
        try simp only [Act.put, List.setIfInBounds_toArray, List.set_cons_zero, List.set_cons_succ]
        refine late_take (i := 5) (oi := { dst := some 37, op := _, type := _, pos := _, after := _, guard := _ }) (v := .agg #[.int .i64 pa, .slice a1 n1 d1, .int .i64 ki, .slice a2 n2 d2]) rfl (by kernel_rfl) (by kernel_rfl) (by kernel_rfl) (by kernel_rfl) (fun _ _ _ h => h) (Or.inl ⟨by rfl, ?_⟩) hHeld ?_
        · intro W9 hSW
          (try dsimp only at hSW)
          obtain ⟨hS0, hS1, hS2, hS3, hS4, hS5⟩ := hSW
          go_simp
        try simp only [Act.put, List.setIfInBounds_toArray, List.set_cons_zero, List.set_cons_succ]
        clear hHeld
        refine late_ready (rs := [4, 6, 9]) (by kernel_rfl) (by simp) ?_
        refine LateAll.cons (o := { dst := some 36, op := _, type := _, pos := _, after := _, guard := _ }) rfl (fun K hK => ?_) ?_
        · skip
          go_simp
          refine (cloneF_any (some ⟨b, o, none⟩) n cap gs W0 HGN.out.1 HGN.out.2 (fun g hg => (HGS.out g hg).below (HS.out.below (Nat.le_refl _) fun _ _ e => e.elim)) (HGC.out _ HS.out)).mono ?_
          rintro e V0 ⟨ac, cc, rfl, hoc, hbc⟩
          have hkc : Keeps (fun _ => False) W0 V0 := Keeps.of_new hbc
          have hlow : W0.heap.size ≤ W0.heap.size := HS.out.size
          have HS := Lib.hid (HS.out.trans hkc)
          have HC := Lib.hid (own_mono hoc hlow)
          clear hoc hbc hkc hlow
          refine hK.out _ _ (fun _ => HSC.out _ HS.out) ?_
          clear hK K
          try simp only [Act.put, List.setIfInBounds_toArray, List.set_cons_zero, List.set_cons_succ]
          refine late_ready (rs := [6, 9]) (by kernel_rfl) (by simp) ?_
          refine LateAll.cons (o := { dst := some 38, op := _, type := _, pos := _, after := _, guard := _ }) rfl (fun K hK => ?_) ?_
          · skip
            go_simp
            have hkc : Keeps (fun _ => False) V0 (V0.alloc (.cells #[.int .i64 pa, .slice a1 n1 d1, .int .i64 ki, .slice a2 n2 d2] 47)) := (Keeps.refl _ _).alloc _
            have hbd := BlkO.new V0 #[.int .i64 pa, .slice a1 n1 d1, .int .i64 ki, .slice a2 n2 d2] 47
            have HS := Lib.hid (HS.out.trans hkc)
            have HC := Lib.hid ((hkc).row HC.out fun _ _ => id)
            obtain ⟨bb, hbb⟩ : ∃ bb, bb = V0.heap.size := ⟨_, rfl⟩
            rw [← hbb] at hbd ⊢
            have HBd := Lib.hid hbd
            clear hbd hkc hbb
            generalize V0.alloc (.cells #[.int .i64 pa, .slice a1 n1 d1, .int .i64 ki, .slice a2 n2 d2] 47) = V1 at *
            refine hK.out _ _ (fun _ => HSC.out _ HS.out) ?_
            clear hK K
            try simp only [Act.put, List.setIfInBounds_toArray, List.set_cons_zero, List.set_cons_succ]
            refine late_ready (rs := [7, 9]) (by kernel_rfl) (by simp) ?_
            refine LateAll.cons (o := { dst := some 39, op := _, type := _, pos := _, after := _, guard := _ }) rfl (fun K hK => ?_) ?_
            · skip
              have hcn : ∀ (j : Nat) u, (fxC fx)[j]? = some u → V1.cell? ⟨bb, j, none⟩ = some u := fun j u hj => HBd.out.at_ j u (by rw [← HFXC.out] at hj; exact hj)
              have hone := HFXO.out
              have hsz : W0.heap.size ≤ V1.heap.size := HS.out.size
              refine step_append2 rfl (.tmp 36) (.tmp 38) 22 47 (.agg #[.int .i64 0, .slice none 0 0, .int .i64 0, .slice none 0 0]) 4 64 rfl Tryd.underlying22 info_fn rfl (by decide) (by decide) _ _ _ _ (fxC fx) _ 1 HC.out HGN.out.1 rfl hcn hone hsz (by simp [Act.eval]) (by simp [Act.eval]) ?_
              intro aq cq V2 hoq hkq hnq
              have hown := fun c (hc : (Value.slice ac n cc).ownBlock = some c) => World.ownsRow.lt HC.out c hc
              have HS := Lib.hid (HS.out.trans' hkq fun c hc e => by have := (hown c e).1; omega)
              have HA := Lib.hid hoq
              clear hoq hkq hnq hown hcn hone hsz
              refine hK.out _ _ (fun _ => HSC.out _ HS.out) ?_
              clear hK K
              try simp only [Act.put, List.setIfInBounds_toArray, List.set_cons_zero, List.set_cons_succ]
              refine late_take0 (i := 8) (oi := { dst := some 40, op := _, type := _, pos := _, after := _, guard := _ }) (v := .agg #[.int .i64 gl, .slice aq (n + 1) cq]) rfl (by kernel_rfl) (by kernel_rfl) (by kernel_rfl) (fun _ _ _ h => h) (Or.inl ⟨by rfl, ?_⟩) ?_
              · intro W9 hSW
                (try dsimp only at hSW)
                go_simp
              try simp only [Act.put, List.setIfInBounds_toArray, List.set_cons_zero, List.set_cons_succ]
              refine late_ready (rs := [9]) (by kernel_rfl) (by simp) ?_
              refine LateAll.cons (o := { dst := some 7, op := _, type := _, pos := _, after := _, guard := _ }) rfl (fun K hK => ?_) ?_
              · skip
                go_simp
                have hkc : Keeps (fun _ => False) V2 (V2.alloc (.cells #[.int .i64 0, .slice none 0 0] 24)) := (Keeps.refl _ _).alloc _
                have hld := BlkO.new V2 #[.int .i64 0, .slice none 0 0] 24
                obtain ⟨qb, hqb⟩ : ∃ qb, qb = V2.heap.size := ⟨_, rfl⟩
                have HQW : Hid (W0.heap.size ≤ qb) := Lib.hid (by rw [hqb]; exact HS.out.size)
                have HXA : Hid (∀ c, (Value.slice aq (n + 1) cq).ownBlock = some c → c ≠ qb) := Lib.hid fun c hc => by have h1 := (World.ownsRow.lt HA.out c hc).2; omega
                have HS := Lib.hid (HS.out.trans hkc)
                have HA := Lib.hid ((hkc).row HA.out fun _ _ => id)
                rw [← hqb] at hld ⊢
                have HLd := Lib.hid hld
                clear hld hkc hqb
                generalize V2.alloc (.cells #[.int .i64 0, .slice none 0 0] 24) = V3 at *
                refine hK.out _ _ (fun _ => HSC.out _ HS.out) ?_
                clear hK K
                try simp only [Act.put, List.setIfInBounds_toArray, List.set_cons_zero, List.set_cons_succ]
                have y0 := HLd.out.at_ 0 _ rfl
                have y1 := HLd.out.at_ 1 _ rfl
                have z0 := HLd.out.free 0
                have z1 := HLd.out.free 1
                refine late_ready (rs := [10]) (by kernel_rfl) (by simp) ?_
                refine LateAll.cons (o := { dst := none, op := _, type := _, pos := _, after := _, guard := _ }) rfl (fun K hK => ?_) LateAll.nil
                go_simp
                refine hK.out _ _ (fun h => absurd (show (10 : Nat) ∈ [10] by decide) h) ?_
                clear hK K
                refine late_done (by kernel_rfl) ?_ _
                go_wp2_with fail
                go_meet
                exact newP_end HK30.out.1 HK30.out.2 HS.out HA.out HLd.out HXA.out HQW.out
              exact LateAll.nil
            refine LateAll.cons (o := { dst := some 7, op := _, type := _, pos := _, after := _, guard := _ }) rfl (fun K hK => ?_) ?_
            · skip
              go_simp
              have hkc : Keeps (fun _ => False) V1 (V1.alloc (.cells #[.int .i64 0, .slice none 0 0] 24)) := (Keeps.refl _ _).alloc _
              have hld := BlkO.new V1 #[.int .i64 0, .slice none 0 0] 24
              obtain ⟨qb, hqb⟩ : ∃ qb, qb = V1.heap.size := ⟨_, rfl⟩
              have HQW : Hid (W0.heap.size ≤ qb) := Lib.hid (by rw [hqb]; exact HS.out.size)
              have HXA : Hid (∀ c, (Value.slice ac n cc).ownBlock = some c → c ≠ qb) := Lib.hid fun c hc => by have h1 := (World.ownsRow.lt HC.out c hc).2; omega
              have HS := Lib.hid (HS.out.trans hkc)
              have HC := Lib.hid ((hkc).row HC.out fun _ _ => id)
              have HBd := Lib.hid (HBd.out.keeps hkc id)
              rw [← hqb] at hld ⊢
              have HLd := Lib.hid hld
              clear hld hkc hqb
              generalize V1.alloc (.cells #[.int .i64 0, .slice none 0 0] 24) = V4 at *
              refine hK.out _ _ (fun _ => HSC.out _ HS.out) ?_
              clear hK K
              try simp only [Act.put, List.setIfInBounds_toArray, List.set_cons_zero, List.set_cons_succ]
              refine late_ready (rs := [7]) (by kernel_rfl) (by simp) ?_
              refine LateAll.cons (o := { dst := some 39, op := _, type := _, pos := _, after := _, guard := _ }) rfl (fun K hK => ?_) ?_
              · skip
                have hcn : ∀ (j : Nat) u, (fxC fx)[j]? = some u → V4.cell? ⟨bb, j, none⟩ = some u := fun j u hj => HBd.out.at_ j u (by rw [← HFXC.out] at hj; exact hj)
                have hone := HFXO.out
                have hsz : W0.heap.size ≤ V4.heap.size := HS.out.size
                refine step_append2 rfl (.tmp 36) (.tmp 38) 22 47 (.agg #[.int .i64 0, .slice none 0 0, .int .i64 0, .slice none 0 0]) 4 64 rfl Tryd.underlying22 info_fn rfl (by decide) (by decide) _ _ _ _ (fxC fx) _ 1 HC.out HGN.out.1 rfl hcn hone hsz (by simp [Act.eval]) (by simp [Act.eval]) ?_
                intro aq cq V5 hoq hkq hnq
                have hown := fun c (hc : (Value.slice ac n cc).ownBlock = some c) => World.ownsRow.lt HC.out c hc
                have hqlt := HLd.out.lt
                have HLd := Lib.hid (HLd.out.keeps hkq (fun e => HXA.out _ e rfl))
                have HXA : Hid (∀ c, (Value.slice aq (n + 1) cq).ownBlock = some c → c ≠ qb) := Lib.hid fun c hc => by
                  rcases hnq c hc with h1 | h1
                  · exact HXA.out c h1
                  · omega
                clear hqlt
                have HS := Lib.hid (HS.out.trans' hkq fun c hc e => by have := (hown c e).1; omega)
                have HA := Lib.hid hoq
                clear hoq hkq hnq hown hcn hone hsz
                refine hK.out _ _ (fun _ => HSC.out _ HS.out) ?_
                clear hK K
                try simp only [Act.put, List.setIfInBounds_toArray, List.set_cons_zero, List.set_cons_succ]
                refine late_take0 (i := 8) (oi := { dst := some 40, op := _, type := _, pos := _, after := _, guard := _ }) (v := .agg #[.int .i64 gl, .slice aq (n + 1) cq]) rfl (by kernel_rfl) (by kernel_rfl) (by kernel_rfl) (fun _ _ _ h => h) (Or.inl ⟨by rfl, ?_⟩) ?_
                · intro W9 hSW
                  (try dsimp only at hSW)
                  go_simp
                try simp only [Act.put, List.setIfInBounds_toArray, List.set_cons_zero, List.set_cons_succ]
                have y0 := HLd.out.at_ 0 _ rfl
                have y1 := HLd.out.at_ 1 _ rfl
                have z0 := HLd.out.free 0
                have z1 := HLd.out.free 1
                refine late_ready (rs := [10]) (by kernel_rfl) (by simp) ?_
                refine LateAll.cons (o := { dst := none, op := _, type := _, pos := _, after := _, guard := _ }) rfl (fun K hK => ?_) LateAll.nil
                go_simp
                refine hK.out _ _ (fun h => absurd (show (10 : Nat) ∈ [10] by decide) h) ?_
                clear hK K
                refine late_done (by kernel_rfl) ?_ _
                go_wp2_with fail
                go_meet
                exact newP_end HK30.out.1 HK30.out.2 HS.out HA.out HLd.out HXA.out HQW.out
              exact LateAll.nil
            exact LateAll.nil
          refine LateAll.cons (o := { dst := some 7, op := _, type := _, pos := _, after := _, guard := _ }) rfl (fun K hK => ?_) ?_
          · skip
            go_simp
            have hkc : Keeps (fun _ => False) V0 (V0.alloc (.cells #[.int .i64 0, .slice none 0 0] 24)) := (Keeps.refl _ _).alloc _
            have hld := BlkO.new V0 #[.int .i64 0, .slice none 0 0] 24
            obtain ⟨qb, hqb⟩ : ∃ qb, qb = V0.heap.size := ⟨_, rfl⟩
            have HQW : Hid (W0.heap.size ≤ qb) := Lib.hid (by rw [hqb]; exact HS.out.size)
            have HXA : Hid (∀ c, (Value.slice ac n cc).ownBlock = some c → c ≠ qb) := Lib.hid fun c hc => by have h1 := (World.ownsRow.lt HC.out c hc).2; omega
            have HS := Lib.hid (HS.out.trans hkc)
            have HC := Lib.hid ((hkc).row HC.out fun _ _ => id)
            rw [← hqb] at hld ⊢
            have HLd := Lib.hid hld
            clear hld hkc hqb
            generalize V0.alloc (.cells #[.int .i64 0, .slice none 0 0] 24) = V6 at *
            refine hK.out _ _ (fun _ => HSC.out _ HS.out) ?_
            clear hK K
            try simp only [Act.put, List.setIfInBounds_toArray, List.set_cons_zero, List.set_cons_succ]
            refine late_ready (rs := [6]) (by kernel_rfl) (by simp) ?_
            refine LateAll.cons (o := { dst := some 38, op := _, type := _, pos := _, after := _, guard := _ }) rfl (fun K hK => ?_) ?_
            · skip
              go_simp
              have hkc : Keeps (fun _ => False) V6 (V6.alloc (.cells #[.int .i64 pa, .slice a1 n1 d1, .int .i64 ki, .slice a2 n2 d2] 47)) := (Keeps.refl _ _).alloc _
              have hbd := BlkO.new V6 #[.int .i64 pa, .slice a1 n1 d1, .int .i64 ki, .slice a2 n2 d2] 47
              have HS := Lib.hid (HS.out.trans hkc)
              have HC := Lib.hid ((hkc).row HC.out fun _ _ => id)
              have HLd := Lib.hid (HLd.out.keeps hkc id)
              obtain ⟨bb, hbb⟩ : ∃ bb, bb = V6.heap.size := ⟨_, rfl⟩
              rw [← hbb] at hbd ⊢
              have HBd := Lib.hid hbd
              clear hbd hkc hbb
              generalize V6.alloc (.cells #[.int .i64 pa, .slice a1 n1 d1, .int .i64 ki, .slice a2 n2 d2] 47) = V7 at *
              refine hK.out _ _ (fun _ => HSC.out _ HS.out) ?_
              clear hK K
              try simp only [Act.put, List.setIfInBounds_toArray, List.set_cons_zero, List.set_cons_succ]
              refine late_ready (rs := [7]) (by kernel_rfl) (by simp) ?_
              refine LateAll.cons (o := { dst := some 39, op := _, type := _, pos := _, after := _, guard := _ }) rfl (fun K hK => ?_) ?_
              · skip
                have hcn : ∀ (j : Nat) u, (fxC fx)[j]? = some u → V7.cell? ⟨bb, j, none⟩ = some u := fun j u hj => HBd.out.at_ j u (by rw [← HFXC.out] at hj; exact hj)
                have hone := HFXO.out
                have hsz : W0.heap.size ≤ V7.heap.size := HS.out.size
                refine step_append2 rfl (.tmp 36) (.tmp 38) 22 47 (.agg #[.int .i64 0, .slice none 0 0, .int .i64 0, .slice none 0 0]) 4 64 rfl Tryd.underlying22 info_fn rfl (by decide) (by decide) _ _ _ _ (fxC fx) _ 1 HC.out HGN.out.1 rfl hcn hone hsz (by simp [Act.eval]) (by simp [Act.eval]) ?_
                intro aq cq V8 hoq hkq hnq
                have hown := fun c (hc : (Value.slice ac n cc).ownBlock = some c) => World.ownsRow.lt HC.out c hc
                have hqlt := HLd.out.lt
                have HLd := Lib.hid (HLd.out.keeps hkq (fun e => HXA.out _ e rfl))
                have HXA : Hid (∀ c, (Value.slice aq (n + 1) cq).ownBlock = some c → c ≠ qb) := Lib.hid fun c hc => by
                  rcases hnq c hc with h1 | h1
                  · exact HXA.out c h1
                  · omega
                clear hqlt
                have HS := Lib.hid (HS.out.trans' hkq fun c hc e => by have := (hown c e).1; omega)
                have HA := Lib.hid hoq
                clear hoq hkq hnq hown hcn hone hsz
                refine hK.out _ _ (fun _ => HSC.out _ HS.out) ?_
                clear hK K
                try simp only [Act.put, List.setIfInBounds_toArray, List.set_cons_zero, List.set_cons_succ]
                refine late_take0 (i := 8) (oi := { dst := some 40, op := _, type := _, pos := _, after := _, guard := _ }) (v := .agg #[.int .i64 gl, .slice aq (n + 1) cq]) rfl (by kernel_rfl) (by kernel_rfl) (by kernel_rfl) (fun _ _ _ h => h) (Or.inl ⟨by rfl, ?_⟩) ?_
                · intro W9 hSW
                  (try dsimp only at hSW)
                  go_simp
                try simp only [Act.put, List.setIfInBounds_toArray, List.set_cons_zero, List.set_cons_succ]
                have y0 := HLd.out.at_ 0 _ rfl
                have y1 := HLd.out.at_ 1 _ rfl
                have z0 := HLd.out.free 0
                have z1 := HLd.out.free 1
                refine late_ready (rs := [10]) (by kernel_rfl) (by simp) ?_
                refine LateAll.cons (o := { dst := none, op := _, type := _, pos := _, after := _, guard := _ }) rfl (fun K hK => ?_) LateAll.nil
                go_simp
                refine hK.out _ _ (fun h => absurd (show (10 : Nat) ∈ [10] by decide) h) ?_
                clear hK K
                refine late_done (by kernel_rfl) ?_ _
                go_wp2_with fail
                go_meet
                exact newP_end HK30.out.1 HK30.out.2 HS.out HA.out HLd.out HXA.out HQW.out
              exact LateAll.nil
            exact LateAll.nil
          exact LateAll.nil
        refine LateAll.cons (o := { dst := some 38, op := _, type := _, pos := _, after := _, guard := _ }) rfl (fun K hK => ?_) ?_
        · skip
          go_simp
          have hkc : Keeps (fun _ => False) W0 (W0.alloc (.cells #[.int .i64 pa, .slice a1 n1 d1, .int .i64 ki, .slice a2 n2 d2] 47)) := (Keeps.refl _ _).alloc _
          have hbd := BlkO.new W0 #[.int .i64 pa, .slice a1 n1 d1, .int .i64 ki, .slice a2 n2 d2] 47
          have HS := Lib.hid (HS.out.trans hkc)
          obtain ⟨bb, hbb⟩ : ∃ bb, bb = W0.heap.size := ⟨_, rfl⟩
          rw [← hbb] at hbd ⊢
          have HBd := Lib.hid hbd
          clear hbd hkc hbb
          generalize W0.alloc (.cells #[.int .i64 pa, .slice a1 n1 d1, .int .i64 ki, .slice a2 n2 d2] 47) = V9 at *
          refine hK.out _ _ (fun _ => HSC.out _ HS.out) ?_
          clear hK K
          try simp only [Act.put, List.setIfInBounds_toArray, List.set_cons_zero, List.set_cons_succ]
          refine late_ready (rs := [4, 9]) (by kernel_rfl) (by simp) ?_
          refine LateAll.cons (o := { dst := some 36, op := _, type := _, pos := _, after := _, guard := _ }) rfl (fun K hK => ?_) ?_
          · skip
            go_simp
            refine (cloneF_any (some ⟨b, o, none⟩) n cap gs V9 HGN.out.1 HGN.out.2 (fun g hg => (HGS.out g hg).below (HS.out.below (Nat.le_refl _) fun _ _ e => e.elim)) (HGC.out _ HS.out)).mono ?_
            rintro e V10 ⟨ac, cc, rfl, hoc, hbc⟩
            have hkc : Keeps (fun _ => False) V9 V10 := Keeps.of_new hbc
            have hlow : W0.heap.size ≤ V9.heap.size := HS.out.size
            have HS := Lib.hid (HS.out.trans hkc)
            have HBd := Lib.hid (HBd.out.keeps hkc id)
            have HC := Lib.hid (own_mono hoc hlow)
            clear hoc hbc hkc hlow
            refine hK.out _ _ (fun _ => HSC.out _ HS.out) ?_
            clear hK K
            try simp only [Act.put, List.setIfInBounds_toArray, List.set_cons_zero, List.set_cons_succ]
            refine late_ready (rs := [7, 9]) (by kernel_rfl) (by simp) ?_
            refine LateAll.cons (o := { dst := some 39, op := _, type := _, pos := _, after := _, guard := _ }) rfl (fun K hK => ?_) ?_
            · skip
              have hcn : ∀ (j : Nat) u, (fxC fx)[j]? = some u → V10.cell? ⟨bb, j, none⟩ = some u := fun j u hj => HBd.out.at_ j u (by rw [← HFXC.out] at hj; exact hj)
              have hone := HFXO.out
              have hsz : W0.heap.size ≤ V10.heap.size := HS.out.size
              refine step_append2 rfl (.tmp 36) (.tmp 38) 22 47 (.agg #[.int .i64 0, .slice none 0 0, .int .i64 0, .slice none 0 0]) 4 64 rfl Tryd.underlying22 info_fn rfl (by decide) (by decide) _ _ _ _ (fxC fx) _ 1 HC.out HGN.out.1 rfl hcn hone hsz (by simp [Act.eval]) (by simp [Act.eval]) ?_
              intro aq cq V11 hoq hkq hnq
              have hown := fun c (hc : (Value.slice ac n cc).ownBlock = some c) => World.ownsRow.lt HC.out c hc
              have HS := Lib.hid (HS.out.trans' hkq fun c hc e => by have := (hown c e).1; omega)
              have HA := Lib.hid hoq
              clear hoq hkq hnq hown hcn hone hsz
              refine hK.out _ _ (fun _ => HSC.out _ HS.out) ?_
              clear hK K
              try simp only [Act.put, List.setIfInBounds_toArray, List.set_cons_zero, List.set_cons_succ]
              refine late_take0 (i := 8) (oi := { dst := some 40, op := _, type := _, pos := _, after := _, guard := _ }) (v := .agg #[.int .i64 gl, .slice aq (n + 1) cq]) rfl (by kernel_rfl) (by kernel_rfl) (by kernel_rfl) (fun _ _ _ h => h) (Or.inl ⟨by rfl, ?_⟩) ?_
              · intro W9 hSW
                (try dsimp only at hSW)
                go_simp
              try simp only [Act.put, List.setIfInBounds_toArray, List.set_cons_zero, List.set_cons_succ]
              refine late_ready (rs := [9]) (by kernel_rfl) (by simp) ?_
              refine LateAll.cons (o := { dst := some 7, op := _, type := _, pos := _, after := _, guard := _ }) rfl (fun K hK => ?_) ?_
              · skip
                go_simp
                have hkc : Keeps (fun _ => False) V11 (V11.alloc (.cells #[.int .i64 0, .slice none 0 0] 24)) := (Keeps.refl _ _).alloc _
                have hld := BlkO.new V11 #[.int .i64 0, .slice none 0 0] 24
                obtain ⟨qb, hqb⟩ : ∃ qb, qb = V11.heap.size := ⟨_, rfl⟩
                have HQW : Hid (W0.heap.size ≤ qb) := Lib.hid (by rw [hqb]; exact HS.out.size)
                have HXA : Hid (∀ c, (Value.slice aq (n + 1) cq).ownBlock = some c → c ≠ qb) := Lib.hid fun c hc => by have h1 := (World.ownsRow.lt HA.out c hc).2; omega
                have HS := Lib.hid (HS.out.trans hkc)
                have HA := Lib.hid ((hkc).row HA.out fun _ _ => id)
                rw [← hqb] at hld ⊢
                have HLd := Lib.hid hld
                clear hld hkc hqb
                generalize V11.alloc (.cells #[.int .i64 0, .slice none 0 0] 24) = V12 at *
                refine hK.out _ _ (fun _ => HSC.out _ HS.out) ?_
                clear hK K
                try simp only [Act.put, List.setIfInBounds_toArray, List.set_cons_zero, List.set_cons_succ]
                have y0 := HLd.out.at_ 0 _ rfl
                have y1 := HLd.out.at_ 1 _ rfl
                have z0 := HLd.out.free 0
                have z1 := HLd.out.free 1
                refine late_ready (rs := [10]) (by kernel_rfl) (by simp) ?_
                refine LateAll.cons (o := { dst := none, op := _, type := _, pos := _, after := _, guard := _ }) rfl (fun K hK => ?_) LateAll.nil
                go_simp
                refine hK.out _ _ (fun h => absurd (show (10 : Nat) ∈ [10] by decide) h) ?_
                clear hK K
                refine late_done (by kernel_rfl) ?_ _
                go_wp2_with fail
                go_meet
                exact newP_end HK30.out.1 HK30.out.2 HS.out HA.out HLd.out HXA.out HQW.out
              exact LateAll.nil
            refine LateAll.cons (o := { dst := some 7, op := _, type := _, pos := _, after := _, guard := _ }) rfl (fun K hK => ?_) ?_
            · skip
              go_simp
              have hkc : Keeps (fun _ => False) V10 (V10.alloc (.cells #[.int .i64 0, .slice none 0 0] 24)) := (Keeps.refl _ _).alloc _
              have hld := BlkO.new V10 #[.int .i64 0, .slice none 0 0] 24
              obtain ⟨qb, hqb⟩ : ∃ qb, qb = V10.heap.size := ⟨_, rfl⟩
              have HQW : Hid (W0.heap.size ≤ qb) := Lib.hid (by rw [hqb]; exact HS.out.size)
              have HXA : Hid (∀ c, (Value.slice ac n cc).ownBlock = some c → c ≠ qb) := Lib.hid fun c hc => by have h1 := (World.ownsRow.lt HC.out c hc).2; omega
              have HS := Lib.hid (HS.out.trans hkc)
              have HC := Lib.hid ((hkc).row HC.out fun _ _ => id)
              have HBd := Lib.hid (HBd.out.keeps hkc id)
              rw [← hqb] at hld ⊢
              have HLd := Lib.hid hld
              clear hld hkc hqb
              generalize V10.alloc (.cells #[.int .i64 0, .slice none 0 0] 24) = V13 at *
              refine hK.out _ _ (fun _ => HSC.out _ HS.out) ?_
              clear hK K
              try simp only [Act.put, List.setIfInBounds_toArray, List.set_cons_zero, List.set_cons_succ]
              refine late_ready (rs := [7]) (by kernel_rfl) (by simp) ?_
              refine LateAll.cons (o := { dst := some 39, op := _, type := _, pos := _, after := _, guard := _ }) rfl (fun K hK => ?_) ?_
              · skip
                have hcn : ∀ (j : Nat) u, (fxC fx)[j]? = some u → V13.cell? ⟨bb, j, none⟩ = some u := fun j u hj => HBd.out.at_ j u (by rw [← HFXC.out] at hj; exact hj)
                have hone := HFXO.out
                have hsz : W0.heap.size ≤ V13.heap.size := HS.out.size
                refine step_append2 rfl (.tmp 36) (.tmp 38) 22 47 (.agg #[.int .i64 0, .slice none 0 0, .int .i64 0, .slice none 0 0]) 4 64 rfl Tryd.underlying22 info_fn rfl (by decide) (by decide) _ _ _ _ (fxC fx) _ 1 HC.out HGN.out.1 rfl hcn hone hsz (by simp [Act.eval]) (by simp [Act.eval]) ?_
                intro aq cq V14 hoq hkq hnq
                have hown := fun c (hc : (Value.slice ac n cc).ownBlock = some c) => World.ownsRow.lt HC.out c hc
                have hqlt := HLd.out.lt
                have HLd := Lib.hid (HLd.out.keeps hkq (fun e => HXA.out _ e rfl))
                have HXA : Hid (∀ c, (Value.slice aq (n + 1) cq).ownBlock = some c → c ≠ qb) := Lib.hid fun c hc => by
                  rcases hnq c hc with h1 | h1
                  · exact HXA.out c h1
                  · omega
                clear hqlt
                have HS := Lib.hid (HS.out.trans' hkq fun c hc e => by have := (hown c e).1; omega)
                have HA := Lib.hid hoq
                clear hoq hkq hnq hown hcn hone hsz
                refine hK.out _ _ (fun _ => HSC.out _ HS.out) ?_
                clear hK K
                try simp only [Act.put, List.setIfInBounds_toArray, List.set_cons_zero, List.set_cons_succ]
                refine late_take0 (i := 8) (oi := { dst := some 40, op := _, type := _, pos := _, after := _, guard := _ }) (v := .agg #[.int .i64 gl, .slice aq (n + 1) cq]) rfl (by kernel_rfl) (by kernel_rfl) (by kernel_rfl) (fun _ _ _ h => h) (Or.inl ⟨by rfl, ?_⟩) ?_
                · intro W9 hSW
                  (try dsimp only at hSW)
                  go_simp
                try simp only [Act.put, List.setIfInBounds_toArray, List.set_cons_zero, List.set_cons_succ]
                have y0 := HLd.out.at_ 0 _ rfl
                have y1 := HLd.out.at_ 1 _ rfl
                have z0 := HLd.out.free 0
                have z1 := HLd.out.free 1
                refine late_ready (rs := [10]) (by kernel_rfl) (by simp) ?_
                refine LateAll.cons (o := { dst := none, op := _, type := _, pos := _, after := _, guard := _ }) rfl (fun K hK => ?_) LateAll.nil
                go_simp
                refine hK.out _ _ (fun h => absurd (show (10 : Nat) ∈ [10] by decide) h) ?_
                clear hK K
                refine late_done (by kernel_rfl) ?_ _
                go_wp2_with fail
                go_meet
                exact newP_end HK30.out.1 HK30.out.2 HS.out HA.out HLd.out HXA.out HQW.out
              exact LateAll.nil
            exact LateAll.nil
          refine LateAll.cons (o := { dst := some 7, op := _, type := _, pos := _, after := _, guard := _ }) rfl (fun K hK => ?_) ?_
          · skip
            go_simp
            have hkc : Keeps (fun _ => False) V9 (V9.alloc (.cells #[.int .i64 0, .slice none 0 0] 24)) := (Keeps.refl _ _).alloc _
            have hld := BlkO.new V9 #[.int .i64 0, .slice none 0 0] 24
            obtain ⟨qb, hqb⟩ : ∃ qb, qb = V9.heap.size := ⟨_, rfl⟩
            have HQW : Hid (W0.heap.size ≤ qb) := Lib.hid (by rw [hqb]; exact HS.out.size)
            have HS := Lib.hid (HS.out.trans hkc)
            have HBd := Lib.hid (HBd.out.keeps hkc id)
            rw [← hqb] at hld ⊢
            have HLd := Lib.hid hld
            clear hld hkc hqb
            generalize V9.alloc (.cells #[.int .i64 0, .slice none 0 0] 24) = V15 at *
            refine hK.out _ _ (fun _ => HSC.out _ HS.out) ?_
            clear hK K
            try simp only [Act.put, List.setIfInBounds_toArray, List.set_cons_zero, List.set_cons_succ]
            refine late_ready (rs := [4]) (by kernel_rfl) (by simp) ?_
            refine LateAll.cons (o := { dst := some 36, op := _, type := _, pos := _, after := _, guard := _ }) rfl (fun K hK => ?_) ?_
            · skip
              go_simp
              refine (cloneF_any (some ⟨b, o, none⟩) n cap gs V15 HGN.out.1 HGN.out.2 (fun g hg => (HGS.out g hg).below (HS.out.below (Nat.le_refl _) fun _ _ e => e.elim)) (HGC.out _ HS.out)).mono ?_
              rintro e V16 ⟨ac, cc, rfl, hoc, hbc⟩
              have hkc : Keeps (fun _ => False) V15 V16 := Keeps.of_new hbc
              have HXA : Hid (∀ c, (Value.slice ac n cc).ownBlock = some c → c ≠ qb) := Lib.hid fun c hc => by have h1 := (World.ownsRow.lt hoc c hc).1; have h2 := HLd.out.lt; omega
              have hlow : W0.heap.size ≤ V15.heap.size := HS.out.size
              have HS := Lib.hid (HS.out.trans hkc)
              have HBd := Lib.hid (HBd.out.keeps hkc id)
              have HLd := Lib.hid (HLd.out.keeps hkc id)
              have HC := Lib.hid (own_mono hoc hlow)
              clear hoc hbc hkc hlow
              refine hK.out _ _ (fun _ => HSC.out _ HS.out) ?_
              clear hK K
              try simp only [Act.put, List.setIfInBounds_toArray, List.set_cons_zero, List.set_cons_succ]
              refine late_ready (rs := [7]) (by kernel_rfl) (by simp) ?_
              refine LateAll.cons (o := { dst := some 39, op := _, type := _, pos := _, after := _, guard := _ }) rfl (fun K hK => ?_) ?_
              · skip
                have hcn : ∀ (j : Nat) u, (fxC fx)[j]? = some u → V16.cell? ⟨bb, j, none⟩ = some u := fun j u hj => HBd.out.at_ j u (by rw [← HFXC.out] at hj; exact hj)
                have hone := HFXO.out
                have hsz : W0.heap.size ≤ V16.heap.size := HS.out.size
                refine step_append2 rfl (.tmp 36) (.tmp 38) 22 47 (.agg #[.int .i64 0, .slice none 0 0, .int .i64 0, .slice none 0 0]) 4 64 rfl Tryd.underlying22 info_fn rfl (by decide) (by decide) _ _ _ _ (fxC fx) _ 1 HC.out HGN.out.1 rfl hcn hone hsz (by simp [Act.eval]) (by simp [Act.eval]) ?_
                intro aq cq V17 hoq hkq hnq
                have hown := fun c (hc : (Value.slice ac n cc).ownBlock = some c) => World.ownsRow.lt HC.out c hc
                have hqlt := HLd.out.lt
                have HLd := Lib.hid (HLd.out.keeps hkq (fun e => HXA.out _ e rfl))
                have HXA : Hid (∀ c, (Value.slice aq (n + 1) cq).ownBlock = some c → c ≠ qb) := Lib.hid fun c hc => by
                  rcases hnq c hc with h1 | h1
                  · exact HXA.out c h1
                  · omega
                clear hqlt
                have HS := Lib.hid (HS.out.trans' hkq fun c hc e => by have := (hown c e).1; omega)
                have HA := Lib.hid hoq
                clear hoq hkq hnq hown hcn hone hsz
                refine hK.out _ _ (fun _ => HSC.out _ HS.out) ?_
                clear hK K
                try simp only [Act.put, List.setIfInBounds_toArray, List.set_cons_zero, List.set_cons_succ]
                refine late_take0 (i := 8) (oi := { dst := some 40, op := _, type := _, pos := _, after := _, guard := _ }) (v := .agg #[.int .i64 gl, .slice aq (n + 1) cq]) rfl (by kernel_rfl) (by kernel_rfl) (by kernel_rfl) (fun _ _ _ h => h) (Or.inl ⟨by rfl, ?_⟩) ?_
                · intro W9 hSW
                  (try dsimp only at hSW)
                  go_simp
                try simp only [Act.put, List.setIfInBounds_toArray, List.set_cons_zero, List.set_cons_succ]
                have y0 := HLd.out.at_ 0 _ rfl
                have y1 := HLd.out.at_ 1 _ rfl
                have z0 := HLd.out.free 0
                have z1 := HLd.out.free 1
                refine late_ready (rs := [10]) (by kernel_rfl) (by simp) ?_
                refine LateAll.cons (o := { dst := none, op := _, type := _, pos := _, after := _, guard := _ }) rfl (fun K hK => ?_) LateAll.nil
                go_simp
                refine hK.out _ _ (fun h => absurd (show (10 : Nat) ∈ [10] by decide) h) ?_
                clear hK K
                refine late_done (by kernel_rfl) ?_ _
                go_wp2_with fail
                go_meet
                exact newP_end HK30.out.1 HK30.out.2 HS.out HA.out HLd.out HXA.out HQW.out
              exact LateAll.nil
            exact LateAll.nil
          exact LateAll.nil
        refine LateAll.cons (o := { dst := some 7, op := _, type := _, pos := _, after := _, guard := _ }) rfl (fun K hK => ?_) ?_
        · skip
          go_simp
          have hkc : Keeps (fun _ => False) W0 (W0.alloc (.cells #[.int .i64 0, .slice none 0 0] 24)) := (Keeps.refl _ _).alloc _
          have hld := BlkO.new W0 #[.int .i64 0, .slice none 0 0] 24
          obtain ⟨qb, hqb⟩ : ∃ qb, qb = W0.heap.size := ⟨_, rfl⟩
          have HQW : Hid (W0.heap.size ≤ qb) := Lib.hid (by rw [hqb]; exact HS.out.size)
          have HS := Lib.hid (HS.out.trans hkc)
          rw [← hqb] at hld ⊢
          have HLd := Lib.hid hld
          clear hld hkc hqb
          generalize W0.alloc (.cells #[.int .i64 0, .slice none 0 0] 24) = V18 at *
          refine hK.out _ _ (fun _ => HSC.out _ HS.out) ?_
          clear hK K
          try simp only [Act.put, List.setIfInBounds_toArray, List.set_cons_zero, List.set_cons_succ]
          refine late_ready (rs := [4, 6]) (by kernel_rfl) (by simp) ?_
          refine LateAll.cons (o := { dst := some 36, op := _, type := _, pos := _, after := _, guard := _ }) rfl (fun K hK => ?_) ?_
          · skip
            go_simp
            refine (cloneF_any (some ⟨b, o, none⟩) n cap gs V18 HGN.out.1 HGN.out.2 (fun g hg => (HGS.out g hg).below (HS.out.below (Nat.le_refl _) fun _ _ e => e.elim)) (HGC.out _ HS.out)).mono ?_
            rintro e V19 ⟨ac, cc, rfl, hoc, hbc⟩
            have hkc : Keeps (fun _ => False) V18 V19 := Keeps.of_new hbc
            have HXA : Hid (∀ c, (Value.slice ac n cc).ownBlock = some c → c ≠ qb) := Lib.hid fun c hc => by have h1 := (World.ownsRow.lt hoc c hc).1; have h2 := HLd.out.lt; omega
            have hlow : W0.heap.size ≤ V18.heap.size := HS.out.size
            have HS := Lib.hid (HS.out.trans hkc)
            have HLd := Lib.hid (HLd.out.keeps hkc id)
            have HC := Lib.hid (own_mono hoc hlow)
            clear hoc hbc hkc hlow
            refine hK.out _ _ (fun _ => HSC.out _ HS.out) ?_
            clear hK K
            try simp only [Act.put, List.setIfInBounds_toArray, List.set_cons_zero, List.set_cons_succ]
            refine late_ready (rs := [6]) (by kernel_rfl) (by simp) ?_
            refine LateAll.cons (o := { dst := some 38, op := _, type := _, pos := _, after := _, guard := _ }) rfl (fun K hK => ?_) ?_
            · skip
              go_simp
              have hkc : Keeps (fun _ => False) V19 (V19.alloc (.cells #[.int .i64 pa, .slice a1 n1 d1, .int .i64 ki, .slice a2 n2 d2] 47)) := (Keeps.refl _ _).alloc _
              have hbd := BlkO.new V19 #[.int .i64 pa, .slice a1 n1 d1, .int .i64 ki, .slice a2 n2 d2] 47
              have HS := Lib.hid (HS.out.trans hkc)
              have HC := Lib.hid ((hkc).row HC.out fun _ _ => id)
              have HLd := Lib.hid (HLd.out.keeps hkc id)
              obtain ⟨bb, hbb⟩ : ∃ bb, bb = V19.heap.size := ⟨_, rfl⟩
              rw [← hbb] at hbd ⊢
              have HBd := Lib.hid hbd
              clear hbd hkc hbb
              generalize V19.alloc (.cells #[.int .i64 pa, .slice a1 n1 d1, .int .i64 ki, .slice a2 n2 d2] 47) = V20 at *
              refine hK.out _ _ (fun _ => HSC.out _ HS.out) ?_
              clear hK K
              try simp only [Act.put, List.setIfInBounds_toArray, List.set_cons_zero, List.set_cons_succ]
              refine late_ready (rs := [7]) (by kernel_rfl) (by simp) ?_
              refine LateAll.cons (o := { dst := some 39, op := _, type := _, pos := _, after := _, guard := _ }) rfl (fun K hK => ?_) ?_
              · skip
                have hcn : ∀ (j : Nat) u, (fxC fx)[j]? = some u → V20.cell? ⟨bb, j, none⟩ = some u := fun j u hj => HBd.out.at_ j u (by rw [← HFXC.out] at hj; exact hj)
                have hone := HFXO.out
                have hsz : W0.heap.size ≤ V20.heap.size := HS.out.size
                refine step_append2 rfl (.tmp 36) (.tmp 38) 22 47 (.agg #[.int .i64 0, .slice none 0 0, .int .i64 0, .slice none 0 0]) 4 64 rfl Tryd.underlying22 info_fn rfl (by decide) (by decide) _ _ _ _ (fxC fx) _ 1 HC.out HGN.out.1 rfl hcn hone hsz (by simp [Act.eval]) (by simp [Act.eval]) ?_
                intro aq cq V21 hoq hkq hnq
                have hown := fun c (hc : (Value.slice ac n cc).ownBlock = some c) => World.ownsRow.lt HC.out c hc
                have hqlt := HLd.out.lt
                have HLd := Lib.hid (HLd.out.keeps hkq (fun e => HXA.out _ e rfl))
                have HXA : Hid (∀ c, (Value.slice aq (n + 1) cq).ownBlock = some c → c ≠ qb) := Lib.hid fun c hc => by
                  rcases hnq c hc with h1 | h1
                  · exact HXA.out c h1
                  · omega
                clear hqlt
                have HS := Lib.hid (HS.out.trans' hkq fun c hc e => by have := (hown c e).1; omega)
                have HA := Lib.hid hoq
                clear hoq hkq hnq hown hcn hone hsz
                refine hK.out _ _ (fun _ => HSC.out _ HS.out) ?_
                clear hK K
                try simp only [Act.put, List.setIfInBounds_toArray, List.set_cons_zero, List.set_cons_succ]
                refine late_take0 (i := 8) (oi := { dst := some 40, op := _, type := _, pos := _, after := _, guard := _ }) (v := .agg #[.int .i64 gl, .slice aq (n + 1) cq]) rfl (by kernel_rfl) (by kernel_rfl) (by kernel_rfl) (fun _ _ _ h => h) (Or.inl ⟨by rfl, ?_⟩) ?_
                · intro W9 hSW
                  (try dsimp only at hSW)
                  go_simp
                try simp only [Act.put, List.setIfInBounds_toArray, List.set_cons_zero, List.set_cons_succ]
                have y0 := HLd.out.at_ 0 _ rfl
                have y1 := HLd.out.at_ 1 _ rfl
                have z0 := HLd.out.free 0
                have z1 := HLd.out.free 1
                refine late_ready (rs := [10]) (by kernel_rfl) (by simp) ?_
                refine LateAll.cons (o := { dst := none, op := _, type := _, pos := _, after := _, guard := _ }) rfl (fun K hK => ?_) LateAll.nil
                go_simp
                refine hK.out _ _ (fun h => absurd (show (10 : Nat) ∈ [10] by decide) h) ?_
                clear hK K
                refine late_done (by kernel_rfl) ?_ _
                go_wp2_with fail
                go_meet
                exact newP_end HK30.out.1 HK30.out.2 HS.out HA.out HLd.out HXA.out HQW.out
              exact LateAll.nil
            exact LateAll.nil
          refine LateAll.cons (o := { dst := some 38, op := _, type := _, pos := _, after := _, guard := _ }) rfl (fun K hK => ?_) ?_
          · skip
            go_simp
            have hkc : Keeps (fun _ => False) V18 (V18.alloc (.cells #[.int .i64 pa, .slice a1 n1 d1, .int .i64 ki, .slice a2 n2 d2] 47)) := (Keeps.refl _ _).alloc _
            have hbd := BlkO.new V18 #[.int .i64 pa, .slice a1 n1 d1, .int .i64 ki, .slice a2 n2 d2] 47
            have HS := Lib.hid (HS.out.trans hkc)
            have HLd := Lib.hid (HLd.out.keeps hkc id)
            obtain ⟨bb, hbb⟩ : ∃ bb, bb = V18.heap.size := ⟨_, rfl⟩
            rw [← hbb] at hbd ⊢
            have HBd := Lib.hid hbd
            clear hbd hkc hbb
            generalize V18.alloc (.cells #[.int .i64 pa, .slice a1 n1 d1, .int .i64 ki, .slice a2 n2 d2] 47) = V22 at *
            refine hK.out _ _ (fun _ => HSC.out _ HS.out) ?_
            clear hK K
            try simp only [Act.put, List.setIfInBounds_toArray, List.set_cons_zero, List.set_cons_succ]
            refine late_ready (rs := [4]) (by kernel_rfl) (by simp) ?_
            refine LateAll.cons (o := { dst := some 36, op := _, type := _, pos := _, after := _, guard := _ }) rfl (fun K hK => ?_) ?_
            · skip
              go_simp
              refine (cloneF_any (some ⟨b, o, none⟩) n cap gs V22 HGN.out.1 HGN.out.2 (fun g hg => (HGS.out g hg).below (HS.out.below (Nat.le_refl _) fun _ _ e => e.elim)) (HGC.out _ HS.out)).mono ?_
              rintro e V23 ⟨ac, cc, rfl, hoc, hbc⟩
              have hkc : Keeps (fun _ => False) V22 V23 := Keeps.of_new hbc
              have HXA : Hid (∀ c, (Value.slice ac n cc).ownBlock = some c → c ≠ qb) := Lib.hid fun c hc => by have h1 := (World.ownsRow.lt hoc c hc).1; have h2 := HLd.out.lt; omega
              have hlow : W0.heap.size ≤ V22.heap.size := HS.out.size
              have HS := Lib.hid (HS.out.trans hkc)
              have HBd := Lib.hid (HBd.out.keeps hkc id)
              have HLd := Lib.hid (HLd.out.keeps hkc id)
              have HC := Lib.hid (own_mono hoc hlow)
              clear hoc hbc hkc hlow
              refine hK.out _ _ (fun _ => HSC.out _ HS.out) ?_
              clear hK K
              try simp only [Act.put, List.setIfInBounds_toArray, List.set_cons_zero, List.set_cons_succ]
              refine late_ready (rs := [7]) (by kernel_rfl) (by simp) ?_
              refine LateAll.cons (o := { dst := some 39, op := _, type := _, pos := _, after := _, guard := _ }) rfl (fun K hK => ?_) ?_
              · skip
                have hcn : ∀ (j : Nat) u, (fxC fx)[j]? = some u → V23.cell? ⟨bb, j, none⟩ = some u := fun j u hj => HBd.out.at_ j u (by rw [← HFXC.out] at hj; exact hj)
                have hone := HFXO.out
                have hsz : W0.heap.size ≤ V23.heap.size := HS.out.size
                refine step_append2 rfl (.tmp 36) (.tmp 38) 22 47 (.agg #[.int .i64 0, .slice none 0 0, .int .i64 0, .slice none 0 0]) 4 64 rfl Tryd.underlying22 info_fn rfl (by decide) (by decide) _ _ _ _ (fxC fx) _ 1 HC.out HGN.out.1 rfl hcn hone hsz (by simp [Act.eval]) (by simp [Act.eval]) ?_
                intro aq cq V24 hoq hkq hnq
                have hown := fun c (hc : (Value.slice ac n cc).ownBlock = some c) => World.ownsRow.lt HC.out c hc
                have hqlt := HLd.out.lt
                have HLd := Lib.hid (HLd.out.keeps hkq (fun e => HXA.out _ e rfl))
                have HXA : Hid (∀ c, (Value.slice aq (n + 1) cq).ownBlock = some c → c ≠ qb) := Lib.hid fun c hc => by
                  rcases hnq c hc with h1 | h1
                  · exact HXA.out c h1
                  · omega
                clear hqlt
                have HS := Lib.hid (HS.out.trans' hkq fun c hc e => by have := (hown c e).1; omega)
                have HA := Lib.hid hoq
                clear hoq hkq hnq hown hcn hone hsz
                refine hK.out _ _ (fun _ => HSC.out _ HS.out) ?_
                clear hK K
                try simp only [Act.put, List.setIfInBounds_toArray, List.set_cons_zero, List.set_cons_succ]
                refine late_take0 (i := 8) (oi := { dst := some 40, op := _, type := _, pos := _, after := _, guard := _ }) (v := .agg #[.int .i64 gl, .slice aq (n + 1) cq]) rfl (by kernel_rfl) (by kernel_rfl) (by kernel_rfl) (fun _ _ _ h => h) (Or.inl ⟨by rfl, ?_⟩) ?_
                · intro W9 hSW
                  (try dsimp only at hSW)
                  go_simp
                try simp only [Act.put, List.setIfInBounds_toArray, List.set_cons_zero, List.set_cons_succ]
                have y0 := HLd.out.at_ 0 _ rfl
                have y1 := HLd.out.at_ 1 _ rfl
                have z0 := HLd.out.free 0
                have z1 := HLd.out.free 1
                refine late_ready (rs := [10]) (by kernel_rfl) (by simp) ?_
                refine LateAll.cons (o := { dst := none, op := _, type := _, pos := _, after := _, guard := _ }) rfl (fun K hK => ?_) LateAll.nil
                go_simp
                refine hK.out _ _ (fun h => absurd (show (10 : Nat) ∈ [10] by decide) h) ?_
                clear hK K
                refine late_done (by kernel_rfl) ?_ _
                go_wp2_with fail
                go_meet
                exact newP_end HK30.out.1 HK30.out.2 HS.out HA.out HLd.out HXA.out HQW.out
              exact LateAll.nil
            exact LateAll.nil
          exact LateAll.nil
        exact LateAll.nil
      case rest =>
        rename World => w4
        obtain ⟨qb, aq, cq, rfl, hnp⟩ := hcut
        obtain ⟨q, hq⟩ : ∃ q : Pg, q = ⟨p.globals, p.fns ++ [f]⟩ := ⟨_, rfl⟩
        have hb4 : Below w3.heap.size w3 w4 := hnp.keep.below (Nat.le_refl _) fun _ _ e => e.elim
        have HB4 := Lib.hid hb4
        have HQ : Hid (ProgAt w4 (.agg #[.int .i64 gl, .slice aq (n + 1) cq]) q) := Lib.hid (by
          rw [hq]
          refine ⟨_, by rw [HGL.out], ?_⟩
          have h := hnp.row
          have e : fxsC gs ++ fxC fx = fxsC (gs ++ [fx]) := by unfold fxsC; rw [List.flatMap_append]; simp
          rw [e] at h
          have h2 := own_fns h fun g hg => by
            rcases List.mem_append.1 hg with hg | hg
            · exact (HGS3.out g hg).below hb4
            · rw [List.mem_singleton.1 hg]; exact HFX.out.2.below hb4
          rw [List.map_append, HGM.out] at h2
          have e2 : [fx].map (·.1) = [f] := by rw [List.map_cons, HFX.out.1]; rfl
          rw [e2] at h2
          exact h2)
        have HBQ := Lib.hid hnp.blk
        have HQE : Hid (q.globals = p.globals ∧ q.fns = p.fns ++ [f]) := Lib.hid (by rw [hq]; exact ⟨rfl, rfl⟩)
        have r0 := hnp.blk.at_ 0 _ rfl
        have r1 := hnp.blk.at_ 1 _ rfl
        have HRT := Lib.hid (right_any q _ w4 HQ.out)
        have HB5 := Lib.hid (HB3.out.trans (hb4.mono HB3.out.size))
        clear hnp hq hb4 HSC3 HGC3
        go_wp2_with fail
        refine HRT.out.mono ?_
        rintro e w5 ⟨rfl, hb5⟩
        have HB6 := Lib.hid (HB5.out.trans (hb5.mono HB5.out.size))
        have HBQ5 := Lib.hid (HBQ.out.below hb5)
        have HQ5 := Lib.hid (HQ.out.below hb5)
        have HB45 := Lib.hid (HB4.out.trans (hb5.mono HB4.out.size))
        clear hb5 HRT r0 r1
        by_cases hpe : progE q = 0
        case neg =>
          rw [errV_nz hpe]
          clear hpe
          go_wp2_with fail
          go_ret
          exact ⟨rfl, HB6.out⟩
        rw [hpe, errV_0]
        clear hpe
        have r0 := HBQ5.out.at_ 0 _ rfl
        have r1 := HBQ5.out.at_ 1 _ rfl
        have HSQ := Lib.hid (shapes_any q _ w5 HQ5.out)
        go_wp2_with fail
        refine HSQ.out.mono ?_
        rintro e w6 ⟨hs6, hb6⟩
        have HB7 := Lib.hid (HB6.out.trans (hb6.mono HB6.out.size))
        have HB46 := Lib.hid (HB45.out.trans (hb6.mono HB45.out.size))
        clear hb6 HSQ r0 r1
        cases ha : lookA q with
        | err m =>
          rw [ha] at hs6
          subst hs6
          have hm : m ≠ 0 := look_err ha
          rw [errV_nz hm]
          clear ha hm
          go_wp2_with fail
          go_ret
          exact ⟨rfl, HB7.out⟩
        | at_ m place =>
          rw [ha] at hs6
          obtain ⟨b9, rfl, -⟩ := hs6
          clear ha
          go_wp2_with fail
          go_ret
          exact ⟨rfl, HB7.out⟩
        | ok l' =>
          rw [ha] at hs6
          obtain ⟨v', rfl, htl'⟩ := hs6
          obtain ⟨hl1, hl2⟩ := more_like HQE.out.1 HQE.out.2 HLK.out (look_ok ha)
          have HT' := Lib.hid htl'
          obtain ⟨a6, n6, c6, rfl, hn6, hnc6, hcm6, -⟩ := htl'
          unfold maxLen at hcm6
          rw [List.length_map, hl1, ← HN5.out.1] at hn6
          subst hn6
          have HEQ := Lib.hid (same4_any (.slice a5 n5 c5) (.slice a6 n5 c6) (l.map shOf) w6 (HTL.out.below HB46.out) (by
            have h := HT'.out.take n5 (by rw [List.length_map, hl1, ← HN5.out.1]; omega)
            rw [← List.map_take, HN5.out.1, hl2] at h
            rw [HN5.out.1]
            exact h))
          have hw1 : IntKind.i64.wrap ((n5 : Int) + 1) = (n5 : Int) + 1 := by rw [IntKind.wrap_i64]; omega
          have hcc : n5 ≤ c6 := by omega
          clear ha hl1 hl2
          go_wp2_with fail
          refine HEQ.out.mono ?_
          rintro e w7 ⟨rfl, hb7⟩
          have HB8 := Lib.hid (HB7.out.trans (hb7.mono HB7.out.size))
          clear hb7
          go_wp2_with fail
          go_ret
          exact ⟨rfl, HB8.out⟩
end Go.Proofs.YtlfcfaceeloedaaDoor
