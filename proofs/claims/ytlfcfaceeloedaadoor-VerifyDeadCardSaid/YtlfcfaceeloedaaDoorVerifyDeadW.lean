/-
  The walk of the law VerifyDead: what can't be come to doesn't matter.
-/
import Derived.Test.YtlfcfaceeloedaaDoorVerDX
import Derived.Test.YtlfcfaceeloedaaDoorLate
namespace Go.Proofs.YtlfcfaceeloedaaDoor
open Go.RowKit Go.Shelf Cd Ve

set_option maxRecDepth 100000 in
set_option maxHeartbeats 25600000 in
theorem verifyDead_any (p : Pg) (gl : Int) (vf : Value) (n0 at0 xa xb : Int) (w : World) (hp : ProgAt w (.agg #[.int .i64 gl, vf]) p) (_b1 : -9223372036854775808 ≤ n0) (_b2 : n0 ≤ 9223372036854775807) (_b3 : -9223372036854775808 ≤ at0) (_b4 : at0 ≤ 9223372036854775807) (hE : ErrT w) :
    Calls Tryd.prog 4 #[.agg #[.int .i64 gl, vf], .int .i64 n0, .int .i64 at0, .agg #[.int .i64 xa, .int .i64 xb]] w fun e w' => e = .returned (.bool true) ∧ Below w.heap.size w w' := by
  clear _b1 _b2 _b3 _b4
  have HP := Lib.hid hp
  obtain ⟨_, e0, ao, n, cap, hvf, hn, hnc, hcm, -⟩ := hp
  obtain rfl : vf = .slice ao n cap := by rw [← hvf]; exact agg2_snd e0
  have hgl : gl = p.globals := by
    injection e0 with e0
    injection e0 with e0
    injection e0 with e0 _
    injection e0
  clear e0 hvf
  unfold maxLen at hcm
  have HGL := Lib.hid hgl
  obtain ⟨W1, hW1⟩ : ∃ W1, W1 = (w.alloc (.cells #[.int .i64 gl, .slice ao n cap] 24)).alloc (.cells #[.int .i64 xa, .int .i64 xb] 37) := ⟨_, rfl⟩
  have hb1 : Below w.heap.size w W1 := by rw [hW1]; exact ((Below.refl _ w).alloc (Nat.le_refl _) _).alloc (by simp) _
  have hx1 := (BlkO.new w #[.int .i64 gl, .slice ao n cap] 24).keeps ((Keeps.refl (fun _ : Nat => False) _).alloc (.cells #[.int .i64 xa, .int .i64 xb] 37)) id
  have hx2 := BlkO.new (w.alloc (.cells #[.int .i64 gl, .slice ao n cap] 24)) #[.int .i64 xa, .int .i64 xb] 37
  rw [show (w.alloc (.cells #[.int .i64 gl, .slice ao n cap] 24)).heap.size = w.heap.size + 1 by simp] at hx2
  rw [← hW1] at hx1 hx2
  obtain ⟨pb, hpb⟩ : ∃ pb, pb = w.heap.size := ⟨_, rfl⟩
  obtain ⟨fb, hfb⟩ : ∃ fb, fb = w.heap.size + 1 := ⟨_, rfl⟩
  rw [← hpb] at hx1
  rw [← hfb] at hx2
  have HX1 := Lib.hid hx1
  have HX2 := Lib.hid hx2
  have HB1 := Lib.hid hb1
  have HFT := Lib.hid (fitted_any W1 (hE.below hb1 (block_lt_of_cell hE)))
  have HN := Lib.hid hn
  clear hgl hn hb1 hx1 hx2 hE
  go_enter Tryd.func4, Tryd.ntmps4
  go_upto_region 1 with fail
  rw [← hW1, ← hfb, ← hpb]
  clear hW1 hpb hfb
  go_wp2_with fail
  refine HFT.out.mono ?_
  rintro e w1 ⟨rfl, hb1⟩
  have HB1' := Lib.hid (HB1.out.trans (hb1.mono HB1.out.size))
  have HX1' := Lib.hid (HX1.out.below hb1)
  have HX2' := Lib.hid (HX2.out.below hb1)
  have HBG := Lib.hid (big_any p _ w1 (HP.out.below HB1'.out))
  have p0 := HX1'.out.at_ 0 _ rfl
  have p1 := HX1'.out.at_ 1 _ rfl
  clear hb1 HFT HX1 HX2 HB1
  go_wp2_with fail
  refine HBG.out.mono ?_
  rintro e w2 ⟨rfl, hb2⟩
  have HB2 := Lib.hid (HB1'.out.trans (hb2.mono HB1'.out.size))
  have HY1 := Lib.hid (HX1'.out.below hb2)
  have HY2 := Lib.hid (HX2'.out.below hb2)
  clear hb2 HBG p0 p1
  have p0 := HY1.out.at_ 0 _ rfl
  have p1 := HY1.out.at_ 1 _ rfl
  cases hbg : bigB p with
  | true =>
    go_wp2_with fail
    go_ret
    exact ⟨rfl, HB2.out⟩
  | false =>
    clear hbg
    by_cases hn00 : n = 0
    · subst hn00
      go_wp2_with fail
      go_ret
      exact ⟨rfl, HB2.out⟩
    have hn0i : ¬ (n : Int) = 0 := by omega
    have hnp : 0 < n := by omega
    have HSH := Lib.hid (shapes_any p _ w2 (HP.out.below HB2.out))
    go_wp2_with fail
    refine HSH.out.mono ?_
    rintro e w3 ⟨hs, hb3⟩
    have HB3 := Lib.hid (HB2.out.trans (hb3.mono HB2.out.size))
    have HZ1 := Lib.hid (HY1.out.below hb3)
    have HZ2 := Lib.hid (HY2.out.below hb3)
    clear hb3 HSH p0 p1 HX1' HX2' HB1' hn00 hn0i
    cases ha : lookA p with
    | err m =>
      rw [ha] at hs
      subst hs
      have hm : m ≠ 0 := look_err ha
      rw [errV_nz hm]
      clear ha hm
      go_wp2_with fail
      go_ret
      exact ⟨rfl, HB3.out⟩
    | at_ m place =>
      rw [ha] at hs
      obtain ⟨b, rfl, -⟩ := hs
      clear ha
      go_wp2_with fail
      go_ret
      exact ⟨rfl, HB3.out⟩
    | ok l =>
      rw [ha] at hs
      obtain ⟨v, rfl, htl⟩ := hs
      have HTL := Lib.hid htl
      obtain ⟨a5, n5, c5, rfl, hn5, hnc5, hcm5, hx5⟩ := htl
      unfold maxLen at hcm5
      rw [List.length_map] at hn5
      have HLK := Lib.hid (look_ok ha)
      obtain ⟨hl1, hl2⟩ := HLK.out.bounds
      have hnn : n5 = n := by rw [hn5, hl1, ← HN.out]
      subst hnn
      have hn12 : n5 ≤ 12 := by have := HLK.out.right.fns; have := HN.out; omega
      have HX : Hid (∀ i f, p.fns[i]? = some f → ∃ b o sv, a5 = some ⟨b, o, none⟩ ∧ w3.cell? ⟨b, o + i, none⟩ = some sv ∧ ToldF w3 f (fnS p f).ahead sv) := Lib.hid fun i f hf => by
        obtain ⟨_, q2, q3⟩ := hl2 i f hf
        obtain ⟨b, o, sv, r1, r2, r3⟩ := hx5 i (shOf (fnS p f).ahead) (by rw [List.getElem?_map, q2]; rfl)
        exact ⟨b, o, sv, r1, r2, r3, q3⟩
      clear ha hn5 hx5 hl1 hl2
      obtain ⟨b, o, rfl, hbo⟩ : ∃ b o, ao = some ⟨b, o, none⟩ ∧ True := by
        obtain ⟨_, e, _, _, _, h2, _, _, _, hx⟩ := HP.out
        have := agg2_snd e
        rw [← this] at h2
        cases h2
        obtain ⟨b, o, h, _⟩ := hx hnp
        exact ⟨b, o, h, trivial⟩
      clear hbo
      have HFN : Hid (FnsAt w3 (.slice (some ⟨b, o, none⟩) n5 cap) p.fns) := Lib.hid (by
        obtain ⟨_, e, h⟩ := HP.out.below HB3.out
        have := agg2_snd e
        subst this
        exact h)
      have p0 := HZ1.out.at_ 0 _ rfl
      have p1 := HZ1.out.at_ 1 _ rfl
      go_wp2_with fail
      refine (pick_any n0 n5 w3 hnp (by omega)).mono ?_
      rintro e w4 ⟨k, hkn, rfl, hw4⟩
      subst hw4
      have hkl : k < p.fns.length := by rw [← HN.out]; exact hkn
      obtain ⟨f, hf⟩ : ∃ f, f = p.fns.getD k default := ⟨_, rfl⟩
      have hfk : p.fns[k]? = some f := by rw [hf, List.getD_eq_getElem?_getD, List.getElem?_eq_getElem hkl]; rfl
      obtain ⟨b', o', c', hsl, f1, ⟨vl, f2, hli⟩, f3, vc, f4, hci⟩ := HFN.out.get hkl
      rw [Value.slice.injEq] at hsl
      obtain ⟨e1, -, -⟩ := hsl
      cases e1
      rw [← hf] at f1 f3 hli hci
      obtain ⟨tb, tq, sv, rfl, t1, htf⟩ := HX.out k f hfk
      have HFK := Lib.hid hfk
      have HLI := Lib.hid hli
      have HCI := Lib.hid hci
      obtain ⟨a1, n1, d1, rfl, -⟩ := hli
      obtain ⟨a2, n2, d2, rfl, hn2, hnc2, hcm2, hx2⟩ := hci
      unfold maxLen at hcm2
      obtain ⟨L, hL⟩ : ∃ L, L = (fnS p f).ahead := ⟨_, rfl⟩
      rw [← hL] at htf
      have HTF := Lib.hid htf
      obtain ⟨so, nn2, sc, rfl, hnn2, hsc, hscm, -⟩ := htf.sh
      unfold maxLen at hscm
      rw [shOf_length, htf.fb.len, ← hn2] at hnn2
      subst hnn2
      have hm0 : nn2 ≠ 0 := fun e => htf.fb.pos (List.length_eq_zero_iff.1 (by rw [← hn2]; exact e))
      have hm9 : nn2 ≤ 9000 := by rw [hn2]; exact (HLK.out.right.each f (List.mem_of_getElem? hfk)).code
      have HFR : Hid (FnR f) := Lib.hid (HLK.out.right.each f (List.mem_of_getElem? hfk))
      obtain ⟨cb, co, rfl, hcbl⟩ : ∃ cb co, a2 = some ⟨cb, co, none⟩ ∧ True := by
        obtain ⟨cb, co, h, _⟩ := hx2 (by omega)
        exact ⟨cb, co, h, trivial⟩
      clear hcbl hx2
      obtain ⟨pa, hpa⟩ : ∃ pa, pa = f.params := ⟨_, rfl⟩
      obtain ⟨ki, hki⟩ : ∃ ki, ki = f.kind := ⟨_, rfl⟩
      rw [← hpa] at f1
      rw [← hki] at f3
      have HPK : Hid (pa = f.params ∧ ki = f.kind ∧ nn2 = f.code.length ∧ L = (fnS p f).ahead) := Lib.hid ⟨hpa, hki, hn2, hL⟩
      have hki1 : (k : Int) < (n5 : Int) := by omega
      have hki0 : (0 : Int) ≤ (k : Int) ∧ (k : Int) < (n5 : Int) := by omega
      have hmi : ((nn2 : Int) == 0) = false := by simp; omega
      have hmp : 0 < nn2 := by omega
      clear hf hfk hkl hpa hki hL htf hn2 hm0
      go_upto_region 9 with fail
      go_quiet (fail)
      clear hmi
      go_wp2_with fail
      refine (pick_any at0 nn2 _ hmp (by omega)).mono ?_
      rintro e w4 ⟨a, han, rfl, hw4⟩
      have hbw4 : Below w3.heap.size w3 w4 := by rw [← hw4]; exact below_drewK (Below.refl _ _) _
      have hk4 := keeps_none hbw4
      clear hw4
      have p0 := hk4.cell_of p0 id
      have p1 := hk4.cell_of p1 id
      have f1 := hk4.cell_of f1 id
      have f2 := hk4.cell_of f2 id
      have f3 := hk4.cell_of f3 id
      have f4 := hk4.cell_of f4 id
      have t1 := hk4.cell_of t1 id
      have hal : a < L.length := by rw [HTF.out.fb.len, ← HPK.out.2.2.1]; exact han
      obtain ⟨d, hd⟩ : ∃ d, L[a]? = some d := ⟨_, List.getElem?_eq_getElem hal⟩
      obtain ⟨sb2, so2, sc2, sa2, sc32, hse, s0, -, -⟩ := HTF.out.get hd
      rw [Value.slice.injEq] at hse
      obtain ⟨rfl, -, rfl⟩ := hse
      have s0 := hk4.cell_of s0 id
      have hdk : L.getD a none = d := by rw [List.getD_eq_getElem?_getD, hd]; rfl
      have HDK := Lib.hid hdk
      have HBW4 := Lib.hid hbw4
      have hai1 : (a : Int) < (nn2 : Int) := by omega
      have hai0 : (0 : Int) ≤ (a : Int) ∧ (a : Int) < (nn2 : Int) := by omega
      clear hdk hd hal hbw4
      cases d with
      | some u =>
        simp only [Option.isSome_some] at s0
        have HBR := Lib.hid (HB3.out.trans (HBW4.out.mono HB3.out.size))
        go_wp2_with fail
        go_quiet (fail)
        go_wp2_with fail
        go_ret
        exact ⟨rfl, below_drewK HBR.out _⟩
      | none =>
        simp only [Option.isSome_none] at s0
        have HSC : Hid (∀ V, Keeps (fun _ => False) w4 V → V.cell? ⟨pb, 1, none⟩ = some (.slice (some ⟨b, o, none⟩) n5 cap) ∧ V.cell? ⟨tb, tq + k, none⟩ = some (.slice (some ⟨sb2, so2, none⟩) nn2 sc) ∧ V.cell? ⟨sb2, so2 + a * 2, none⟩ = some (.bool false) ∧ V.cell? ⟨b, o + k * 4, none⟩ = some (.int .i64 pa) ∧ V.cell? ⟨b, o + k * 4 + 1, none⟩ = some (.slice a1 n1 d1) ∧ V.cell? ⟨b, o + k * 4 + 2, none⟩ = some (.int .i64 ki) ∧ V.cell? ⟨b, o + k * 4 + 3, none⟩ = some (.slice (some ⟨cb, co, none⟩) nn2 d2) ∧ V.cell? ⟨pb, 0, none⟩ = some (.int .i64 gl)) := Lib.hid fun V hV =>
          ⟨hV.cell_of p1 id, hV.cell_of t1 id, hV.cell_of s0 id, hV.cell_of f1 id, hV.cell_of f2 id, hV.cell_of f3 id, hV.cell_of f4 id, hV.cell_of p0 id⟩
        have HCS : Hid (∀ V, Keeps (fun _ => False) w4 V → Calls Tryd.prog 17 #[.agg #[.int .i64 pa, .slice a1 n1 d1, .int .i64 ki, .slice (some ⟨cb, co, none⟩) nn2 d2], .slice (some ⟨sb2, so2, none⟩) nn2 sc] V fun e w' => ∃ ob bv, e = .returned (.slice (some ⟨ob, 0, none⟩) nn2 nn2) ∧ w'.cell? ⟨ob, a, none⟩ = some (.bool bv) ∧ (CasedAt f L a → bv = true) ∧ Keeps (fun _ => False) w4 w') := Lib.hid fun V hV => by
          have hb : Below w3.heap.size w3 V := (HBW4.out.trans (hV.below HBW4.out.size fun _ _ e => e.elim))
          refine (cased_any f pa ki _ _ _ L V (HCI.out.below hb) (HTF.out.below hb) (by rw [← HPK.out.2.2.1]; exact hm9) (fun i hi h23 => ?_)).mono ?_
          · have h1 := HFR.out.ins i hi
            simp [mayB] at h1
            have h2 : leastI i.1 = 0 := by unfold leastI; rw [if_neg (by omega), if_neg (by omega), if_neg (by omega)]
            omega
          · rintro e w' ⟨ob, bs, rfl, r1, r2, r3, r4, r5⟩
            have hab : a < bs.length := by rw [r1, ← HPK.out.2.2.1]; exact han
            obtain ⟨bv, hbv⟩ := r2 a _ (List.getElem?_eq_getElem hab)
            refine ⟨ob, bv, by rw [HPK.out.2.2.1], r3.at_ a _ (by rw [List.getElem?_eq_getElem hab, hbv]), fun hc => ?_, hV.trans (Keeps.of_new r5)⟩
            have := r4 a (by rw [← r1]; exact hab) hc
            rw [List.getElem?_eq_getElem hab, hbv] at this
            injection this with this
            injection this
        go_upto_region 12 with fail
        refine wp_region_late (S := (fun V : World => V.cell? ⟨pb, 1, none⟩ = some (.slice (some ⟨b, o, none⟩) n5 cap) ∧ V.cell? ⟨tb, tq + k, none⟩ = some (.slice (some ⟨sb2, so2, none⟩) nn2 sc) ∧ V.cell? ⟨sb2, so2 + a * 2, none⟩ = some (.bool false) ∧ V.cell? ⟨b, o + k * 4, none⟩ = some (.int .i64 pa) ∧ V.cell? ⟨b, o + k * 4 + 1, none⟩ = some (.slice a1 n1 d1) ∧ V.cell? ⟨b, o + k * 4 + 2, none⟩ = some (.int .i64 ki) ∧ V.cell? ⟨b, o + k * 4 + 3, none⟩ = some (.slice (some ⟨cb, co, none⟩) nn2 d2) ∧ V.cell? ⟨pb, 0, none⟩ = some (.int .i64 gl))) (T := []) (by kernel_rfl) ?_
        have hHeld := HSC.out _ ((Keeps.refl (fun _ : Nat => False) w4).drew)
        refine late_take0 (i := 0) (oi := { dst := some 73, op := _, type := _, pos := _, after := _, guard := _ }) (v := .slice (some ⟨tb, tq, none⟩) n5 c5) rfl (by kernel_rfl) (by kernel_rfl) (by kernel_rfl) (fun _ _ _ h => h) (Or.inl ⟨by rfl, ?_⟩) ?_
        · intro W9 hSW
          (try dsimp only at hSW)
          go_simp
        try simp only [Act.put, List.setIfInBounds_toArray, List.set_cons_zero, List.set_cons_succ]
        refine late_take0 (i := 1) (oi := { dst := some 74, op := _, type := _, pos := _, after := _, guard := _ }) (v := .int .i64 (k : Int)) rfl (by kernel_rfl) (by kernel_rfl) (by kernel_rfl) (fun _ _ _ h => h) (Or.inl ⟨by rfl, ?_⟩) ?_
        · intro W9 hSW
          (try dsimp only at hSW)
          go_simp
        try simp only [Act.put, List.setIfInBounds_toArray, List.set_cons_zero, List.set_cons_succ]
        refine late_take0 (i := 2) (oi := { dst := some 75, op := _, type := _, pos := _, after := _, guard := _ }) (v := .pointer (some ⟨tb, tq + k, none⟩)) rfl (by kernel_rfl) (by kernel_rfl) (by kernel_rfl) (fun _ _ _ h => h) (Or.inl ⟨by rfl, ?_⟩) ?_
        · intro W9 hSW
          (try dsimp only at hSW)
          go_simp
        try simp only [Act.put, List.setIfInBounds_toArray, List.set_cons_zero, List.set_cons_succ]
        refine late_take (i := 3) (oi := { dst := some 76, op := _, type := _, pos := _, after := _, guard := _ }) (v := .slice (some ⟨sb2, so2, none⟩) nn2 sc) rfl (by kernel_rfl) (by kernel_rfl) (by kernel_rfl) (by kernel_rfl) (fun _ _ _ h => h) (Or.inl ⟨by rfl, ?_⟩) hHeld ?_
        · intro W9 hSW
          (try dsimp only at hSW)
          obtain ⟨hS0, hS1, hS2, hS3, hS4, hS5, hS6, hS7⟩ := hSW
          go_simp
        try simp only [Act.put, List.setIfInBounds_toArray, List.set_cons_zero, List.set_cons_succ]
        refine late_take0 (i := 4) (oi := { dst := some 77, op := _, type := _, pos := _, after := _, guard := _ }) (v := .int .i64 (a : Int)) rfl (by kernel_rfl) (by kernel_rfl) (by kernel_rfl) (fun _ _ _ h => h) (Or.inl ⟨by rfl, ?_⟩) ?_
        · intro W9 hSW
          (try dsimp only at hSW)
          go_simp
        try simp only [Act.put, List.setIfInBounds_toArray, List.set_cons_zero, List.set_cons_succ]
        refine late_take0 (i := 5) (oi := { dst := some 78, op := _, type := _, pos := _, after := _, guard := _ }) (v := .pointer (some ⟨sb2, so2 + a * 2, none⟩)) rfl (by kernel_rfl) (by kernel_rfl) (by kernel_rfl) (fun _ _ _ h => h) (Or.inl ⟨by rfl, ?_⟩) ?_
        · intro W9 hSW
          (try dsimp only at hSW)
          go_simp
        try simp only [Act.put, List.setIfInBounds_toArray, List.set_cons_zero, List.set_cons_succ]
        refine late_take0 (i := 6) (oi := { dst := some 79, op := _, type := _, pos := _, after := _, guard := _ }) (v := .pointer (some ⟨sb2, so2 + a * 2, none⟩)) rfl (by kernel_rfl) (by kernel_rfl) (by kernel_rfl) (fun _ _ _ h => h) (Or.inl ⟨by rfl, ?_⟩) ?_
        · intro W9 hSW
          (try dsimp only at hSW)
          go_simp
        try simp only [Act.put, List.setIfInBounds_toArray, List.set_cons_zero, List.set_cons_succ]
        refine late_take (i := 7) (oi := { dst := some 80, op := _, type := _, pos := _, after := _, guard := _ }) (v := .bool false) rfl (by kernel_rfl) (by kernel_rfl) (by kernel_rfl) (by kernel_rfl) (fun _ _ _ h => h) (Or.inl ⟨by rfl, ?_⟩) hHeld ?_
        · intro W9 hSW
          (try dsimp only at hSW)
          obtain ⟨hS0, hS1, hS2, hS3, hS4, hS5, hS6, hS7⟩ := hSW
          go_simp
        try simp only [Act.put, List.setIfInBounds_toArray, List.set_cons_zero, List.set_cons_succ]
        refine late_take0 (i := 8) (oi := { dst := some 81, op := _, type := _, pos := _, after := _, guard := _ }) (v := .bool false) rfl (by kernel_rfl) (by kernel_rfl) (by kernel_rfl) (fun _ _ _ h => h) (Or.inl ⟨by rfl, ?_⟩) ?_
        · intro W9 hSW
          (try dsimp only at hSW)
          go_simp
        try simp only [Act.put, List.setIfInBounds_toArray, List.set_cons_zero, List.set_cons_succ]
        refine late_take0 (i := 9) (oi := { dst := some 82, op := _, type := _, pos := _, after := _, guard := _ }) (v := .pointer (some ⟨pb, 1, none⟩)) rfl (by kernel_rfl) (by kernel_rfl) (by kernel_rfl) (fun _ _ _ h => h) (Or.inl ⟨by rfl, ?_⟩) ?_
        · intro W9 hSW
          (try dsimp only at hSW)
          go_simp
        try simp only [Act.put, List.setIfInBounds_toArray, List.set_cons_zero, List.set_cons_succ]
        refine late_take (i := 10) (oi := { dst := some 83, op := _, type := _, pos := _, after := _, guard := _ }) (v := .slice (some ⟨b, o, none⟩) n5 cap) rfl (by kernel_rfl) (by kernel_rfl) (by kernel_rfl) (by kernel_rfl) (fun _ _ _ h => h) (Or.inl ⟨by rfl, ?_⟩) hHeld ?_
        · intro W9 hSW
          (try dsimp only at hSW)
          obtain ⟨hS0, hS1, hS2, hS3, hS4, hS5, hS6, hS7⟩ := hSW
          go_simp
        try simp only [Act.put, List.setIfInBounds_toArray, List.set_cons_zero, List.set_cons_succ]
        refine late_take0 (i := 11) (oi := { dst := some 84, op := _, type := _, pos := _, after := _, guard := _ }) (v := .int .i64 (k : Int)) rfl (by kernel_rfl) (by kernel_rfl) (by kernel_rfl) (fun _ _ _ h => h) (Or.inl ⟨by rfl, ?_⟩) ?_
        · intro W9 hSW
          (try dsimp only at hSW)
          go_simp
        try simp only [Act.put, List.setIfInBounds_toArray, List.set_cons_zero, List.set_cons_succ]
        refine late_take0 (i := 12) (oi := { dst := some 85, op := _, type := _, pos := _, after := _, guard := _ }) (v := .pointer (some ⟨b, o + k * 4, none⟩)) rfl (by kernel_rfl) (by kernel_rfl) (by kernel_rfl) (fun _ _ _ h => h) (Or.inl ⟨by rfl, ?_⟩) ?_
        · intro W9 hSW
          (try dsimp only at hSW)
          go_simp
        try simp only [Act.put, List.setIfInBounds_toArray, List.set_cons_zero, List.set_cons_succ]
        refine late_take (i := 13) (oi := { dst := some 86, op := _, type := _, pos := _, after := _, guard := _ }) (v := .agg #[.int .i64 pa, .slice a1 n1 d1, .int .i64 ki, .slice (some ⟨cb, co, none⟩) nn2 d2]) rfl (by kernel_rfl) (by kernel_rfl) (by kernel_rfl) (by kernel_rfl) (fun _ _ _ h => h) (Or.inl ⟨by rfl, ?_⟩) hHeld ?_
        · intro W9 hSW
          (try dsimp only at hSW)
          obtain ⟨hS0, hS1, hS2, hS3, hS4, hS5, hS6, hS7⟩ := hSW
          go_simp
        try simp only [Act.put, List.setIfInBounds_toArray, List.set_cons_zero, List.set_cons_succ]
        refine late_take0 (i := 14) (oi := { dst := some 87, op := _, type := _, pos := _, after := _, guard := _ }) (v := .slice (some ⟨tb, tq, none⟩) n5 c5) rfl (by kernel_rfl) (by kernel_rfl) (by kernel_rfl) (fun _ _ _ h => h) (Or.inl ⟨by rfl, ?_⟩) ?_
        · intro W9 hSW
          (try dsimp only at hSW)
          go_simp
        try simp only [Act.put, List.setIfInBounds_toArray, List.set_cons_zero, List.set_cons_succ]
        refine late_take0 (i := 15) (oi := { dst := some 88, op := _, type := _, pos := _, after := _, guard := _ }) (v := .int .i64 (k : Int)) rfl (by kernel_rfl) (by kernel_rfl) (by kernel_rfl) (fun _ _ _ h => h) (Or.inl ⟨by rfl, ?_⟩) ?_
        · intro W9 hSW
          (try dsimp only at hSW)
          go_simp
        try simp only [Act.put, List.setIfInBounds_toArray, List.set_cons_zero, List.set_cons_succ]
        refine late_take0 (i := 16) (oi := { dst := some 89, op := _, type := _, pos := _, after := _, guard := _ }) (v := .pointer (some ⟨tb, tq + k, none⟩)) rfl (by kernel_rfl) (by kernel_rfl) (by kernel_rfl) (fun _ _ _ h => h) (Or.inl ⟨by rfl, ?_⟩) ?_
        · intro W9 hSW
          (try dsimp only at hSW)
          go_simp
        try simp only [Act.put, List.setIfInBounds_toArray, List.set_cons_zero, List.set_cons_succ]
        refine late_take (i := 17) (oi := { dst := some 90, op := _, type := _, pos := _, after := _, guard := _ }) (v := .slice (some ⟨sb2, so2, none⟩) nn2 sc) rfl (by kernel_rfl) (by kernel_rfl) (by kernel_rfl) (by kernel_rfl) (fun _ _ _ h => h) (Or.inl ⟨by rfl, ?_⟩) hHeld ?_
        · intro W9 hSW
          (try dsimp only at hSW)
          obtain ⟨hS0, hS1, hS2, hS3, hS4, hS5, hS6, hS7⟩ := hSW
          go_simp
        try simp only [Act.put, List.setIfInBounds_toArray, List.set_cons_zero, List.set_cons_succ]
        refine late_take0 (i := 19) (oi := { dst := some 92, op := _, type := _, pos := _, after := _, guard := _ }) (v := .int .i64 (a : Int)) rfl (by kernel_rfl) (by kernel_rfl) (by kernel_rfl) (fun _ _ _ h => h) (Or.inl ⟨by rfl, ?_⟩) ?_
        · intro W9 hSW
          (try dsimp only at hSW)
          go_simp
        try simp only [Act.put, List.setIfInBounds_toArray, List.set_cons_zero, List.set_cons_succ]
        clear hHeld
        refine late_ready (rs := [18]) (by kernel_rfl) (by simp) ?_
        refine LateAll.cons (o := { dst := some 91, op := _, type := _, pos := _, after := _, guard := _ }) rfl (fun K hK => ?_) LateAll.nil
        go_simp
        refine (HCS.out _ ((Keeps.refl _ _).drew)).mono ?_
        rintro e w6 ⟨ob, bv, rfl, hob, hcs, hk6⟩
        refine hK.out _ _ (fun _ => HSC.out _ hk6) ?_
        clear hK K
        try simp only [Act.put, List.setIfInBounds_toArray, List.set_cons_zero, List.set_cons_succ]
        refine late_take0 (i := 20) (oi := { dst := some 93, op := _, type := _, pos := _, after := _, guard := _ }) (v := .pointer (some ⟨ob, a, none⟩)) rfl (by kernel_rfl) (by kernel_rfl) (by kernel_rfl) (fun _ _ _ h => h) (Or.inl ⟨by rfl, ?_⟩) ?_
        · intro W9 hSW
          (try dsimp only at hSW)
          go_simp
        try simp only [Act.put, List.setIfInBounds_toArray, List.set_cons_zero, List.set_cons_succ]
        refine late_ready (rs := [21]) (by kernel_rfl) (by simp) ?_
        refine LateAll.cons (o := { dst := some 94, op := _, type := _, pos := _, after := _, guard := _ }) rfl (fun K hK => ?_) LateAll.nil
        go_simp
        refine hK.out _ _ (fun _ => HSC.out _ hk6) ?_
        clear hK K
        try simp only [Act.put, List.setIfInBounds_toArray, List.set_cons_zero, List.set_cons_succ]
        refine late_take0 (i := 22) (oi := { dst := some 95, op := _, type := _, pos := _, after := _, guard := _ }) (v := .bool bv) rfl (by kernel_rfl) (by kernel_rfl) (by kernel_rfl) (fun _ _ _ h => h) (Or.inl ⟨by rfl, ?_⟩) ?_
        · intro W9 hSW
          (try dsimp only at hSW)
          go_simp
        try simp only [Act.put, List.setIfInBounds_toArray, List.set_cons_zero, List.set_cons_succ]
        refine late_done (by kernel_rfl) ?_ _
        have hb6 : Below w4.heap.size w4 w6 := hk6.below (Nat.le_refl _) fun _ _ e => e.elim
        have HB6 := Lib.hid ((HB3.out.trans (HBW4.out.mono HB3.out.size)).trans (hb6.mono (HB3.out.trans (HBW4.out.mono HB3.out.size)).size))
        have HW6 : Hid (Below w3.heap.size w3 w6) := Lib.hid (HBW4.out.trans (hb6.mono HBW4.out.size))
        have HC6 := Lib.hid hcs
        have HK6 := Lib.hid hk6
        clear hb6 hcs hk6 hob p0 p1 f1 f2 f3 f4 t1 s0 HCS
        cases bv with
        | true =>
          go_wp2_with fail
          go_ret
          exact ⟨rfl, HB6.out⟩
        | false =>
          have HNC : Hid (¬ CasedAt f L a) := Lib.hid fun hc => Bool.noConfusion (HC6.out hc)
          obtain ⟨gs, hgs1, hgs2, hgs3⟩ := HFN.out.fxs
          obtain ⟨b', o', e', hgs4⟩ := hgs3 hnp
          cases e'
          have HGN : Hid (n5 ≤ 1000000 ∧ gs.length = n5) := Lib.hid ⟨by omega, by have := congrArg List.length hgs1; rw [List.length_map] at this; rw [this, ← HN.out]⟩
          have HGM := Lib.hid hgs1
          have HGS3 : Hid (∀ g ∈ gs, FxAt w6 g) := Lib.hid fun g hg => (hgs2 g hg).below HW6.out
          have HGC3 : Hid (∀ V, Keeps (fun _ => False) w6 V → ∃ b' o', some (⟨b, o, none⟩ : Addr) = some ⟨b', o', none⟩ ∧ ∀ k u, (fxsC gs)[k]? = some u → V.cell? ⟨b', o' + k, none⟩ = some u) := Lib.hid fun V hV => ⟨b, o, rfl, fun k u hk => hV.cell_of ((keeps_none HW6.out).cell_of (hgs4 k u hk) id) id⟩
          have HSC3 : Hid (∀ V, Keeps (fun _ => False) w6 V → V.cell? ⟨pb, 0, none⟩ = some (.int .i64 gl) ∧ V.cell? ⟨pb, 1, none⟩ = some (.slice (some ⟨b, o, none⟩) n5 cap)) := Lib.hid fun V hV => by
            obtain ⟨r1, _, _, _, _, _, _, r8⟩ := HSC.out V (HK6.out.trans hV)
            exact ⟨r8, r1⟩
          have HSC6 := Lib.hid fun V (hV : Keeps (fun _ => False) w6 V) => HSC.out V (HK6.out.trans hV)
          clear hgs1 hgs2 hgs3 hgs4 HC6 HSC HK6
          go_upto_region 14 with fail
          go_cut [11] from 96 to 101 (fun v11 wx => ∃ qb aq cq, v11 = .pointer (some ⟨qb, 0, none⟩) ∧ NewQ w6 wx qb n5 gl aq cq gs)
          case first =>
            skip
            refine wp_region_late (S := (fun W : World => W.cell? ⟨pb, 0, none⟩ = some (.int .i64 gl) ∧ W.cell? ⟨pb, 1, none⟩ = some (.slice (some ⟨b, o, none⟩) n5 cap))) (T := [7]) (by kernel_rfl) ?_
            have hHeld := HSC3.out _ ((Keeps.refl (fun _ : Nat => False) w6).drew)
            have HK30 : Hid (Keeps (fun _ => False) w6 w6.drew ∧ w6.drew.heap.size = w6.heap.size) := Lib.hid ⟨(Keeps.refl _ w6).drew, rfl⟩
            generalize w6.drew = W0 at *
            have HSC := Lib.hid fun V (hV : Keeps (fun _ => False) W0 V) => HSC3.out V (HK30.out.1.trans hV)
            have HGS := Lib.hid fun g hg => (HGS3.out g hg).below (HK30.out.1.below (Nat.le_refl _) fun _ _ e => e.elim)
            have HGC := Lib.hid fun V (hV : Keeps (fun _ => False) W0 V) => HGC3.out V (HK30.out.1.trans hV)
            have HS : Hid (Keeps (fun _ => False) W0 W0) := Lib.hid (Keeps.refl _ _)
            refine late_take0 (i := 0) (oi := { dst := some 96, op := _, type := _, pos := _, after := _, guard := _ }) (v := .pointer (some ⟨pb, 0, none⟩)) rfl (by kernel_rfl) (by kernel_rfl) (by kernel_rfl) (fun _ _ _ h => h) (Or.inl ⟨by rfl, ?_⟩) ?_
            · intro W9 hSW
              (try dsimp only at hSW)
              go_simp
            try simp only [Act.put, List.setIfInBounds_toArray, List.set_cons_zero, List.set_cons_succ]
            refine late_take (i := 1) (oi := { dst := some 97, op := _, type := _, pos := _, after := _, guard := _ }) (v := .int .i64 gl) rfl (by kernel_rfl) (by kernel_rfl) (by kernel_rfl) (by kernel_rfl) (fun _ _ _ h => h) (Or.inl ⟨by rfl, ?_⟩) hHeld ?_
            · intro W9 hSW
              (try dsimp only at hSW)
              obtain ⟨hS0, hS1⟩ := hSW
              go_simp
            try simp only [Act.put, List.setIfInBounds_toArray, List.set_cons_zero, List.set_cons_succ]
            refine late_take0 (i := 2) (oi := { dst := some 98, op := _, type := _, pos := _, after := _, guard := _ }) (v := .pointer (some ⟨pb, 1, none⟩)) rfl (by kernel_rfl) (by kernel_rfl) (by kernel_rfl) (fun _ _ _ h => h) (Or.inl ⟨by rfl, ?_⟩) ?_
            · intro W9 hSW
              (try dsimp only at hSW)
              go_simp
            try simp only [Act.put, List.setIfInBounds_toArray, List.set_cons_zero, List.set_cons_succ]
            refine late_take (i := 3) (oi := { dst := some 99, op := _, type := _, pos := _, after := _, guard := _ }) (v := .slice (some ⟨b, o, none⟩) n5 cap) rfl (by kernel_rfl) (by kernel_rfl) (by kernel_rfl) (by kernel_rfl) (fun _ _ _ h => h) (Or.inl ⟨by rfl, ?_⟩) hHeld ?_
            · intro W9 hSW
              (try dsimp only at hSW)
              obtain ⟨hS0, hS1⟩ := hSW
              go_simp
            try simp only [Act.put, List.setIfInBounds_toArray, List.set_cons_zero, List.set_cons_succ]
            clear hHeld
            refine late_ready (rs := [4, 6]) (by kernel_rfl) (by simp) ?_
            refine LateAll.cons (o := { dst := some 100, op := _, type := _, pos := _, after := _, guard := _ }) rfl (fun K hK => ?_) ?_
            · skip
              go_simp
              refine (cloneF_any (some ⟨b, o, none⟩) n5 cap gs W0 HGN.out.1 HGN.out.2 (fun g hg => (HGS.out g hg).below (HS.out.below (Nat.le_refl _) fun _ _ e => e.elim)) (HGC.out _ HS.out)).mono ?_
              rintro e V0 ⟨ac, cc, rfl, hoc, hbc⟩
              have hkc : Keeps (fun _ => False) W0 V0 := Keeps.of_new hbc
              have hlow : W0.heap.size ≤ W0.heap.size := HS.out.size
              have HS := Lib.hid (HS.out.trans hkc)
              have HC := Lib.hid (own_mono hoc hlow)
              clear hoc hbc hkc hlow
              refine hK.out _ _ (fun _ => HSC.out _ HS.out) ?_
              clear hK K
              try simp only [Act.put, List.setIfInBounds_toArray, List.set_cons_zero, List.set_cons_succ]
              refine late_take0 (i := 5) (oi := { dst := some 101, op := _, type := _, pos := _, after := _, guard := _ }) (v := .agg #[.int .i64 gl, .slice ac n5 cc]) rfl (by kernel_rfl) (by kernel_rfl) (by kernel_rfl) (fun _ _ _ h => h) (Or.inl ⟨by rfl, ?_⟩) ?_
              · intro W9 hSW
                (try dsimp only at hSW)
                go_simp
              try simp only [Act.put, List.setIfInBounds_toArray, List.set_cons_zero, List.set_cons_succ]
              refine late_ready (rs := [6]) (by kernel_rfl) (by simp) ?_
              refine LateAll.cons (o := { dst := some 11, op := _, type := _, pos := _, after := _, guard := _ }) rfl (fun K hK => ?_) ?_
              · skip
                go_simp
                have hkc : Keeps (fun _ => False) V0 (V0.alloc (.cells #[.int .i64 0, .slice none 0 0] 24)) := (Keeps.refl _ _).alloc _
                have hld := BlkO.new V0 #[.int .i64 0, .slice none 0 0] 24
                obtain ⟨qb, hqb⟩ : ∃ qb, qb = V0.heap.size := ⟨_, rfl⟩
                have HQW : Hid (W0.heap.size ≤ qb) := Lib.hid (by rw [hqb]; exact HS.out.size)
                have HXA : Hid (∀ c, (Value.slice ac n5 cc).ownBlock = some c → c ≠ qb) := Lib.hid fun c hc => by have h1 := (World.ownsRow.lt HC.out c hc).2; omega
                have HS := Lib.hid (HS.out.trans hkc)
                have HC := Lib.hid ((hkc).row HC.out fun _ _ => id)
                rw [← hqb] at hld ⊢
                have HLd := Lib.hid hld
                clear hld hkc hqb
                generalize V0.alloc (.cells #[.int .i64 0, .slice none 0 0] 24) = V1 at *
                refine hK.out _ _ (fun _ => HSC.out _ HS.out) ?_
                clear hK K
                try simp only [Act.put, List.setIfInBounds_toArray, List.set_cons_zero, List.set_cons_succ]
                have y0 := HLd.out.at_ 0 _ rfl
                have y1 := HLd.out.at_ 1 _ rfl
                have z0 := HLd.out.free 0
                have z1 := HLd.out.free 1
                refine late_ready (rs := [7]) (by kernel_rfl) (by simp) ?_
                refine LateAll.cons (o := { dst := none, op := _, type := _, pos := _, after := _, guard := _ }) rfl (fun K hK => ?_) LateAll.nil
                go_simp
                refine hK.out _ _ (fun h => absurd (show (7 : Nat) ∈ [7] by decide) h) ?_
                clear hK K
                refine late_done (by kernel_rfl) ?_ _
                go_wp2_with fail
                go_meet
                exact newQ_end HK30.out.1 HK30.out.2 HS.out HC.out HLd.out HXA.out HQW.out
              exact LateAll.nil
            refine LateAll.cons (o := { dst := some 11, op := _, type := _, pos := _, after := _, guard := _ }) rfl (fun K hK => ?_) ?_
            · skip
              go_simp
              have hkc : Keeps (fun _ => False) W0 (W0.alloc (.cells #[.int .i64 0, .slice none 0 0] 24)) := (Keeps.refl _ _).alloc _
              have hld := BlkO.new W0 #[.int .i64 0, .slice none 0 0] 24
              obtain ⟨qb, hqb⟩ : ∃ qb, qb = W0.heap.size := ⟨_, rfl⟩
              have HQW : Hid (W0.heap.size ≤ qb) := Lib.hid (by rw [hqb]; exact HS.out.size)
              have HS := Lib.hid (HS.out.trans hkc)
              rw [← hqb] at hld ⊢
              have HLd := Lib.hid hld
              clear hld hkc hqb
              generalize W0.alloc (.cells #[.int .i64 0, .slice none 0 0] 24) = V2 at *
              refine hK.out _ _ (fun _ => HSC.out _ HS.out) ?_
              clear hK K
              try simp only [Act.put, List.setIfInBounds_toArray, List.set_cons_zero, List.set_cons_succ]
              refine late_ready (rs := [4]) (by kernel_rfl) (by simp) ?_
              refine LateAll.cons (o := { dst := some 100, op := _, type := _, pos := _, after := _, guard := _ }) rfl (fun K hK => ?_) ?_
              · skip
                go_simp
                refine (cloneF_any (some ⟨b, o, none⟩) n5 cap gs V2 HGN.out.1 HGN.out.2 (fun g hg => (HGS.out g hg).below (HS.out.below (Nat.le_refl _) fun _ _ e => e.elim)) (HGC.out _ HS.out)).mono ?_
                rintro e V3 ⟨ac, cc, rfl, hoc, hbc⟩
                have hkc : Keeps (fun _ => False) V2 V3 := Keeps.of_new hbc
                have HXA : Hid (∀ c, (Value.slice ac n5 cc).ownBlock = some c → c ≠ qb) := Lib.hid fun c hc => by have h1 := (World.ownsRow.lt hoc c hc).1; have h2 := HLd.out.lt; omega
                have hlow : W0.heap.size ≤ V2.heap.size := HS.out.size
                have HS := Lib.hid (HS.out.trans hkc)
                have HLd := Lib.hid (HLd.out.keeps hkc id)
                have HC := Lib.hid (own_mono hoc hlow)
                clear hoc hbc hkc hlow
                refine hK.out _ _ (fun _ => HSC.out _ HS.out) ?_
                clear hK K
                try simp only [Act.put, List.setIfInBounds_toArray, List.set_cons_zero, List.set_cons_succ]
                refine late_take0 (i := 5) (oi := { dst := some 101, op := _, type := _, pos := _, after := _, guard := _ }) (v := .agg #[.int .i64 gl, .slice ac n5 cc]) rfl (by kernel_rfl) (by kernel_rfl) (by kernel_rfl) (fun _ _ _ h => h) (Or.inl ⟨by rfl, ?_⟩) ?_
                · intro W9 hSW
                  (try dsimp only at hSW)
                  go_simp
                try simp only [Act.put, List.setIfInBounds_toArray, List.set_cons_zero, List.set_cons_succ]
                have y0 := HLd.out.at_ 0 _ rfl
                have y1 := HLd.out.at_ 1 _ rfl
                have z0 := HLd.out.free 0
                have z1 := HLd.out.free 1
                refine late_ready (rs := [7]) (by kernel_rfl) (by simp) ?_
                refine LateAll.cons (o := { dst := none, op := _, type := _, pos := _, after := _, guard := _ }) rfl (fun K hK => ?_) LateAll.nil
                go_simp
                refine hK.out _ _ (fun h => absurd (show (7 : Nat) ∈ [7] by decide) h) ?_
                clear hK K
                refine late_done (by kernel_rfl) ?_ _
                go_wp2_with fail
                go_meet
                exact newQ_end HK30.out.1 HK30.out.2 HS.out HC.out HLd.out HXA.out HQW.out
              exact LateAll.nil
            exact LateAll.nil
          case rest =>
            rename World => w7
            obtain ⟨qb, aq, cq, rfl, hnq⟩ := hcut
            obtain ⟨g, rfl, hg1, hg2⟩ := own_some hnq.row hnp
            have HNQ := Lib.hid hnq
            have HGQ : Hid (g ≠ qb ∧ w6.heap.size ≤ g ∧ g < w7.heap.size) := Lib.hid ⟨hnq.off g rfl, hg1, hg2⟩
            have HSC7 : Hid (∀ V, Keeps (fun _ => False) w7 V → V.cell? ⟨qb, 1, none⟩ = some (.slice (some ⟨g, 0, none⟩) n5 cq) ∧ V.cell? ⟨pb, 1, none⟩ = some (.slice (some ⟨b, o, none⟩) n5 cap) ∧ V.cell? ⟨b, o + k * 4 + 3, none⟩ = some (.slice (some ⟨cb, co, none⟩) nn2 d2)) := Lib.hid fun V hV => by
              obtain ⟨r1, _, _, _, _, _, r7, _⟩ := HSC6.out V (HNQ.out.keep.trans hV)
              exact ⟨hV.cell_of (HNQ.out.blk.at_ 1 _ rfl) id, r1, r7⟩
            have HCI7 : Hid (∀ V, Keeps (fun _ => False) w7 V → InsAt V (.slice (some ⟨cb, co, none⟩) nn2 d2) f.code) := Lib.hid fun V hV => HCI.out.below (HW6.out.trans (((HNQ.out.keep.trans hV).below (Nat.le_refl _) fun _ _ e => e.elim).mono HW6.out.size))
            have HFB7 : Hid (BlkO w7 fb [.int .i64 xa, .int .i64 xb]) := Lib.hid ((HZ2.out.below HW6.out).keeps HNQ.out.keep id)
            have HGK : Hid (∃ gk, gs[k]? = some gk ∧ gk.1 = f) := Lib.hid (by
              have h := HFK.out
              rw [← HGM.out, List.getElem?_map] at h
              obtain ⟨gk, h1, h2⟩ := Option.map_eq_some_iff.1 h
              exact ⟨gk, h1, h2⟩)
            have hn26 : nn2 ≤ 1000000 := by omega
            clear hnq hg1 hg2 HSC3 HSC6 HGC3 p0 p1
            go_upto_region 15 with fail
            go_cut [113] from 102 to 112 (fun _ wx => ∃ w8 g2 c2, wx = w8.setCell ⟨g, k * 4 + 3, none⟩ (.slice (some ⟨g2, 0, none⟩) nn2 c2) ∧ Keeps (fun _ => False) w7 w8 ∧ OwnN w8 g2 nn2 c2 f.code ∧ w7.heap.size ≤ g2)
            case first =>
              skip
              refine wp_region_late (S := (fun W : World => W.cell? ⟨qb, 1, none⟩ = some (.slice (some ⟨g, 0, none⟩) n5 cq) ∧ W.cell? ⟨pb, 1, none⟩ = some (.slice (some ⟨b, o, none⟩) n5 cap) ∧ W.cell? ⟨b, o + k * 4 + 3, none⟩ = some (.slice (some ⟨cb, co, none⟩) nn2 d2))) (T := [12]) (by kernel_rfl) ?_
              have hHeld := HSC7.out _ ((Keeps.refl (fun _ : Nat => False) w7).drew)
              refine late_take0 (i := 0) (oi := { dst := some 102, op := _, type := _, pos := _, after := _, guard := _ }) (v := .pointer (some ⟨qb, 1, none⟩)) rfl (by kernel_rfl) (by kernel_rfl) (by kernel_rfl) (fun _ _ _ h => h) (Or.inl ⟨by rfl, ?_⟩) ?_
              · intro W9 hSW
                (try dsimp only at hSW)
                go_simp
              try simp only [Act.put, List.setIfInBounds_toArray, List.set_cons_zero, List.set_cons_succ]
              refine late_take (i := 1) (oi := { dst := some 103, op := _, type := _, pos := _, after := _, guard := _ }) (v := .slice (some ⟨g, 0, none⟩) n5 cq) rfl (by kernel_rfl) (by kernel_rfl) (by kernel_rfl) (by kernel_rfl) (fun _ _ _ h => h) (Or.inl ⟨by rfl, ?_⟩) hHeld ?_
              · intro W9 hSW
                (try dsimp only at hSW)
                obtain ⟨hS0, hS1, hS2⟩ := hSW
                go_simp
              try simp only [Act.put, List.setIfInBounds_toArray, List.set_cons_zero, List.set_cons_succ]
              refine late_take0 (i := 2) (oi := { dst := some 104, op := _, type := _, pos := _, after := _, guard := _ }) (v := .int .i64 (k : Int)) rfl (by kernel_rfl) (by kernel_rfl) (by kernel_rfl) (fun _ _ _ h => h) (Or.inl ⟨by rfl, ?_⟩) ?_
              · intro W9 hSW
                (try dsimp only at hSW)
                go_simp
              try simp only [Act.put, List.setIfInBounds_toArray, List.set_cons_zero, List.set_cons_succ]
              refine late_take0 (i := 3) (oi := { dst := some 105, op := _, type := _, pos := _, after := _, guard := _ }) (v := .pointer (some ⟨pb, 1, none⟩)) rfl (by kernel_rfl) (by kernel_rfl) (by kernel_rfl) (fun _ _ _ h => h) (Or.inl ⟨by rfl, ?_⟩) ?_
              · intro W9 hSW
                (try dsimp only at hSW)
                go_simp
              try simp only [Act.put, List.setIfInBounds_toArray, List.set_cons_zero, List.set_cons_succ]
              refine late_take (i := 4) (oi := { dst := some 106, op := _, type := _, pos := _, after := _, guard := _ }) (v := .slice (some ⟨b, o, none⟩) n5 cap) rfl (by kernel_rfl) (by kernel_rfl) (by kernel_rfl) (by kernel_rfl) (fun _ _ _ h => h) (Or.inl ⟨by rfl, ?_⟩) hHeld ?_
              · intro W9 hSW
                (try dsimp only at hSW)
                obtain ⟨hS0, hS1, hS2⟩ := hSW
                go_simp
              try simp only [Act.put, List.setIfInBounds_toArray, List.set_cons_zero, List.set_cons_succ]
              refine late_take0 (i := 5) (oi := { dst := some 107, op := _, type := _, pos := _, after := _, guard := _ }) (v := .int .i64 (k : Int)) rfl (by kernel_rfl) (by kernel_rfl) (by kernel_rfl) (fun _ _ _ h => h) (Or.inl ⟨by rfl, ?_⟩) ?_
              · intro W9 hSW
                (try dsimp only at hSW)
                go_simp
              try simp only [Act.put, List.setIfInBounds_toArray, List.set_cons_zero, List.set_cons_succ]
              refine late_take0 (i := 6) (oi := { dst := some 108, op := _, type := _, pos := _, after := _, guard := _ }) (v := .pointer (some ⟨b, o + k * 4, none⟩)) rfl (by kernel_rfl) (by kernel_rfl) (by kernel_rfl) (fun _ _ _ h => h) (Or.inl ⟨by rfl, ?_⟩) ?_
              · intro W9 hSW
                (try dsimp only at hSW)
                go_simp
              try simp only [Act.put, List.setIfInBounds_toArray, List.set_cons_zero, List.set_cons_succ]
              refine late_take0 (i := 7) (oi := { dst := some 109, op := _, type := _, pos := _, after := _, guard := _ }) (v := .pointer (some ⟨b, o + k * 4 + 3, none⟩)) rfl (by kernel_rfl) (by kernel_rfl) (by kernel_rfl) (fun _ _ _ h => h) (Or.inl ⟨by rfl, ?_⟩) ?_
              · intro W9 hSW
                (try dsimp only at hSW)
                go_simp
              try simp only [Act.put, List.setIfInBounds_toArray, List.set_cons_zero, List.set_cons_succ]
              refine late_take (i := 8) (oi := { dst := some 110, op := _, type := _, pos := _, after := _, guard := _ }) (v := .slice (some ⟨cb, co, none⟩) nn2 d2) rfl (by kernel_rfl) (by kernel_rfl) (by kernel_rfl) (by kernel_rfl) (fun _ _ _ h => h) (Or.inl ⟨by rfl, ?_⟩) hHeld ?_
              · intro W9 hSW
                (try dsimp only at hSW)
                obtain ⟨hS0, hS1, hS2⟩ := hSW
                go_simp
              try simp only [Act.put, List.setIfInBounds_toArray, List.set_cons_zero, List.set_cons_succ]
              clear hHeld
              have hHeld := HSC7.out _ ((Keeps.refl (fun _ : Nat => False) w7).drew)
              clear hHeld
              refine late_ready (rs := [9]) (by kernel_rfl) (by simp) ?_
              refine LateAll.cons (o := { dst := some 111, op := _, type := _, pos := _, after := _, guard := _ }) rfl (fun K hK => ?_) LateAll.nil
              go_simp
              refine (cloneN_any cb co nn2 d2 f.code w7.drew hn26 hmp (HCI7.out _ (Keeps.refl _ _).drew)).mono ?_
              rintro e w8 ⟨g2, c2, rfl, hg3, hon, hb8⟩
              have hk8 : Keeps (fun _ => False) w7 w8 := ((Keeps.refl _ _).drew).trans (Keeps.of_new hb8)
              have HK8 := Lib.hid hk8
              have HON := Lib.hid hon
              have HG3 : Hid (w7.heap.size ≤ g2) := Lib.hid hg3
              have hrw : w8.ownsRow w6.heap.size 47 4 (.slice (some ⟨g, 0, none⟩) n5 cq) n5 (fxsC gs) := hk8.row HNQ.out.row fun _ _ => id
              have HRW := Lib.hid hrw
              clear hk8 hon hb8 hg3 hrw
              refine hK.out _ _ (fun _ => HSC7.out _ HK8.out) ?_
              clear hK K
              try simp only [Act.put, List.setIfInBounds_toArray, List.set_cons_zero, List.set_cons_succ]
              refine late_take0 (i := 10) (oi := { dst := some 112, op := _, type := _, pos := _, after := _, guard := _ }) (v := .pointer (some ⟨g, k * 4, none⟩)) rfl (by kernel_rfl) (by kernel_rfl) (by kernel_rfl) (fun _ _ _ h => h) (Or.inl ⟨by rfl, ?_⟩) ?_
              · intro W9 hSW
                (try dsimp only at hSW)
                go_simp
              try simp only [Act.put, List.setIfInBounds_toArray, List.set_cons_zero, List.set_cons_succ]
              refine late_take0 (i := 11) (oi := { dst := some 113, op := _, type := _, pos := _, after := _, guard := _ }) (v := .pointer (some ⟨g, k * 4 + 3, none⟩)) rfl (by kernel_rfl) (by kernel_rfl) (by kernel_rfl) (fun _ _ _ h => h) (Or.inl ⟨by rfl, ?_⟩) ?_
              · intro W9 hSW
                (try dsimp only at hSW)
                go_simp
              try simp only [Act.put, List.setIfInBounds_toArray, List.set_cons_zero, List.set_cons_succ]
              obtain ⟨gk, hgk1, hgk2⟩ := HGK.out
              have z0 := own_freeC HRW.out (k * 4 + 3)
              have y0 := World.ownsRow.cells HRW.out (g := g) rfl _ _ (fxsC_get gs k 3 gk _ hgk1 rfl)
              rw [addr_add] at y0
              clear hgk1 hgk2
              refine late_ready (rs := [12]) (by kernel_rfl) (by simp) ?_
              refine LateAll.cons (o := { dst := none, op := _, type := _, pos := _, after := _, guard := _ }) rfl (fun K hK => ?_) LateAll.nil
              go_simp
              refine hK.out _ _ (fun h => absurd (show (12 : Nat) ∈ [12] by decide) h) ?_
              clear hK K y0 z0
              refine late_done (by kernel_rfl) ?_ _
              go_wp2_with fail
              go_meet
              exact ⟨w8, g2, c2, rfl, HK8.out, HON.out, HG3.out⟩
            case rest =>
              rename World => w9
              obtain ⟨w8, g2, c2, hw9, hk8, hon8, hg2⟩ := hcut
              obtain ⟨gk, hgk1, hgk2⟩ := HGK.out
              have hgg : g2 ≠ g := by have := HGQ.out.2.2; omega
              have hgq : g2 ≠ qb := by have := HNQ.out.blk.lt; omega
              have hks9 : Keeps (fun j => j = g) w8 w9 := by rw [hw9]; exact own_set w8 g _ _
              have hrow9 : w9.ownsRow w6.heap.size 47 4 (.slice (some ⟨g, 0, none⟩) n5 cq) n5 (fxsC (gs.set k (⟨f.params, f.locals, f.kind, f.code.set a (xa, xb)⟩, gk.2.1, .slice (some ⟨g2, 0, none⟩) nn2 c2))) := by
                rw [hw9, ← fxsC_code gs k gk _ _ hgk1 (by rw [hgk2]) (by rw [hgk2])]
                exact own_setC (hk8.row HNQ.out.row fun _ _ => id) _
              have hon9 : OwnN w9 g2 nn2 c2 f.code := hon8.keeps hks9 hgg
              have hblk9 : BlkO w9 qb [.int .i64 gl, .slice (some ⟨g, 0, none⟩) n5 cq] := (HNQ.out.blk.keeps hk8 id).keeps hks9 (fun e => HGQ.out.1 e.symm)
              have hfb9 : BlkO w9 fb [.int .i64 xa, .int .i64 xb] := (HFB7.out.keeps hk8 id).keeps hks9 (fun e => by have h1 := HGQ.out.2.1; have h2 := (HZ2.out.below HW6.out).lt; omega)
              have hk69 : Keeps (fun _ => False) w6 w9 := (HNQ.out.keep.trans hk8).trans' hks9 fun c hc e => by have h1 := HGQ.out.2.1; omega
              have HK69 := Lib.hid hk69
              have HROW9 := Lib.hid hrow9
              have HON9 := Lib.hid hon9
              have HBLK9 := Lib.hid hblk9
              have HG2 : Hid (w6.heap.size ≤ g2 ∧ g2 ≠ g ∧ g2 ≠ qb) := Lib.hid ⟨by have := HNQ.out.keep.size; omega, hgg, hgq⟩
              have HGK1 : Hid (gs[k]? = some gk ∧ gk.1 = f) := Lib.hid ⟨hgk1, hgk2⟩
              have q1 := hblk9.at_ 1 _ rfl
              have x0 := hfb9.at_ 0 _ rfl
              have x1 := hfb9.at_ 1 _ rfl
              have y3 : w9.cell? ⟨g, k * 4 + 3, none⟩ = some (.slice (some ⟨g2, 0, none⟩) nn2 c2) := by
                have hkl := (List.getElem?_eq_some_iff.1 hgk1).1
                have := World.ownsRow.cells hrow9 (g := g) rfl _ _ (fxsC_get (gs.set k (⟨f.params, f.locals, f.kind, f.code.set a (xa, xb)⟩, gk.2.1, .slice (some ⟨g2, 0, none⟩) nn2 c2)) k 3 _ _ (by rw [List.getElem?_set_self hkl]) rfl)
                rwa [addr_add] at this
              have hal : a < f.code.length := by rw [hon9.len]; exact han
              obtain ⟨u5, u6, y5, y6⟩ : ∃ u5 u6, w9.cell? ⟨g2, a * 2, none⟩ = some u5 ∧ w9.cell? ⟨g2, a * 2 + 1, none⟩ = some u6 := by
                obtain ⟨r5, r6⟩ := cellsN_get f.code a _ (List.getElem?_eq_getElem hal)
                exact ⟨_, _, hon9.at_ _ _ r5, hon9.at_ _ _ r6⟩
              have y7 := hon9.free (a * 2)
              have y8 := hon9.free (a * 2 + 1)
              clear hk69 hrow9 hon9 hblk9 hfb9 hgg hgq hks9 hgk1 hgk2 hg2 hk8 hon8 hw9 hal
              go_upto_region 16 with fail
              go_region
              obtain ⟨w10, hw10⟩ : ∃ w10, w10 = ((w9.setCell ⟨g2, a * 2, none⟩ (.int .i64 xa)).setCell ⟨g2, a * 2 + 1, none⟩ (.int .i64 xb)).drew := ⟨_, rfl⟩
              rw [← hw10]
              have hks10 : Keeps (fun j => j = g2) w9 w10 := by rw [hw10]; exact ((own_set w9 g2 _ _).trans (own_set _ g2 _ _)).drew
              have hk610 : Keeps (fun _ => False) w6 w10 := HK69.out.trans' hks10 fun c hc e => by have := HG2.out.1; omega
              have hb610 : Below w6.heap.size w6 w10 := hk610.below (Nat.le_refl _) fun _ _ e => e.elim
              have hon10 : OwnN w10 g2 nn2 c2 (f.code.set a (xa, xb)) := by rw [hw10]; exact (HON9.out.set a (xa, xb) han).keeps ((Keeps.refl (fun _ => False) _).drew) id
              have hrow10 := hks10.row HROW9.out fun c hc e => HG2.out.2.1 (e.symm.trans (Option.some.inj hc).symm)
              have hblk10 := HBLK9.out.keeps hks10 fun e => HG2.out.2.2 e.symm
              obtain ⟨f', hf'⟩ : ∃ f' : FnV, f' = ⟨f.params, f.locals, f.kind, f.code.set a (xa, xb)⟩ := ⟨_, rfl⟩
              obtain ⟨q, hq⟩ : ∃ q : Pg, q = ⟨p.globals, p.fns.set k f'⟩ := ⟨_, rfl⟩
              have hfx : ∀ y ∈ gs.set k (⟨f.params, f.locals, f.kind, f.code.set a (xa, xb)⟩, gk.2.1, .slice (some ⟨g2, 0, none⟩) nn2 c2), FxAt w10 y := fun y hy => by
                rcases List.mem_or_eq_of_mem_set hy with h | h
                · exact (HGS3.out y h).below hb610
                · rw [h]
                  have h1 := (HGS3.out gk (List.mem_of_getElem? HGK1.out.1)).1
                  rw [HGK1.out.2] at h1
                  exact ⟨h1.below hb610, hon10.ins⟩
              have HQ : Hid (ProgAt w10 (.agg #[.int .i64 gl, .slice (some ⟨g, 0, none⟩) n5 cq]) q) := Lib.hid (by
                rw [hq]
                refine ⟨_, by rw [HGL.out], ?_⟩
                have h2 := own_fns hrow10 hfx
                rw [List.map_set, HGM.out] at h2
                rw [hf']
                exact h2)
              have HOTH : Hid (Other p q k a f (xa, xb)) := Lib.hid (by rw [hq, hf']; exact ⟨rfl, rfl, HFK.out⟩)
              have HB10 := Lib.hid (HB6.out.trans (hb610.mono HB6.out.size))
              have HW10 : Hid (Below w3.heap.size w3 w10) := Lib.hid (HW6.out.trans (hb610.mono HW6.out.size))
              have HBQ := Lib.hid hblk10
              have r0 := hblk10.at_ 0 _ rfl
              have r1 := hblk10.at_ 1 _ rfl
              have HRT := Lib.hid (right_any q _ w10 HQ.out)
              clear hw10 hks10 hk610 hb610 hon10 hrow10 hblk10 hf' hq hfx q1 x0 x1 y3 y5 y6 y7 y8
              go_wp2_with fail
              refine HRT.out.mono ?_
              rintro e w11 ⟨rfl, hb11⟩
              have HB11 := Lib.hid (HB10.out.trans (hb11.mono HB10.out.size))
              have HBQ11 := Lib.hid (HBQ.out.below hb11)
              have HQ11 := Lib.hid (HQ.out.below hb11)
              have HW11 := Lib.hid (HW10.out.trans (hb11.mono HW10.out.size))
              clear hb11 HRT r0 r1
              by_cases hpe : progE q = 0
              case neg =>
                rw [errV_nz hpe]
                clear hpe
                go_wp2_with fail
                go_ret
                exact ⟨rfl, HB11.out⟩
              have HLQ : Hid (lookA q = .ok l) := Lib.hid (dead_like HOTH.out HLK.out (by rw [← HPK.out.2.2.2]; exact HDK.out) (by rw [← HPK.out.2.2.2]; exact HNC.out) hpe)
              rw [hpe, errV_0]
              clear hpe
              have r0 := HBQ11.out.at_ 0 _ rfl
              have r1 := HBQ11.out.at_ 1 _ rfl
              have HSQ := Lib.hid (shapes_any q _ w11 HQ11.out)
              go_wp2_with fail
              refine HSQ.out.mono ?_
              rintro e w12 ⟨hs6, hb12⟩
              rw [HLQ.out] at hs6
              obtain ⟨v', rfl, htl'⟩ := hs6
              have HB12 := Lib.hid (HB11.out.trans (hb12.mono HB11.out.size))
              have HW12 := Lib.hid (HW11.out.trans (hb12.mono HW11.out.size))
              have HT' := Lib.hid htl'
              obtain ⟨a6, n6, c6, rfl, hn6, hnc6, hcm6, -⟩ := htl'
              unfold maxLen at hcm6
              rw [List.length_map, HLK.out.bounds.1, ← HN.out] at hn6
              subst hn6
              have HEQ := Lib.hid (same4_any (.slice (some ⟨tb, tq, none⟩) n6 c5) (.slice a6 n6 c6) (l.map shOf) w12 (HTL.out.below HW12.out) HT'.out)
              clear hb12 HSQ r0 r1
              go_wp2_with fail
              refine HEQ.out.mono ?_
              rintro e w13 ⟨rfl, hb13⟩
              have HB13 := Lib.hid (HB12.out.trans (hb13.mono HB12.out.size))
              clear hb13
              go_wp2_with fail
              go_ret
              exact ⟨rfl, HB13.out⟩
end Go.Proofs.YtlfcfaceeloedaaDoor
