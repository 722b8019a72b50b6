/-
  The walk of package verify's look (the walk).
-/
import Derived.Test.YtlfcfaceeloedaaDoorVerWA
namespace Go.Proofs.YtlfcfaceeloedaaDoor
open Go.RowKit Go.Shelf Cd Ve

theorem errV_one : (Value.iface 26 (.int .i64 1)) = errV 1 := rfl
theorem fnsS_at : ∀ {p : Pg} {r : List FnV} {k j : Nat} {f : FnV}, (∀ (i : Nat) g, i < j → r[i]? = some g → (fnS p g).wrong = 0) → r[j]? = some f → (fnS p f).wrong ≠ 0 → fnsS p k r = .error ((fnS p f).wrong, ((k + j : Nat) : Int) * 9000 + (fnS p f).at_)
  | p, [], k, j, f, _, h, _ => by simp at h
  | p, g :: r, k, 0, f, _, h, h2 => by
    simp at h
    subst h
    unfold fnsS
    rw [if_pos h2]
    rfl
  | p, g :: r, k, j + 1, f, h1, h, h2 => by
    unfold fnsS
    rw [if_neg (by have := h1 0 g (Nat.succ_pos _) rfl; omega), fnsS_at (k := k + 1) (j := j) (fun i x hi hx => h1 (i + 1) x (by omega) (by simpa using hx)) (by simpa using h) h2]
    dsimp only
    rw [show k + 1 + j = k + (j + 1) by omega]
/-- So far all functions are right. -/
structure LookJ (w wr : World) (p : Pg) (k : Nat) (v : Value) (gs : List Gs) : Prop where
  st : StO w wr v gs
  gs : gs.map (·.2) = (p.fns.take k).map fun f => (fnS p f).ahead
  ok : ∀ (j : Nat) f, j < k → p.fns[j]? = some f → (fnS p f).wrong = 0
  bel : Below w.heap.size w wr
theorem LookJ.len {w wr : World} {p : Pg} {k : Nat} {v : Value} {gs : List Gs} (h : LookJ w wr p k v gs) (hk : k ≤ p.fns.length) : gs.length = k := by
  have := congrArg List.length h.gs
  rw [List.length_map, List.length_map, List.length_take] at this
  omega

set_option maxRecDepth 100000 in
set_option maxHeartbeats 12800000 in
theorem look_any (p : Pg) (v : Value) (w : World) (hp : ProgAt w v p) : Calls Tryd.prog 37 #[v] w fun e w' => LookSays w e w' (lookA p) ∧ Below w.heap.size w w' := by
  have HR := Lib.hid (right_any p v (w.alloc (.cells #[.int .i64 p.globals, .slice none 0 0] 24)))
  clear HR
  obtain ⟨vf, rfl, hf⟩ := hp
  obtain ⟨ao, n, cap, rfl, hn, hnc, hcm, hx⟩ := hf
  unfold maxLen at hcm
  obtain ⟨gl, hgl⟩ : ∃ gl, gl = p.globals := ⟨_, rfl⟩
  rw [← hgl]
  have HF : Hid (FnsAt w (.slice ao n cap) p.fns) := Lib.hid ⟨ao, n, cap, rfl, hn, hnc, hcm, hx⟩
  obtain ⟨W1, hW1⟩ : ∃ W1, W1 = w.alloc (.cells #[.int .i64 gl, .slice ao n cap] 24) := ⟨_, rfl⟩
  have HB1 : Hid (Below w.heap.size w W1) := Lib.hid (by rw [hW1]; exact (Below.refl _ w).alloc (Nat.le_refl _) _)
  have hP1 := BlkO.new w #[.int .i64 gl, .slice ao n cap] 24
  rw [← hW1] at hP1
  obtain ⟨pb, hpb⟩ : ∃ pb, pb = w.heap.size := ⟨_, rfl⟩
  rw [← hpb] at hP1
  have HPB := Lib.hid hpb
  have HP1 := Lib.hid hP1
  have q0 := hP1.at_ 0 _ rfl
  have q1 := hP1.at_ 1 _ rfl
  have HRT := Lib.hid (right_any p (.agg #[.int .i64 gl, .slice ao n cap]) W1 ⟨_, by rw [hgl], HF.out.below HB1.out⟩)
  have HN := Lib.hid hn
  have HGL := Lib.hid hgl
  clear hx hn hgl hP1
  go_enter Tryd.func37, Tryd.ntmps37
  go_upto_region 1 with fail
  rw [← hW1, ← hpb]
  clear hW1 hpb
  go_wp2_with fail
  refine HRT.out.mono ?_
  rintro e w2 ⟨rfl, hb2⟩
  have HB2 := Lib.hid (HB1.out.trans (hb2.mono HB1.out.size))
  have HP2 := Lib.hid (HP1.out.below hb2)
  have q0' := HP2.out.at_ 0 _ rfl
  have q1' := HP2.out.at_ 1 _ rfl
  clear hb2 q0 q1 HRT HP1 HB1
  by_cases hpe : progE p = 0
  case neg =>
    have HA : Hid (lookA p = .err (progE p)) := Lib.hid (by unfold lookA; rw [if_pos hpe])
    have HNZ := Lib.hid hpe
    rw [errV_nz hpe]
    clear hpe
    go_wp2_with fail
    go_ret2
    refine ⟨?_, HB2.out⟩
    rw [HA.out]
    show _ = _
    rw [errV_nz HNZ.out]
    rfl
  have HPR := Lib.hid ((progE_iff p).1 hpe)
  have HA0 : Hid (lookA p = if headB p then (match fnsS p 0 p.fns with
    | .error e => .at_ e.1 e.2
    | .ok l => .ok l) else .err 1) := Lib.hid (by unfold lookA; rw [if_neg (fun g => g hpe)]; rfl)
  rw [hpe, errV_0]
  clear hpe
  by_cases hn0 : n = 0
  · have HA : Hid (lookA p = .err 1) := Lib.hid (by
      rw [HA0.out, if_neg]
      have : p.fns = [] := List.length_eq_zero_iff.1 (by rw [← HN.out]; exact hn0)
      unfold headB
      rw [this]
      decide)
    subst hn0
    clear HA0
    go_wp2_with fail
    go_ret2
    exact ⟨by rw [HA.out]; rfl, HB2.out⟩
  have hn0i : ¬ (n : Int) = 0 := by omega
  have hnp : 0 < n := by omega
  have hnpi : (0 : Int) < (n : Int) := by omega
  have hnfl : 0 < p.fns.length := by rw [← HN.out]; exact hnp
  obtain ⟨b, o, c, hsl, g1, -, g3, -⟩ := HF.out.get hnfl
  rw [Value.slice.injEq] at hsl
  obtain ⟨rfl, -, rfl⟩ := hsl
  have hk0 := keeps_none HB2.out
  have g1 := hk0.cell_of g1 id
  have g3 := hk0.cell_of g3 id
  rw [Nat.zero_mul, Nat.add_zero] at g1 g3
  have HHB : Hid (headB p = (decide ((p.fns.getD 0 default).params = 0) && decide ((p.fns.getD 0 default).kind = 0))) := Lib.hid (by
    unfold headB
    cases hfs : p.fns with
    | nil => rw [hfs] at hnfl; exact absurd hnfl (Nat.lt_irrefl _)
    | cons f r => rfl)
  obtain ⟨pa0, hpa0⟩ : ∃ x, x = (p.fns.getD 0 default).params := ⟨_, rfl⟩
  obtain ⟨ki0, hki0⟩ : ∃ x, x = (p.fns.getD 0 default).kind := ⟨_, rfl⟩
  rw [← hpa0] at g1 HHB
  rw [← hki0] at g3 HHB
  clear hpa0 hki0 hk0 hnfl hn0
  by_cases hp0 : pa0 = 0
  case neg =>
    have HA : Hid (lookA p = .err 1) := Lib.hid (by rw [HA0.out, HHB.out]; simp [hp0])
    clear HA0
    go_wp2_with fail
    go_ret2
    exact ⟨by rw [HA.out]; rfl, HB2.out⟩
  subst hp0
  by_cases hk0 : ki0 = 0
  case neg =>
    have HA : Hid (lookA p = .err 1) := Lib.hid (by rw [HA0.out, HHB.out]; simp [hk0])
    have hk0b : (ki0 != 0) = true := by simp [hk0]
    clear HA0
    go_wp2_with fail
    go_ret2
    exact ⟨by rw [HA.out]; rfl, HB2.out⟩
  have HA : Hid (lookA p = match fnsS p 0 p.fns with
    | .error e => .at_ e.1 e.2
    | .ok l => .ok l) := Lib.hid (by rw [HA0.out, HHB.out]; simp [hk0])
  subst hk0
  clear HA0 HHB
  go_upto_region 7 with fail
  have hz : ((n : Int) == 0) = false := by simp; omega
  try rw [hz]
  clear hn0i hnp hnpi hz g1 g3 q0'
  go_wp2_with fail
  go_loopw [38, 5] (fun iv fv wr => ∃ (k : Nat) (gs : List Gs), k ≤ n ∧ iv = .int .i64 k ∧ Hid (LookJ w2 wr p k fv gs)) (fun iv _ _ => n - (intOf iv).toNat)
  case atStart => exact ⟨0, [], Nat.zero_le _, rfl, Lib.hid ⟨stO_nil _ _, rfl, fun _ _ h => absurd h (Nat.not_lt_zero _), Below.refl _ _⟩⟩
  case round =>
    obtain ⟨k, gs, hk, rfl, HJ⟩ := hrel
    rename World => wr
    by_cases hkn : k < n
    · have hkl : k < p.fns.length := by rw [← HN.out]; exact hkn
      obtain ⟨f, hf⟩ : ∃ f, f = p.fns.getD k default := ⟨_, rfl⟩
      have hfk : p.fns[k]? = some f := by rw [hf, List.getD_eq_getElem?_getD, List.getElem?_eq_getElem hkl]; rfl
      obtain ⟨b', o', c', hsl, f1, ⟨vl, f2, hli⟩, f3, vc, f4, hci⟩ := HF.out.get hkl
      rw [Value.slice.injEq] at hsl
      obtain ⟨e1, -, -⟩ := hsl
      cases e1
      rw [← hf] at f1 f3 hli hci
      have hbr := HB2.out.trans (HJ.out.bel.mono HB2.out.size)
      have hkr := keeps_none hbr
      have f1 := hkr.cell_of f1 id
      have f2 := hkr.cell_of f2 id
      have f3 := hkr.cell_of f3 id
      have f4 := hkr.cell_of f4 id
      have HFR : Hid (FnR f) := Lib.hid (HPR.out.each f (List.mem_of_getElem? hfk))
      have HFK := Lib.hid hfk
      have HLI := Lib.hid (hli.below HB2.out)
      have HCI := Lib.hid (hci.below HB2.out)
      have hn9 : f.code.length ≤ 9000 := HFR.out.code
      obtain ⟨a1, n1, d1, rfl, hn1, hnc1, hcm1, -⟩ := hli
      obtain ⟨a2, n2, d2, rfl, hn2, hnc2, hcm2, -⟩ := hci
      rw [← hn2] at hn9
      have HN2 := Lib.hid hn2
      obtain ⟨pa, hpa⟩ : ∃ pa, pa = f.params := ⟨_, rfl⟩
      obtain ⟨ki, hki⟩ : ∃ ki, ki = f.kind := ⟨_, rfl⟩
      rw [← hpa] at f1
      rw [← hki] at f3
      have HPK : Hid (pa = f.params ∧ ki = f.kind) := Lib.hid ⟨hpa, hki⟩
      have hpbr := HP2.out.keeps (S := fun _ => False) (Keeps.of_new HJ.out.bel) id
      have hkk : (k : Int) < (n : Int) := by omega
      have hkk0 : (0 : Int) ≤ (k : Int) := by omega
      have HKN : Hid (k < 12) := Lib.hid (by have := HPR.out.fns; omega)
      obtain ⟨W3, hW3⟩ : ∃ W3, W3 = wr.alloc (.cells #[.int .i64 pa, .slice a1 n1 d1, .int .i64 ki, .slice a2 n2 d2] 47) := ⟨_, rfl⟩
      have hfb := BlkO.new wr #[.int .i64 pa, .slice a1 n1 d1, .int .i64 ki, .slice a2 n2 d2] 47
      rw [← hW3] at hfb
      have hk3 : Keeps (fun _ => False) wr W3 := by rw [hW3]; exact (Keeps.refl _ _).alloc _
      have hp3 := hpbr.keeps hk3 id
      have HK3 := Lib.hid hk3
      obtain ⟨cs, hcs, hmk⟩ := make_stands n2 (by omega)
      have HCS := Lib.hid hcs
      have HLT3 : Hid (wr.heap.size < W3.heap.size) := Lib.hid (by rw [hW3]; simp)
      clear hf hfk hkl hbr hkr hn1 hn2 hpa hki hpbr hk3 hcs
      go_upto_region 10 with fail
      rw [← hW3]
      clear hW3 f1 f2 f3 f4
      obtain ⟨fb, hfbe⟩ : ∃ fb, fb = wr.heap.size := ⟨_, rfl⟩
      rw [← hfbe] at hfb HLT3 ⊢
      have HFBE := Lib.hid hfbe
      clear hfbe
      have x0 := hfb.at_ 0 _ rfl
      have x1 := hfb.at_ 1 _ rfl
      have x2 := hfb.at_ 2 _ rfl
      have x3 := hfb.at_ 3 _ rfl
      have y0 := hp3.at_ 0 _ rfl
      have y1 := hp3.at_ 1 _ rfl
      have l1 := hfb.lt
      have l2 := hp3.lt
      go_cut [8] from 43 to 49 (fun v8 wx => ∃ lb ab, v8 = .pointer (some ⟨lb, 0, none⟩) ∧ NewLk W3 wx lb ab n2 [.int .i64 gl, .slice (some ⟨b, o, none⟩) n cap, .int .i64 pa, .slice a1 n1 d1, .int .i64 ki, .slice a2 n2 d2])
      case first =>
        go_region
        all_goals go_wp2_with fail
        all_goals go_meet
        · exact ⟨_, _, rfl, newLk_b W3 n2 #[.int .i64 gl, .slice (some ⟨b, o, none⟩) n cap, .int .i64 pa, .slice a1 n1 d1, .int .i64 ki, .slice a2 n2 d2] _ _ _ _ rfl HCS.out⟩
        · exact ⟨_, _, rfl, newLk_a W3 n2 #[.int .i64 gl, .slice (some ⟨b, o, none⟩) n cap, .int .i64 pa, .slice a1 n1 d1, .int .i64 ki, .slice a2 n2 d2] _ _ _ _ rfl HCS.out⟩
      case rest =>
        rename World => wx
        obtain ⟨lb, ab, rfl, hnl⟩ := hcut
        have hbx : Below w2.heap.size w2 wx := (HJ.out.bel.trans (HK3.out.below HJ.out.bel.size fun _ _ e => e.elim)).trans (hnl.bel.mono (Nat.le_trans HJ.out.bel.size HK3.out.size))
        have hle : w2.heap.size ≤ W3.heap.size := Nat.le_trans HJ.out.bel.size HK3.out.size
        have hin : LkIn ⟨w2, p, .slice (some ⟨b, o, none⟩) n cap, f, .slice a1 n1 d1, .slice a2 n2 d2, lb, ab⟩ := ⟨HF.out.below HB2.out, HLI.out, HCI.out, Nat.le_trans hle hnl.lo, Nat.le_trans hle hnl.lo2, hnl.ne, HPR.out, HFR.out⟩
        obtain ⟨E, hE⟩ : ∃ E, E = LE.mk w2 p (.slice (some ⟨b, o, none⟩) n cap) f (.slice a1 n1 d1) (.slice a2 n2 d2) lb ab := ⟨_, rfl⟩
        rw [← hE] at hin
        have HEE : Hid (E.lb = lb ∧ E.ab = ab ∧ E.p = p ∧ E.f = f ∧ E.W0 = w2) := Lib.hid (by rw [hE]; exact ⟨rfl, rfl, rfl, rfl, rfl⟩)
        have HLK : Hid (LkAt E wx ⟨List.replicate E.f.code.length none, 0, [], 0⟩) := Lib.hid (by
          refine ⟨hin, by rw [HEE.out.2.2.2.2]; exact hbx, ?_, ?_, ⟨Nat.zero_le _, by simp, kok_nil, fun j u hj => ?_⟩⟩
          · have := hnl.l
            rw [hE]
            unfold lkC
            dsimp only
            rw [List.length_replicate, ← HN2.out, ← HGL.out, ← HPK.out.1, ← HPK.out.2]
            exact this
          · have := hnl.a
            rw [HEE.out.2.1, HEE.out.2.2.2.1, ← HN2.out]
            exact this
          · dsimp only at hj
            rw [List.getD_eq_getElem?_getD, List.getElem?_replicate] at hj
            split at hj <;> cases hj)
        have HFU := Lib.hid (function_any HLK.out)
        rw [HEE.out.1, HEE.out.2.2.1, HEE.out.2.2.2.1] at HFU
        have HX : Hid (Keeps (fun _ => False) wr wx ∧ fb ≤ wx.heap.size ∧ W3.heap.size ≤ lb ∧ W3.heap.size ≤ ab) := Lib.hid ⟨HK3.out.trans (Keeps.of_new hnl.bel), Nat.le_trans (Nat.le_of_lt HLT3.out) hnl.bel.size, hnl.lo, hnl.lo2⟩
        clear hbx hle hin hE hnl x0 x1 x2 x3 y0 y1 l1 l2 hmk hfb hp3
        go_wp2_with fail
        refine HFU.out.mono ?_
        rintro e w4 ⟨rfl, hs4⟩
        have HK4 : Hid (Keeps (fun _ => False) wr w4) := Lib.hid (HX.out.1.trans' hs4.kp fun i hi e => by
          have h1 := HFBE.out
          have h2 := HLT3.out
          have h3 := HX.out.2.2
          rcases e with e | e
          · rw [HEE.out.1] at e; omega
          · rw [HEE.out.2.1] at e; omega)
        have d9 := hs4.lk.c (j := 9) rfl
        have d7 := hs4.lk.c (j := 7) rfl
        have d6 := hs4.lk.c (j := 6) rfl
        have drow := hs4.lk.row
        have dlen := hs4.lk.ok.len
        have dat := hs4.lk.ok.at_
        rw [HEE.out.1] at d9 d7 d6
        rw [HEE.out.2.1] at d6 drow
        rw [HEE.out.2.2.2.1] at dlen
        have HLEN : Hid ((fnS p f).ahead.length ≤ 9000) := Lib.hid (by rw [dlen]; exact HFR.out.code)
        have HROW := Lib.hid drow
        have HABL := Lib.hid hs4.lk.row.lt
        rw [HEE.out.2.1] at HABL
        clear hs4 HFU HLK dlen drow
        obtain ⟨S, hS⟩ : ∃ S, S = fnS p f := ⟨_, rfl⟩
        rw [← hS] at d9 d7 d6 dat HLEN HROW
        have HS := Lib.hid hS
        clear hS
        by_cases hw : S.wrong = 0
        case neg =>
          have hwi : ¬ (S.wrong : Int) = 0 := by omega
          have HAN : Hid (lookA p = .at_ S.wrong ((k : Int) * 9000 + S.at_)) := Lib.hid (by
            rw [HA.out, fnsS_at (j := k) (f := f) (fun i g hi hg => HJ.out.ok i g hi hg) HFK.out (by rw [← HS.out]; exact hw), Nat.zero_add, ← HS.out])
          have hk12 := HKN.out
          have hm1 : IntKind.i64.wrap ((k : Int) * 9000) = (k : Int) * 9000 := by rw [IntKind.wrap_i64]; omega
          have hm2 : IntKind.i64.wrap ((k : Int) * 9000 + (S.at_ : Int)) = (k : Int) * 9000 + (S.at_ : Int) := by rw [IntKind.wrap_i64]; omega
          have HBX : Hid (Below w.heap.size w w4) := Lib.hid ((HB2.out.trans (HJ.out.bel.mono HB2.out.size)).trans (HK4.out.below (Nat.le_trans HB2.out.size HJ.out.bel.size) fun _ _ e => e.elim))
          generalize S.wrong = wrg at *
          generalize S.at_ = sat at *
          clear hw
          go_wp2_with fail
          go_region
          have hal := (Below.refl w4.heap.size w4).alloc (Nat.le_refl _) (.cells #[.int .i64 (wrg : Nat), .int .i64 ((k : Int) * 9000 + (sat : Nat))] 106)
          have hx9 := (BlkO.new w4 #[.int .i64 (wrg : Nat), .int .i64 ((k : Int) * 9000 + (sat : Nat))] 106).keeps ((Keeps.refl (fun _ : Nat => False) _).drew) id
          have HX9 := Lib.hid hx9
          have HB9 : Hid (Below w.heap.size w (w4.alloc (.cells #[.int .i64 (wrg : Nat), .int .i64 ((k : Int) * 9000 + (sat : Nat))] 106)).drew) := Lib.hid (HBX.out.trans (hal.mono HBX.out.size).drew)
          clear hal hx9
          go_wp2_with fail
          go_ret2
          refine ⟨?_, HB9.out⟩
          rw [HAN.out]
          exact ⟨w4.heap.size, rfl, HBX.out.size, HX9.out.lt, HX9.out.at_ 0 _ rfl, HX9.out.at_ 1 _ rfl⟩
        case pos =>
          rw [hw] at d9
          have hkl : k ≤ p.fns.length := by rw [← HN.out]; omega
          have hgl := HJ.out.len hkl
          have hal := (Below.refl w4.heap.size w4).alloc (Nat.le_refl _) (.cells #[.slice (some ⟨ab, 0, none⟩) S.ahead.length S.ahead.length] 80)
          have HST4 := Lib.hid (HJ.out.st.fresh HK4.out)
          have HOV := Lib.hid (own_below HST4.out.row hal)
          have HAL := Lib.hid hal
          have HBL4 : Hid (Below w2.heap.size w2 w4) := Lib.hid (HJ.out.bel.trans (HK4.out.below HJ.out.bel.size fun _ _ e => e.elim))
          have hbs : w2.heap.size ≤ (w4.alloc (.cells #[.slice (some ⟨ab, 0, none⟩) S.ahead.length S.ahead.length] 80)).heap.size := Nat.le_trans HBL4.out.size hal.size
          have hcn : ∀ (j : Nat) u, [Value.slice (some ⟨ab, 0, none⟩) S.ahead.length S.ahead.length][j]? = some u → (w4.alloc (.cells #[.slice (some ⟨ab, 0, none⟩) S.ahead.length S.ahead.length] 80)).cell? ⟨w4.heap.size, j, none⟩ = some u := fun j u hj => by
            rw [cell_of_row _ _ _ _ _ _ (heap_alloc_new _ _), ← Array.getElem?_toList]
            exact hj
          have hon : ∀ u ∈ [Value.slice (some ⟨ab, 0, none⟩) S.ahead.length S.ahead.length], u.oneCell' = true := fun u hu => by rw [List.mem_singleton.1 hu]; rfl
          have HABW : Hid (∀ c, u5.ownBlock = some c → ab ≠ c) := Lib.hid fun c hc => by
            have h1 := (World.ownsRow.lt HJ.out.st.row c hc).2
            have h2 := HX.out.2.2.2
            have h3 := HLT3.out
            have h4 := HFBE.out
            omega
          have HWZ := Lib.hid hw
          obtain ⟨L, hL⟩ : ∃ L, L = S.ahead.length := ⟨_, rfl⟩
          rw [← hL] at HOV HAL hbs hcn hon d6
          have HL := Lib.hid hL
          have hgl6 : gs.length ≤ 1000000 := by have := HKN.out; omega
          obtain ⟨gn, hgn⟩ : ∃ gn, gn = gs.length := ⟨_, rfl⟩
          rw [← hgn] at HOV hgl6
          have HGN := Lib.hid hgn
          clear hal hL hw hgl hkl hgn
          go_wp2_with (at_builtin; refine wpList_append3 rfl (.tmp 64) (.tmp 67) 77 80 (.slice none 0 0) 1 24 rfl Tryd.underlying77 info_stands rfl (by decide) (by decide) w2.heap.size _ gn _ [.slice (some ⟨ab, 0, none⟩) L L] w4.heap.size 1 HOV.out hgl6 rfl hcn hon hbs (by simp [Act.eval]) (by simp [Act.eval]) ?_)
          intro ao9 c9 w9 ho9 hk9 hn9'
          have HJ9 : Hid (LookJ w2 w9 p (k + 1) (.slice ao9 (gn + 1) c9) (gs ++ [(ab, S.ahead)])) := Lib.hid (by
            have hlt : ∀ c, u5.ownBlock = some c → c < w4.heap.size := fun c hc => (World.ownsRow.lt HST4.out.row c hc).2
            have hka : Keeps (fun b => u5.ownBlock = some b) w4 w9 := ((Keeps.of_new HAL.out).mono fun _ _ e => e).trans hk9
            refine ⟨⟨?_, fun g hg => ?_, fun c hc g hg => ?_⟩, ?_, fun j g hj hg => ?_, ?_⟩
            · rw [List.length_append, ← HGN.out]
              show w9.ownsRow _ _ _ _ (gn + 1) _
              have e : gsV (gs ++ [(ab, S.ahead)]) = gsV gs ++ [.slice (some ⟨ab, 0, none⟩) L L] := by unfold gsV; rw [List.map_append, HL.out]; rfl
              rw [e]
              exact ho9
            · rcases List.mem_append.1 hg with hg | hg
              · obtain ⟨r1, r2, r3⟩ := HST4.out.each g hg
                exact ⟨r1.keeps hka (fun e => HST4.out.off _ e g hg rfl), r2, r3⟩
              · rw [List.mem_singleton.1 hg]
                refine ⟨HROW.out.keeps hka (fun e => HABW.out _ e rfl), ?_, HLEN.out⟩
                have h2 := HX.out.2.2.2
                have h3 := HJ.out.bel.size
                have h4 := HLT3.out
                have h5 := HFBE.out
                dsimp only
                omega
            · have hg1 : g.1 < w4.heap.size := by
                rcases List.mem_append.1 hg with hg | hg
                · exact (HST4.out.each g hg).1.lt
                · rw [List.mem_singleton.1 hg]; exact HABL.out
              rcases hn9' c hc with h1 | h1
              · rcases List.mem_append.1 hg with hg | hg
                · exact HST4.out.off _ h1 g hg
                · rw [List.mem_singleton.1 hg]
                  exact HABW.out _ h1
              · have := HAL.out.size
                omega
            · rw [List.map_append, HJ.out.gs, List.take_succ_eq_append_getElem (by have := (List.getElem?_eq_some_iff.1 HFK.out).1; exact this), List.map_append]
              congr 1
              have := (List.getElem?_eq_some_iff.1 HFK.out).2
              simp [this, HS.out]
            · by_cases e : j = k
              · subst e
                rw [HFK.out] at hg
                cases hg
                rw [← HS.out]
                exact HWZ.out
              · exact HJ.out.ok j g (by omega) hg
            · exact (HBL4.out.trans (HAL.out.mono HBL4.out.size)).trans (hk9.below hbs fun c _ hc => (World.ownsRow.lt HOV.out c hc).1))
          clear ho9 hk9 hn9' hcn hon hbs HOV HAL
          go_wp2_with fail
          go_roundw
          case rel => exact ⟨k + 1, _, by omega, by go_num, HJ9⟩
          case measure => simp [intOf]; omega
    · obtain rfl : k = n := by omega
      have HAN : Hid (lookA p = .ok (p.fns.map fun f => (fnS p f).ahead)) := Lib.hid (by
        rw [HA.out, ok_fns fun f hf => ?_]
        obtain ⟨j, hj, rfl⟩ := List.mem_iff_getElem.1 hf
        exact HJ.out.ok j _ (by rw [HN.out]; exact hj) (List.getElem?_eq_getElem hj))
      obtain ⟨a5, c5, rfl⟩ := slice_of_own HJ.out.st.row
      go_wp2_with fail
      go_ret2
      refine ⟨?_, HB2.out.trans (HJ.out.bel.mono HB2.out.size)⟩
      rw [HAN.out]
      refine ⟨_, gs, rfl, ⟨own_mono HJ.out.st.row HB2.out.size, fun g hg => ⟨(HJ.out.st.each g hg).1, Nat.le_trans HB2.out.size (HJ.out.st.each g hg).2.1, (HJ.out.st.each g hg).2.2⟩, HJ.out.st.off⟩, ?_⟩
      rw [HJ.out.gs, List.take_of_length_le (by rw [HN.out]; exact Nat.le_refl _)]
end Go.Proofs.YtlfcfaceeloedaaDoor
