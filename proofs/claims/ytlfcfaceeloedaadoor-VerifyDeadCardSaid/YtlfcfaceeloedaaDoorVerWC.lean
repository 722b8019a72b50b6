/-
  The walks of package verify's Verify and shape.
-/
import Derived.Test.YtlfcfaceeloedaaDoorVerWB
import Derived.Lib.ConvBytes
import Derived.Lib.AtoiErrMem
namespace Go.Proofs.YtlfcfaceeloedaaDoor
open Go.RowKit Go.Shelf Cd Ve

/-- What Verify answers. -/
def VerSays (w : World) (e : Ending) (w' : World) : LookA → Prop
  | .err n => e = .returned (errV n)
  | .at_ n place => ∃ b, e = .returned (.iface 103 (.pointer (some ⟨b, 0, none⟩))) ∧ w.heap.size ≤ b ∧ b < w'.heap.size ∧ w'.cell? ⟨b, 0, none⟩ = some (.int .i64 n) ∧ w'.cell? ⟨b, 1, none⟩ = some (.int .i64 place)
  | .ok _ => e = .returned .nilIface
set_option maxRecDepth 100000 in
set_option maxHeartbeats 3200000 in
theorem verify_any (p : Pg) (v : Value) (w : World) (hp : ProgAt w v p) : Calls Tryd.prog 36 #[v] w fun e w' => VerSays w e w' (lookA p) ∧ Below w.heap.size w w' := by
  have HP := Lib.hid hp
  obtain ⟨vf, rfl, ao, n, cap, rfl, -⟩ := hp
  have hb0 := (Below.refl w.heap.size w).alloc (Nat.le_refl _) (.cells #[.int .i64 p.globals, .slice ao n cap] 24)
  have HB0 := Lib.hid hb0
  have HL := Lib.hid (look_any p _ _ (HP.out.below hb0))
  clear hb0
  go_enter Tryd.func36, Tryd.ntmps36
  go_wp2_with fail
  refine HL.out.mono ?_
  rintro e w1 ⟨hs, hb1⟩
  have HB1 := Lib.hid (HB0.out.trans (hb1.mono HB0.out.size))
  have HSZ : Hid (w.heap.size ≤ (w.alloc (.cells #[.int .i64 p.globals, .slice ao n cap] 24)).heap.size) := Lib.hid HB0.out.size
  clear hb1 HL
  cases ha : lookA p with
  | err m =>
    rw [ha] at hs
    subst hs
    have HA := Lib.hid ha
    clear ha
    go_wp2_with fail
    go_ret
    refine ⟨?_, HB1.out⟩
    rw [HA.out]
    rfl
  | at_ m place =>
    rw [ha] at hs
    obtain ⟨b, rfl, h1, h2, h3, h4⟩ := hs
    have HX : Hid (w.heap.size ≤ b ∧ b < w1.heap.size ∧ w1.cell? ⟨b, 0, none⟩ = some (.int .i64 m) ∧ w1.cell? ⟨b, 1, none⟩ = some (.int .i64 place)) := Lib.hid ⟨Nat.le_trans HSZ.out h1, h2, h3, h4⟩
    have HA := Lib.hid ha
    clear ha h1 h2 h3 h4
    go_wp2_with fail
    go_ret
    refine ⟨?_, HB1.out⟩
    rw [HA.out]
    exact ⟨b, rfl, HX.out⟩
  | ok l =>
    rw [ha] at hs
    obtain ⟨v, gs, rfl, hst, -⟩ := hs
    obtain ⟨a5, c5, rfl⟩ := slice_of_own hst.row
    have HA := Lib.hid ha
    clear ha hst
    go_wp2_with fail
    go_ret
    refine ⟨?_, HB1.out⟩
    rw [HA.out]
    rfl

/-- Kinds as numbers. -/
def kindsI (u : Wt) : List Int := u.map fun x => (x.toNat : Int)
theorem bs_tx (u : Wt) : bs (tx u) = u.map UInt8.toNat := by simp [bs, tx]
set_option maxRecDepth 100000 in
set_option maxHeartbeats 6400000 in
theorem shape_any (L : Bool) (u : Wt) (hl : u.length ≤ 256) (w : World) : Calls Tryd.prog 38 #[.agg #[.bool L, .string (tx u)]] w fun e w' => ∃ v, e = .returned (.agg #[.bool L, v]) ∧ OwnI w' w.heap.size v (kindsI u) ∧ Below w.heap.size w w' := by
  obtain ⟨T, hT⟩ : ∃ T, T = tx u := ⟨_, rfl⟩
  have hTs : T.size = u.length := by rw [hT, tx_size]
  rw [← hT]
  have HT := Lib.hid hT
  have HTS := Lib.hid hTs
  clear hT
  obtain ⟨W3, hW3⟩ : ∃ W3, W3 = (((w.alloc (.cells #[.bool L, .string T] 82)).alloc (.cells #[.bool false, .slice none 0 0] 49)).alloc (.cells #[.bool L, .slice none 0 0] 49)) := ⟨_, rfl⟩
  have hkA : Keeps (fun _ => False) w W3 := by rw [hW3]; exact (((Keeps.refl _ w).alloc _).alloc _).alloc _
  have hbA := BlkO.new w #[.bool L, .string T] 82
  have hbB := BlkO.new (w.alloc (.cells #[.bool L, .string T] 82)) #[.bool false, .slice none 0 0] 49
  have hbC := BlkO.new ((w.alloc (.cells #[.bool L, .string T] 82)).alloc (.cells #[.bool false, .slice none 0 0] 49)) #[.bool L, .slice none 0 0] 49
  rw [show (w.alloc (.cells #[.bool L, .string T] 82)).heap.size = w.heap.size + 1 by simp] at hbB
  rw [show ((w.alloc (.cells #[.bool L, .string T] 82)).alloc (.cells #[.bool false, .slice none 0 0] 49)).heap.size = w.heap.size + 1 + 1 by simp] at hbC
  have hbA := hbA.keeps (((Keeps.refl (fun _ : Nat => False) _).alloc (.cells #[.bool false, .slice none 0 0] 49)).alloc (.cells #[.bool L, .slice none 0 0] 49)) id
  have hbB := hbB.keeps ((Keeps.refl (fun _ : Nat => False) _).alloc (.cells #[.bool L, .slice none 0 0] 49)) id
  rw [← hW3] at hbA hbB hbC
  have HSZ : Hid (W3.heap.size = w.heap.size + 1 + 1 + 1) := Lib.hid (by rw [hW3]; simp)
  have hcv := Lib.run_convert_string_bytes (P := Tryd.prog) W3 9 63 5 T Tryd.underlying9 Tryd.underlying63 Tryd.underlying5
  have a0 := hbA.at_ 0 _ rfl
  have a1 := hbA.at_ 1 _ rfl
  have HBA := Lib.hid hbA
  have HBB := Lib.hid hbB
  have HBC := Lib.hid hbC
  have HKA := Lib.hid hkA
  go_enter Tryd.func38, Tryd.ntmps38
  go_upto_region 2 with fail
  rw [← hW3]
  have hx4 : Keeps (fun _ => False) W3 (Lib.bytesWorld W3 5 T) := Keeps.of_new (Lib.bytesWorld_below _ _ _)
  have hr4 := RowAt.ofText W3 T
  have hs4 : W3.heap.size < (Lib.bytesWorld W3 5 T).heap.size := by rw [Lib.bytesWorld_size]; omega
  obtain ⟨W4, hW4⟩ : ∃ W4, W4 = Lib.bytesWorld W3 5 T := ⟨_, rfl⟩
  rw [← hW4] at hcv hx4 hr4 hs4
  obtain ⟨bb, hbb⟩ : ∃ bb, bb = W3.heap.size := ⟨_, rfl⟩
  rw [← hbb] at hr4 hs4 hcv
  obtain ⟨cp, hcp⟩ : ∃ cp, cp = grownCap W3 T.size 0 5 := ⟨_, rfl⟩
  rw [← hcp] at hcv
  obtain ⟨tb, htb⟩ : ∃ tb, tb = w.heap.size + 1 + 1 := ⟨_, rfl⟩
  obtain ⟨rb, hrb⟩ : ∃ rb, rb = w.heap.size + 1 := ⟨_, rfl⟩
  rw [← htb] at HBC ⊢
  rw [← hrb] at HBB ⊢
  have HNUM : Hid (tb = w.heap.size + 1 + 1 ∧ rb = w.heap.size + 1 ∧ bb = w.heap.size + 1 + 1 + 1 ∧ bb < W4.heap.size) := Lib.hid ⟨htb, hrb, by rw [hbb]; exact HSZ.out, hs4⟩
  have HR4 : Hid (∀ j, j < T.size → W4.cell? ⟨bb, j, none⟩ = some (.int .u8 (((u.map UInt8.toNat).getD j 0 : Nat) : Int))) := Lib.hid fun j hj => by
    have := (hr4 j (by rw [bs_length]; exact hj)).1
    rw [HT.out, bs_tx] at this
    exact this
  have HT4 := Lib.hid (HBC.out.keeps hx4 id)
  have HB4 := Lib.hid (HBB.out.keeps hx4 id)
  have HK4 := Lib.hid (HKA.out.trans hx4)
  clear hW3 hW4 hbb hcp htb hrb hr4 hx4 hs4 hkA hbA hbB hbC
  have hT9 : T.size ≤ 256 := by omega
  clear hTs
  go_wp2_with fail
  clear hcv a0 a1
  go_loopw [13] (fun iv wr => ∃ (k : Nat) (vk : Value), k ≤ T.size ∧ iv = .int .i64 k ∧ BlkO wr tb [.bool L, vk] ∧ OwnI wr W4.heap.size vk (kindsI (u.take k)) ∧ Keeps (fun b => b = tb) W4 wr) (fun iv _ => T.size - (intOf iv).toNat)
  case atStart => exact ⟨0, _, Nat.zero_le _, rfl, HT4.out, ownI_nil _ _, Keeps.refl _ _⟩
  case round =>
    obtain ⟨k, vk, hk, rfl, hb, ho, hkp⟩ := hrel
    rename World => wr
    obtain ⟨ak, ck, rfl⟩ := ho.slice
    have HB := Lib.hid hb
    have HO := Lib.hid ho
    have HKP := Lib.hid hkp
    have hlk : (kindsI (u.take k)).length = k := by unfold kindsI; rw [List.length_map, List.length_take]; have := HTS.out; omega
    rw [hlk] at HB HO
    have c1 := HB.out.at_ 1 _ rfl
    have z1 := HB.out.free 1
    have HLK := Lib.hid hlk
    by_cases hkm : k < T.size
    · have hki : (0 : Int) ≤ (k : Int) ∧ (k : Int) < (T.size : Int) := by omega
      have hki1 : (k : Int) < (T.size : Int) := by omega
      have cb : wr.cell? ⟨bb, k, none⟩ = some (.int .u8 (((u.map UInt8.toNat).getD k 0 : Nat) : Int)) := hkp.cell_of (HR4.out k hkm) (by have := HNUM.out; show ¬ bb = tb; omega)
      obtain ⟨x, hx⟩ : ∃ x : UInt8, u[k]? = some x := ⟨_, List.getElem?_eq_getElem (by have := HTS.out; omega)⟩
      have hxv : (u.map UInt8.toNat).getD k 0 = x.toNat := by rw [List.getD_eq_getElem?_getD, List.getElem?_map, hx]; rfl
      rw [hxv] at cb
      have HTK : Hid (kindsI (u.take (k + 1)) = kindsI (u.take k) ++ [(x.toNat : Int)]) := Lib.hid (by
        obtain ⟨h1, h2⟩ := List.getElem?_eq_some_iff.1 hx
        rw [List.take_succ_eq_append_getElem h1, h2]
        unfold kindsI
        rw [List.map_append]
        rfl)
      have hxl := x.toNat_lt
      obtain ⟨X, hX⟩ : ∃ X : Nat, X = x.toNat := ⟨_, rfl⟩
      rw [← hX] at cb HTK hxl
      have hwx : wrap64 (X : Int) = (X : Int) := by unfold wrap64; omega
      have hbig : W4.heap.size ≤ wr.heap.size := hkp.size
      obtain ⟨xs, hxs⟩ : ∃ xs, xs = kindsI (u.take k) := ⟨_, rfl⟩
      rw [← hxs] at HO HTK HLK
      have hxl2 : xs.length ≤ 1000000 := by rw [HLK.out]; omega
      rw [← HLK.out] at HO
      have HLE : Hid (∀ n c, (Value.slice ak n ck).ownBlock = some c → W4.heap.size ≤ c) := Lib.hid fun n c hc => ho.le c (by cases ak <;> exact hc)
      clear hx hxv hX hb ho hkp hlk hxs
      go_wp2_with (at_builtin; (try simp only [hwx]); refine wpList_appendI rfl _ _ rfl _ W4.heap.size _ xs (X : Int) HO.out (by simp [Act.eval, HLK.out]) rfl hxl2 hbig ?_)
      intro a4 c4 w4 hO4 hK4 hN4
      have HO4 := Lib.hid hO4
      have HK4' := Lib.hid hK4
      have HBX := Lib.hid (HB.out.keeps hK4 (fun e => by have h1 := HLE.out _ _ e; have h2 := HNUM.out; omega))
      have d1 := HBX.out.at_ 1 _ rfl
      have y1 := HBX.out.free 1
      clear hO4 hK4 hN4
      go_wp2_with fail
      go_roundw
      case rel =>
        have hks := own_set w4 tb 1 (.slice a4 (xs.length + 1) c4)
        refine ⟨k + 1, _, by omega, by go_num, HBX.out.set 1 (.slice a4 (xs.length + 1) c4) (show 1 < 2 by decide), ?_, ?_⟩
        · rw [HTK.out]
          refine HO4.out.keeps hks fun c hc e => ?_
          have h1 := HO4.out.le c hc
          have h2 := HNUM.out
          omega
        · exact (HKP.out.trans' HK4'.out fun c hc e => by have := HLE.out _ c e; omega).trans hks
      case measure => simp [intOf]; omega
    · obtain rfl : k = T.size := by omega
      have hr0 := (HB4.out.keeps hkp (by have := HNUM.out; omega))
      have r0 := hr0.at_ 0 _ rfl
      have r1 := hr0.at_ 1 _ rfl
      have f0 := hr0.free 0
      have f1 := hr0.free 1
      have c0 := HB.out.at_ 0 _ rfl
      have HR0 := Lib.hid hr0
      clear hb ho hkp hr0
      have hks := (own_set wr rb 0 (.bool L)).trans (own_set _ rb 1 (.slice ak T.size ck))
      have HR2 := Lib.hid ((HR0.out.set 0 (.bool L) (show 0 < 2 by decide)).set 1 (.slice ak T.size ck) (show 1 < 2 by decide))
      have s0 := HR2.out.at_ 0 _ rfl
      have s1 := HR2.out.at_ 1 _ rfl
      have HKS := Lib.hid hks
      clear hks
      go_wp2_with fail
      refine bodyPost_ret (v := .agg #[.bool L, .slice ak T.size ck]) (by simp [results, Tryd.results38, go_sem, s0, s1] <;> rfl) rfl ?_
      refine ⟨_, rfl, ?_, ?_⟩
      · have e : u.take T.size = u := List.take_of_length_le (by rw [HTS.out]; exact Nat.le_refl _)
        have := HO.out.keeps HKS.out fun c hc e => by
          have h1 := HO.out.le c hc
          have h2 := HNUM.out
          omega
        rw [e] at this
        exact own_mono this (by have := HNUM.out; omega)
      · refine (HK4.out.trans' (S := fun _ => False) (S' := fun b => b = tb ∨ b = rb) ((HKP.out.mono fun b _ e => Or.inl e).trans (HKS.out.mono fun b _ e => Or.inr e)) fun c hc e => ?_).below (Nat.le_refl _) fun _ _ e => e.elim
        have h2 := HNUM.out
        omega
end Go.Proofs.YtlfcfaceeloedaaDoor
