/-
  The walks of package code's reader: count, ins, fn.
-/
import Derived.Test.YtjdihgmngiplkaaDoorCodeW5
namespace Go.Proofs.YtjdihgmngiplkaaDoor
open Go.RowKit Cd

set_option maxRecDepth 100000 in
set_option maxHeartbeats 3200000 in
theorem countR_any (most : Nat) (hmost : most ≤ 9000) (rb : Nat) (s : ByteArray) (r : Rd) (w : World) (h : RdB w rb s r) :
    Calls Tryd.prog 73 #[.pointer (some ⟨rb, 0, none⟩), .int .u64 (most : Nat)] w fun e w' => e = .returned (.int .i64 ((rdCount (bs s) most r).1 : Nat)) ∧ RdB w' rb s (rdCount (bs s) most r).2 ∧ Keeps (fun b => b = rb) w w' := by
  have c0 := h.blk.at_ 0 _ rfl
  have c1 := h.blk.at_ 1 _ rfl
  have hle := h.le
  have hsm := h.small
  have hlt := h.blk.lt
  have H := Lib.hid h
  have HC : Hid (∀ V, Below w.heap.size w V → V.cell? ⟨rb, 0, none⟩ = some (.string s) ∧ V.cell? ⟨rb, 1, none⟩ = some (.int .i64 (r.at_ : Nat))) := Lib.hid fun V hV => ⟨(H.out.below hV).blk.at_ 0 _ rfl, (H.out.below hV).blk.at_ 1 _ rfl⟩
  have hbb : Below w.heap.size w w := Below.refl _ _
  clear h
  obtain ⟨at_, er⟩ := r
  dsimp only at c1 hle HC
  cases hrd : rd ((bs s).drop at_) with
  | none =>
    have HV : Hid (rdCount (bs s) most ⟨at_, er⟩ = (0, Rd.wrong ⟨at_, er⟩ 3)) := Lib.hid (by unfold rdCount; rw [hrd])
    have HR := Lib.hid fun W => readNum_b s at_ 0 0 3 w W hsm hle (RN.rd_none hrd at_)
    have HW : Hid (∀ V, RdB V rb s ⟨at_, er⟩ → Calls Tryd.prog 102 #[.pointer (some ⟨rb, 0, none⟩), .int .i64 3] V fun e w' => e = .returned (.tuple #[]) ∧ RdB w' rb s (Rd.wrong ⟨at_, er⟩ 3) ∧ Keeps (fun b => b = rb) V w') := wrong_at3 3 (by decide)
    have HE : Hid (errV (Rd.wrong ⟨at_, er⟩ 3).err = .iface 26 (.int .i64 ((Rd.wrong ⟨at_, er⟩ 3).err : Nat))) := Lib.hid (errV_nz (wrong_err (by decide)))
    rw [errV_3] at HR
    clear hrd
    go_enter Tryd.func73, Tryd.ntmps73
    go_upto_region 1 with fail
    go_region_held3 (fun V : World => V.cell? ⟨rb, 0, none⟩ = some (.string s) ∧ V.cell? ⟨rb, 1, none⟩ = some (.int .i64 (at_ : Nat))) (first | exact HC.out _ (by assumption) | exact HC.out _ (Below.drew (by assumption)))
      ((first | (go_at_call 100; refine (HR.out _ ?_).mono ?_; (first | assumption | exact Below.drew (by assumption)); rintro e V1 ⟨rfl, hv1⟩)))
    have HB1 := Lib.hid hv1
    clear hv1 c0 c1 hbb
    go_wp2_with fail
    refine (HW.out _ (H.out.below HB1.out)).mono ?_
    rintro e w2 ⟨rfl, hr2, hk2⟩
    have d2 := hr2.blk.at_ 2 _ rfl
    rw [HE.out] at d2
    have HR2 := Lib.hid hr2
    have HK2 := Lib.hid hk2
    clear hr2 hk2
    go_wp2_with fail
    go_ret
    exact ⟨by rw [HV.out]; rfl, by rw [HV.out]; exact HR2.out, (Keeps.of_new HB1.out).trans HK2.out⟩
  | some n =>
    have hn := rd_some hrd
    have HR := Lib.hid fun W => readNum_b s at_ n _ 0 w W hsm hle (RN.rd_some hrd at_)
    rw [errV_0] at HR
    by_cases hmn : most < n
    · have HV : Hid (rdCount (bs s) most ⟨at_, er⟩ = (0, Rd.wrong ⟨at_, er⟩ 4)) := Lib.hid (by
        unfold rdCount
        rw [hrd]
        dsimp only
        rw [if_pos hmn])
      have HW : Hid (∀ V, RdB V rb s ⟨at_, er⟩ → Calls Tryd.prog 102 #[.pointer (some ⟨rb, 0, none⟩), .int .i64 4] V fun e w' => e = .returned (.tuple #[]) ∧ RdB w' rb s (Rd.wrong ⟨at_, er⟩ 4) ∧ Keeps (fun b => b = rb) V w') := wrong_at3 4 (by decide)
      have HE : Hid (errV (Rd.wrong ⟨at_, er⟩ 4).err = .iface 26 (.int .i64 ((Rd.wrong ⟨at_, er⟩ 4).err : Nat))) := Lib.hid (errV_nz (wrong_err (by decide)))
      have hmi : (most : Int) < (n : Int) := by omega
      generalize at_ + (Vy.enc n).length = nx at *
      clear hrd hn
      go_enter Tryd.func73, Tryd.ntmps73
      go_upto_region 1 with fail
      go_region_held3 (fun V : World => V.cell? ⟨rb, 0, none⟩ = some (.string s) ∧ V.cell? ⟨rb, 1, none⟩ = some (.int .i64 (at_ : Nat))) (first | exact HC.out _ (by assumption) | exact HC.out _ (Below.drew (by assumption)))
        ((first | (go_at_call 100; refine (HR.out _ ?_).mono ?_; (first | assumption | exact Below.drew (by assumption)); rintro e V1 ⟨rfl, hv1⟩)))
      have HB1 := Lib.hid hv1
      clear hv1 c0 c1 hbb
      go_wp2_with fail
      refine (HW.out _ (H.out.below HB1.out)).mono ?_
      rintro e w2 ⟨rfl, hr2, hk2⟩
      have d2 := hr2.blk.at_ 2 _ rfl
      rw [HE.out] at d2
      have HR2 := Lib.hid hr2
      have HK2 := Lib.hid hk2
      clear hr2 hk2
      go_wp2_with fail
      go_ret
      exact ⟨by rw [HV.out]; rfl, by rw [HV.out]; exact HR2.out, (Keeps.of_new HB1.out).trans HK2.out⟩
    · by_cases h2 : er = 0
      · subst h2
        have c2 := H.out.blk.at_ 2 _ rfl
        dsimp only at c2
        rw [errV_0] at c2
        have HV : Hid (rdCount (bs s) most ⟨at_, 0⟩ = (n, ⟨at_ + (Vy.enc n).length, 0⟩)) := Lib.hid (by
          unfold rdCount
          rw [hrd]
          dsimp only
          rw [if_neg hmn, if_pos rfl])
        have HL : Hid (at_ + (Vy.enc n).length ≤ s.size) := Lib.hid (by
          have := hn.len.2.1
          rw [List.length_drop, bs_length] at this
          omega)
        have hwn : wrap64 (n : Int) = (n : Int) := IntWalk.wrap64_in _ (by omega)
        have hmi : ¬ (most : Int) < (n : Int) := by omega
        generalize at_ + (Vy.enc n).length = nx at *
        have HC2 : Hid (∀ V, Below w.heap.size w V → V.cell? ⟨rb, 2, none⟩ = some .nilIface ∧ V.frozen? ⟨rb, 1, none⟩ = false ∧ RdB (V.setCell ⟨rb, 1, none⟩ (.int .i64 (nx : Nat))) rb s ⟨nx, 0⟩ ∧ Keeps (fun b => b = rb) w (V.setCell ⟨rb, 1, none⟩ (.int .i64 (nx : Nat)))) := Lib.hid fun V hV =>
          ⟨(H.out.below hV).blk.at_ 2 _ rfl, (H.out.below hV).blk.free 1, ⟨(H.out.below hV).blk.set 1 (.int .i64 (nx : Nat)) (show 1 < 3 by decide), HL.out, H.out.small⟩, (Keeps.of_new hV).trans (own_set _ _ _ _)⟩
        clear hrd hn c2
        go_enter Tryd.func73, Tryd.ntmps73
        go_upto_region 1 with fail
        go_region_held3 (fun V : World => V.cell? ⟨rb, 0, none⟩ = some (.string s) ∧ V.cell? ⟨rb, 1, none⟩ = some (.int .i64 (at_ : Nat))) (first | exact HC.out _ (by assumption) | exact HC.out _ (Below.drew (by assumption)))
          ((first | (go_at_call 100; refine (HR.out _ ?_).mono ?_; (first | assumption | exact Below.drew (by assumption)); rintro e V1 ⟨rfl, hv1⟩)))
        have HB1 := Lib.hid hv1
        obtain ⟨d2, f1, hr2, hk2⟩ := HC2.out _ hv1
        obtain ⟨d0, d1⟩ := HC.out _ hv1
        have HR2 := Lib.hid hr2
        have HK2 := Lib.hid hk2
        clear hv1 c0 c1 hbb hr2 hk2 HC HC2
        go_wp2_with fail
        go_ret
        exact ⟨by rw [HV.out]; rfl, by rw [HV.out]; exact HR2.out, HK2.out⟩
      · have c2 := H.out.blk.at_ 2 _ rfl
        dsimp only at c2
        rw [errV_nz h2] at c2
        have HV : Hid (rdCount (bs s) most ⟨at_, er⟩ = (0, ⟨at_, er⟩)) := Lib.hid (by
          unfold rdCount
          rw [hrd]
          dsimp only
          rw [if_neg hmn, if_neg h2])
        have HC2 : Hid (∀ V, Below w.heap.size w V → V.cell? ⟨rb, 2, none⟩ = some (.iface 26 (.int .i64 er))) := Lib.hid fun V hV => by
          have := (H.out.below hV).blk.at_ 2 _ rfl
          dsimp only at this
          rw [errV_nz h2] at this
          exact this
        have hwn : wrap64 (n : Int) = (n : Int) := IntWalk.wrap64_in _ (by omega)
        have hmi : ¬ (most : Int) < (n : Int) := by omega
        generalize at_ + (Vy.enc n).length = nx at *
        clear hrd hn c2 h2
        go_enter Tryd.func73, Tryd.ntmps73
        go_upto_region 1 with fail
        go_region_held3 (fun V : World => V.cell? ⟨rb, 0, none⟩ = some (.string s) ∧ V.cell? ⟨rb, 1, none⟩ = some (.int .i64 (at_ : Nat))) (first | exact HC.out _ (by assumption) | exact HC.out _ (Below.drew (by assumption)))
          ((first | (go_at_call 100; refine (HR.out _ ?_).mono ?_; (first | assumption | exact Below.drew (by assumption)); rintro e V1 ⟨rfl, hv1⟩)))
        have HB1 := Lib.hid hv1
        have d2 := HC2.out _ hv1
        clear hv1 c0 c1 hbb HC HC2
        go_wp2_with fail
        go_ret
        exact ⟨by rw [HV.out]; rfl, by rw [HV.out]; exact H.out.below HB1.out, Keeps.of_new HB1.out⟩

set_option maxRecDepth 100000 in
set_option maxHeartbeats 3200000 in
theorem rins_any (rb : Nat) (s : ByteArray) (r : Rd) (w : World) (h : RdB w rb s r) :
    Calls Tryd.prog 104 #[.pointer (some ⟨rb, 0, none⟩)] w fun e w' => e = .returned (.agg #[.int .i64 (rdIns (bs s) r).1.1, .int .i64 (rdIns (bs s) r).1.2]) ∧ RdB w' rb s (rdIns (bs s) r).2 ∧ Keeps (fun b => b = rb) w w' := by
  have hlt := h.blk.lt
  have hk1 := (Keeps.refl (fun b => b = rb) w).alloc (.cells #[.int .i64 0, .int .i64 0] 55)
  have H1 := Lib.hid (h.keeps (S := fun _ => False) ((Keeps.refl _ w).alloc (.cells #[.int .i64 0, .int .i64 0] 55)) id)
  have HB1 := Lib.hid (BlkO.new w #[.int .i64 0, .int .i64 0] 55)
  have HK1 := Lib.hid hk1
  have HNE : Hid (w.heap.size ≠ rb) := Lib.hid (by omega)
  have hs1 : w.heap.size < (w.alloc (.cells #[.int .i64 0, .int .i64 0] 55)).heap.size := by simp
  clear h hk1
  go_enter Tryd.func104, Tryd.ntmps104
  go_upto_region 1 with fail
  generalize w.alloc (.cells #[.int .i64 0, .int .i64 0] 55) = w1 at *
  go_wp2_with fail
  refine (byte_any rb s r _ H1.out).mono ?_
  rintro e w2 ⟨rfl, hr2, hk2⟩
  have HR2 := Lib.hid hr2
  have HK2 := Lib.hid (HK1.out.trans hk2)
  have HB2 := Lib.hid (HB1.out.keeps hk2 HNE.out)
  have HS2 : Hid (w.heap.size < w2.heap.size ∧ rb < w2.heap.size) := Lib.hid ⟨HB2.out.lt, HR2.out.blk.lt⟩
  clear hr2 hk2 hs1
  obtain ⟨x, hx⟩ : ∃ x : Int, x = ((rdByte (bs s) r).1 : Nat) := ⟨_, rfl⟩
  have HX := Lib.hid hx
  rw [← hx]
  clear hx
  have HB3 := Lib.hid (BlkO.new w2 #[.int .i64 x, .int .i64 0] 55)
  have HA3 := Lib.hid ((Keeps.refl (fun _ : Nat => False) w2).alloc (.cells #[.int .i64 x, .int .i64 0] 55))
  have hbx : w2.heap.size ≠ rb ∧ w2.heap.size ≠ w.heap.size := by have := HS2.out; omega
  have HBX := Lib.hid hbx
  clear hbx
  go_upto_region 2 with fail
  generalize hw3 : w2.alloc (.cells #[.int .i64 x, .int .i64 0] 55) = w3 at *
  generalize hxb : w2.heap.size = xb at *
  clear hw3 hxb
  have c0 := HB3.out.at_ 0 _ rfl
  have c1 := HB3.out.at_ 1 _ rfl
  have HR3 := Lib.hid (HR2.out.keeps HA3.out id)
  have HB23 := Lib.hid (HB2.out.keeps HA3.out id)
  have HK3 := Lib.hid (HK2.out.trans (HA3.out.mono fun _ _ e => e.elim))
  have h0 := HB23.out.at_ 0 _ rfl
  have h1 := HB23.out.at_ 1 _ rfl
  have g0 := HB23.out.free 0
  have g1 := HB23.out.free 1
  go_wp2_with fail
  refine (hasN_any x _).mono ?_
  rintro e w4 ⟨rfl, rfl⟩
  cases hh : hasN x with
  | true =>
    have HV : Hid (rdIns (bs s) r = ((x, (rdNumber (bs s) (rdByte (bs s) r).2).1), (rdNumber (bs s) (rdByte (bs s) r).2).2)) := Lib.hid (by
      unfold rdIns
      rw [← HX.out, if_pos hh])
    clear hh h0 h1 g0 g1
    go_wp2_with fail
    refine (number_any rb s _ _ HR3.out).mono ?_
    rintro e w5 ⟨rfl, hr5, hk5⟩
    have HR5 := Lib.hid hr5
    have HB5 := Lib.hid (HB3.out.keeps hk5 HBX.out.1)
    have HB25 := Lib.hid (HB23.out.keeps hk5 HNE.out)
    have HK5 := Lib.hid (HK3.out.trans hk5)
    obtain ⟨y, hy⟩ : ∃ y, y = (rdNumber (bs s) (rdByte (bs s) r).2).1 := ⟨_, rfl⟩
    have HY := Lib.hid hy
    rw [← hy]
    have d1 := HB5.out.at_ 1 _ rfl
    have f1 := HB5.out.free 1
    clear hr5 hk5 hy c0 c1
    have HB6 := Lib.hid (HB5.out.set 1 (.int .i64 y) (show 1 < 2 by decide))
    have HA6 := Lib.hid (own_set w5 xb 1 (.int .i64 y))
    go_upto_region 4 with fail
    generalize w5.setCell ⟨xb, 1, none⟩ (.int .i64 y) = w6 at *
    clear d1 f1
    have c0 : w6.cell? ⟨xb, 0, none⟩ = some (.int .i64 x) := HB6.out.at_ 0 _ rfl
    have c1 : w6.cell? ⟨xb, 1, none⟩ = some (.int .i64 y) := HB6.out.at_ 1 _ rfl
    have HB26 := Lib.hid (HB25.out.keeps HA6.out fun e => HBX.out.2 e.symm)
    have h0 := HB26.out.at_ 0 _ rfl
    have h1 := HB26.out.at_ 1 _ rfl
    have g0 := HB26.out.free 0
    have g1 := HB26.out.free 1
    have HB7 := (HB26.out.set 0 (.int .i64 x) (show 0 < 2 by decide)).set 1 (.int .i64 y) (show 1 < 2 by decide)
    have r0 := HB7.at_ 0 _ rfl
    have r1 := HB7.at_ 1 _ rfl
    have HK7 : Hid (Keeps (fun b => b = rb) w ((w6.setCell ⟨w.heap.size, 0, none⟩ (.int .i64 x)).setCell ⟨w.heap.size, 1, none⟩ (.int .i64 y))) := Lib.hid (((HK5.out.trans' HA6.out fun b hb e => by have h9 : b = xb := e; have := HS2.out; omega).setCell (p := ⟨w.heap.size, 0, none⟩) (Or.inr (Nat.le_refl _)) _).setCell (p := ⟨w.heap.size, 1, none⟩) (Or.inr (Nat.le_refl _)) _)
    have HR7 : Hid (RdB ((w6.setCell ⟨w.heap.size, 0, none⟩ (.int .i64 x)).setCell ⟨w.heap.size, 1, none⟩ (.int .i64 y)) rb s (rdNumber (bs s) (rdByte (bs s) r).2).2) := Lib.hid
      (((HR5.out.keeps HA6.out fun e => HBX.out.1 e.symm).keeps (own_set w6 w.heap.size 0 _) fun e => HNE.out e.symm).keeps (own_set _ w.heap.size 1 _) fun e => HNE.out e.symm)
    clear HB7
    go_wp2_with fail
    refine bodyPost_ret (v := .agg #[.int .i64 x, .int .i64 y]) (by simp [results, Tryd.results104, go_sem, r0, r1] <;> rfl) rfl ?_
    exact ⟨by rw [HV.out, ← HY.out], by rw [HV.out]; exact HR7.out, HK7.out⟩
  | false =>
    have HV : Hid (rdIns (bs s) r = ((x, 0), (rdByte (bs s) r).2)) := Lib.hid (by
      unfold rdIns
      rw [← HX.out, if_neg (by rw [hh]; decide)])
    have HB7 := (HB23.out.set 0 (.int .i64 x) (show 0 < 2 by decide)).set 1 (.int .i64 0) (show 1 < 2 by decide)
    have r0 := HB7.at_ 0 _ rfl
    have r1 := HB7.at_ 1 _ rfl
    have HK7 : Hid (Keeps (fun b => b = rb) w ((w4.setCell ⟨w.heap.size, 0, none⟩ (.int .i64 x)).setCell ⟨w.heap.size, 1, none⟩ (.int .i64 0))) := Lib.hid ((HK3.out.setCell (p := ⟨w.heap.size, 0, none⟩) (Or.inr (Nat.le_refl _)) _).setCell (p := ⟨w.heap.size, 1, none⟩) (Or.inr (Nat.le_refl _)) _)
    have HR7 : Hid (RdB ((w4.setCell ⟨w.heap.size, 0, none⟩ (.int .i64 x)).setCell ⟨w.heap.size, 1, none⟩ (.int .i64 0)) rb s (rdByte (bs s) r).2) := Lib.hid
      ((HR3.out.keeps (own_set w4 w.heap.size 0 _) fun e => HNE.out e.symm).keeps (own_set _ w.heap.size 1 _) fun e => HNE.out e.symm)
    clear hh HB7
    go_wp2_with fail
    refine bodyPost_ret (v := .agg #[.int .i64 x, .int .i64 0]) (by simp [results, Tryd.results104, go_sem, r0, r1] <;> rfl) rfl ?_
    exact ⟨by rw [HV.out], by rw [HV.out]; exact HR7.out, HK7.out⟩
end Go.Proofs.YtjdihgmngiplkaaDoor
