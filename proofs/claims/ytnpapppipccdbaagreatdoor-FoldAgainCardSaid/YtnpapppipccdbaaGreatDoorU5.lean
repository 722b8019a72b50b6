/-
  Texts of one proof, in build order: TreeSH TreeSI TreeSJ TreeSK TreeSL FoldW9 FoldX0 FoldX1 FoldX2
-/
import Derived.Test.YtnpapppipccdbaaGreatDoorU4
import Derived.Deep.RegionHeld
import Derived.Deep.DeepCutAuto
import Derived.Deep.CutRange
import Derived.Deep.CutBlock
set_option maxRecDepth 100000
set_option maxHeartbeats 12800000
namespace Go.Proofs.YtnpapppipccdbaaGreatDoor
open Go.RowKit Lx Tr
variable {w w' : World} {rb n d dd : Nat} {tv : Value} {E : Env}
theorem pH {dep : Nat} (w : World) (h : RdAt w rb tv E n dep) (hE : TEnv rb E w) (ht : (pk E n).text = dH) : Calls Tryz.prog 259 #[.pointer (some ⟨rb, 0, none⟩)] w fun e w' => ∃ r, Ev (fun f => Tr.stmt E f dep n) r /\ bL pG w w' rb tv E dep r e := by
 have hb0 : Below w.heap.size w (w.alloc (.cells #[.int .i64 0, .int .i64 0, .string ⟨#[]⟩, .pointer none, .pointer none, .slice none 0 0, .slice none 0 0, .slice none 0 0] 71)) := ((Keeps.refl (fun _ => False) w).alloc _).below (Nat.le_refl _) (fun _ _ e => e.elim)
 have hrv0 : Blk (w.alloc (.cells #[.int .i64 0, .int .i64 0, .string ⟨#[]⟩, .pointer none, .pointer none, .slice none 0 0, .slice none 0 0, .slice none 0 0] 71)) w.heap.size (st0 0) := Blk.new' w (st0 0) _ rfl
 have hp0 := aN _ (h.fresh hb0)
 have HPP : Hid (∀ W, Below w.heap.size w W -> Calls Tryz.prog 153 #[.pointer (some ⟨rb, 0, none⟩)] W fun e w' => e = .returned (aR (pk E n)) /\ Below W.heap.size W w') := zz fun W hb => aN W (h.fresh hb)
 have HEV : Hid (∀ r, Ev (fun f => wF E f n) r -> Ev (fun f => Tr.stmt E f dep n) r) := zz fun r hr => Ev.step (h := fun f => wF E f n) (fun f => by rw [dA, ht]; rfl) hr
 have HTX := zz ht
 have H0 := zz h
 have HE := zz hE
 have HLT := zz h.lt
 have HB0 := zz hb0
 have HRV0 := zz hrv0
 unfold aR at hp0 HPP
 have hTT : (pk E n).text = dH := ht
 obtain ⟨T, hT⟩ : ∃ T, T = mkT dH := ⟨_, rfl⟩
 have hT' : T = mkT (pk E n).text := by rw [hTT]; exact hT
 have b0 : (T.toList == [99, 108, 111, 115, 101]) = false := by rw [hT, Lib.toList_data]; rfl
 have b1 : (T.toList == [112, 114, 105, 110, 116]) = false := by rw [hT, Lib.toList_data]; rfl
 have b2 : (T.toList == [115, 108, 101, 101, 112]) = false := by rw [hT, Lib.toList_data]; rfl
 have b3 : (T.toList == [103, 111]) = false := by rw [hT, Lib.toList_data]; rfl
 have b4 : (T.toList == [114, 101, 116, 117, 114, 110]) = true := by rw [hT, Lib.toList_data]; rfl
 rw [<- hT'] at hp0 HPP
 have HP0 := zz hp0
 clear h hE hb0 hrv0 hp0 hT' ht hTT hT
 have hf := bW
 have hf1 := aY
 go_enter Tryz.func259, Tryz.ntmps259
 go_wp2_with fail
 refine HP0.out.mono ?_
 rintro e w1 ⟨rfl, hb1⟩
 have hb01 : Below w.heap.size w w1 := HB0.out.trans (hb1.mono HB0.out.size)
 have hrv1 := HRV0.out.fresh hb1
 obtain ⟨sb, hsb⟩ : ∃ sb, sb = w1.heap.size := ⟨_, rfl⟩
 have hsbn : w.heap.size < sb := by rw [hsb]; exact hrv1.lt
 have HSB := zz hsbn
 have hB1 : Blk (w1.alloc (.cells #[.int .i64 0, .int .i64 ((pk E n).at_ : Nat), .string ⟨#[]⟩, .pointer none, .pointer none, .slice none 0 0, .slice none 0 0, .slice none 0 0] 71)) sb (st0 (pk E n).at_) := Blk.new' w1 (st0 (pk E n).at_) _ hsb
 have hb2 : Below w.heap.size w (w1.alloc (.cells #[.int .i64 0, .int .i64 ((pk E n).at_ : Nat), .string ⟨#[]⟩, .pointer none, .pointer none, .slice none 0 0, .slice none 0 0, .slice none 0 0] 71)) := hb01.alloc hb01.size _
 have hrv2 : Blk (w1.alloc (.cells #[.int .i64 0, .int .i64 ((pk E n).at_ : Nat), .string ⟨#[]⟩, .pointer none, .pointer none, .slice none 0 0, .slice none 0 0, .slice none 0 0] 71)) w.heap.size (st0 0) := hrv1.keeps (S := fun _ => False) ((Keeps.refl _ w1).alloc _) id
 have HP1 := zz (HPP.out _ hb2)
 have HB1 := zz hB1
 have HB2 := zz hb2
 have HRV2 := zz hrv2
 clear hB1 hb2 hrv2 hrv1 hb01 hb1 hsbn HPP HP0
 go_wp2_with fail
 rw [<- hsb]
 clear hsb
 refine HP1.out.mono ?_
 rintro e w2 ⟨rfl, hb3⟩
 have HBs := zz (HB1.out.fresh hb3)
 have HRVs := zz (HRV2.out.fresh hb3)
 have HBW : Hid (Below w.heap.size w w2) := zz (HB2.out.trans (hb3.mono HB2.out.size))
 clear hb3 HB1 HRV2 HB2 HP1
 have hrs : rb < sb := by have := HSB.out; have := HLT.out; omega
 have HXP := zz (uO w2 (H0.out.fresh HBW.out) (HE.out.fresh HBW.out) HBs.out hrs HTX.out)
 have HRS := zz hrs
 clear hrs
 go_wp2_with fail
 refine HXP.out.mono ?_
 rintro e w3 ⟨r, hev, hsay⟩
 cases r with
 | out => exact hsay.elim
 | bad k a =>
  have hsay' : Threw w2 w3 rb k a e := hsay
  obtain ⟨b, rfl⟩ := aB hsay'
  exact ⟨rfl, _, HEV.out _ hev, hsay'.own HLT.out (Keeps.of_new HBW.out)⟩
 | ok s m =>
  obtain ⟨rfl, ⟨vs, hb3, hc3⟩, hr3, hk3⟩ := hsay
  cases s with
  | mk code at_ name dst val thn els css =>
  have hc3' := hc3
  obtain ⟨tv2, vv2, nv2, ev2, cv2, e2, hx1, hx2, hx3, _, hx5, _, hx7, _⟩ := hc3'
  obtain ⟨o1, rfl⟩ := aL hx1
  obtain ⟨o2, rfl⟩ := aL hx2
  obtain ⟨a3, l3, k3, rfl⟩ := hx3.form
  obtain ⟨a5, l5, k5, rfl⟩ := hx5.form
  obtain ⟨a7, l7, k7, rfl⟩ := hx7.form
  subst e2
  have HBt := zz hb3
  have HRV := zz (HRVs.out.keeps hk3 (fun e => by have := HSB.out; have := HLT.out; omega))
  have HRt := zz hr3
  have HKt : Hid (Keeps (fun b => b = rb) w w3) := zz ((Keeps.of_new (S := fun b => b = rb) HBW.out).trans' hk3 (fun i hi e => by have := HSB.out; omega))
  have HEVt := zz (HEV.out _ hev)
  have HSC := zz (StC.mono (G := fun b => sb < b) (fun b _ e => by have h1 : w2.heap.size <= b := e; have := HBs.out.lt; omega) hc3)
  clear hx1 hx2 hx3 hx5 hx7 hb3 hc3 hr3 hk3 hev
  have c0 := HBt.out.at_ 0 _ rfl
  have c1 := HBt.out.at_ 1 _ rfl
  have c2 := HBt.out.at_ 2 _ rfl
  have c3 := HBt.out.at_ 3 _ rfl
  have c4 := HBt.out.at_ 4 _ rfl
  have c5 := HBt.out.at_ 5 _ rfl
  have c6 := HBt.out.at_ 6 _ rfl
  have c7 := HBt.out.at_ 7 _ rfl
  have r0 := HRV.out.at_ 0 _ rfl
  have y0 := HRV.out.free 0
  have r1 := HRV.out.at_ 1 _ rfl
  have y1 := HRV.out.free 1
  have r2 := HRV.out.at_ 2 _ rfl
  have y2 := HRV.out.free 2
  have r3 := HRV.out.at_ 3 _ rfl
  have y3 := HRV.out.free 3
  have r4 := HRV.out.at_ 4 _ rfl
  have y4 := HRV.out.free 4
  have r5 := HRV.out.at_ 5 _ rfl
  have y5 := HRV.out.free 5
  have r6 := HRV.out.at_ 6 _ rfl
  have y6 := HRV.out.free 6
  have r7 := HRV.out.at_ 7 _ rfl
  have y7 := HRV.out.free 7
  have hne : w.heap.size ≠ sb := by have := HSB.out; omega
  have hne2 : sb ≠ w.heap.size := fun e => hne e.symm
  have HSB2 := zz hne
  go_wp2_with fail
  have hks : Keeps (fun b => b = sb \/ b = w.heap.size) w3 ((((((((w3.setCell ⟨w.heap.size, 0, none⟩ (.int .i64 (code : Nat))).setCell ⟨w.heap.size, 1, none⟩ (.int .i64 (at_ : Nat))).setCell ⟨w.heap.size, 2, none⟩ (.string (mkT name))).setCell ⟨w.heap.size, 3, none⟩ (.pointer o1)).setCell ⟨w.heap.size, 4, none⟩ (.pointer o2)).setCell ⟨w.heap.size, 5, none⟩ (.slice a3 l3 k3)).setCell ⟨w.heap.size, 6, none⟩ (.slice a5 l5 k5)).setCell ⟨w.heap.size, 7, none⟩ (.slice a7 l7 k7)) := ((((((((Keeps.refl (fun b => b = sb \/ b = w.heap.size) w3).setCell (S := fun b => b = sb \/ b = w.heap.size) (p := ⟨w.heap.size, 0, none⟩) (Or.inl (Or.inr rfl)) (.int .i64 (code : Nat))).setCell (S := fun b => b = sb \/ b = w.heap.size) (p := ⟨w.heap.size, 1, none⟩) (Or.inl (Or.inr rfl)) (.int .i64 (at_ : Nat))).setCell (S := fun b => b = sb \/ b = w.heap.size) (p := ⟨w.heap.size, 2, none⟩) (Or.inl (Or.inr rfl)) (.string (mkT name))).setCell (S := fun b => b = sb \/ b = w.heap.size) (p := ⟨w.heap.size, 3, none⟩) (Or.inl (Or.inr rfl)) (.pointer o1)).setCell (S := fun b => b = sb \/ b = w.heap.size) (p := ⟨w.heap.size, 4, none⟩) (Or.inl (Or.inr rfl)) (.pointer o2)).setCell (S := fun b => b = sb \/ b = w.heap.size) (p := ⟨w.heap.size, 5, none⟩) (Or.inl (Or.inr rfl)) (.slice a3 l3 k3)).setCell (S := fun b => b = sb \/ b = w.heap.size) (p := ⟨w.heap.size, 6, none⟩) (Or.inl (Or.inr rfl)) (.slice a5 l5 k5)).setCell (S := fun b => b = sb \/ b = w.heap.size) (p := ⟨w.heap.size, 7, none⟩) (Or.inl (Or.inr rfl)) (.slice a7 l7 k7)
  have hfin := eK HSC.out HRt.out HKt.out hks HSB.out HLT.out
  refine bodyPost_ret (v := .agg #[.int .i64 (code : Nat), .int .i64 (at_ : Nat), .string (mkT name), .pointer o1, .pointer o2, .slice a3 l3 k3, .slice a5 l5 k5, .slice a7 l7 k7]) (by simp [results, Tryz.results259, go_sem, r0, r1, r2, r3, r4, r5, r6, r7]) rfl ⟨.ok (.mk code at_ name dst val thn els css) _, HEVt.out, _, rfl, ⟨_, rfl, hfin.1⟩, hfin.2.1, hfin.2.2⟩
theorem wK {dep : Nat} (hK : kI rb tv E dep) (w : World) (h : RdAt w rb tv E n dep) (hE : TEnv rb E w) (ht : (pk E n).text = tIf) : Calls Tryz.prog 259 #[.pointer (some ⟨rb, 0, none⟩)] w fun e w' => ∃ r, Ev (fun f => Tr.stmt E f dep n) r /\ bL pG w w' rb tv E dep r e := by
 have hb0 : Below w.heap.size w (w.alloc (.cells #[.int .i64 0, .int .i64 0, .string ⟨#[]⟩, .pointer none, .pointer none, .slice none 0 0, .slice none 0 0, .slice none 0 0] 71)) := ((Keeps.refl (fun _ => False) w).alloc _).below (Nat.le_refl _) (fun _ _ e => e.elim)
 have hrv0 : Blk (w.alloc (.cells #[.int .i64 0, .int .i64 0, .string ⟨#[]⟩, .pointer none, .pointer none, .slice none 0 0, .slice none 0 0, .slice none 0 0] 71)) w.heap.size (st0 0) := Blk.new' w (st0 0) _ rfl
 have hp0 := aN _ (h.fresh hb0)
 have HPP : Hid (∀ W, Below w.heap.size w W -> Calls Tryz.prog 153 #[.pointer (some ⟨rb, 0, none⟩)] W fun e w' => e = .returned (aR (pk E n)) /\ Below W.heap.size W w') := zz fun W hb => aN W (h.fresh hb)
 have HKB := zz hK
 have HEV : Hid (∀ r, Ev (fun f => ifV E f dep n) r -> Ev (fun f => Tr.stmt E f dep n) r) := zz fun r hr => Ev.step (h := fun f => ifV E f dep n) (fun f => by rw [dA, ht]; rfl) hr
 have HTX := zz ht
 have H0 := zz h
 have HE := zz hE
 have HLT := zz h.lt
 have HB0 := zz hb0
 have HRV0 := zz hrv0
 unfold aR at hp0 HPP
 have hTT : (pk E n).text = tIf := ht
 obtain ⟨T, hT⟩ : ∃ T, T = mkT tIf := ⟨_, rfl⟩
 have hT' : T = mkT (pk E n).text := by rw [hTT]; exact hT
 have b0 : (T.toList == [99, 108, 111, 115, 101]) = false := by rw [hT, Lib.toList_data]; rfl
 have b1 : (T.toList == [112, 114, 105, 110, 116]) = false := by rw [hT, Lib.toList_data]; rfl
 have b2 : (T.toList == [115, 108, 101, 101, 112]) = false := by rw [hT, Lib.toList_data]; rfl
 have b3 : (T.toList == [103, 111]) = false := by rw [hT, Lib.toList_data]; rfl
 have b4 : (T.toList == [114, 101, 116, 117, 114, 110]) = false := by rw [hT, Lib.toList_data]; rfl
 have b5 : (T.toList == [98, 114, 101, 97, 107]) = false := by rw [hT, Lib.toList_data]; rfl
 have b6 : (T.toList == [99, 111, 110, 116, 105, 110, 117, 101]) = false := by rw [hT, Lib.toList_data]; rfl
 have b7 : (T.toList == [105, 102]) = true := by rw [hT, Lib.toList_data]; rfl
 rw [<- hT'] at hp0 HPP
 have HP0 := zz hp0
 clear h hE hb0 hrv0 hp0 hT' ht hTT hT
 have hf := bW
 have hf1 := aY
 go_enter Tryz.func259, Tryz.ntmps259
 go_wp2_with fail
 refine HP0.out.mono ?_
 rintro e w1 ⟨rfl, hb1⟩
 have hb01 : Below w.heap.size w w1 := HB0.out.trans (hb1.mono HB0.out.size)
 have hrv1 := HRV0.out.fresh hb1
 obtain ⟨sb, hsb⟩ : ∃ sb, sb = w1.heap.size := ⟨_, rfl⟩
 have hsbn : w.heap.size < sb := by rw [hsb]; exact hrv1.lt
 have HSB := zz hsbn
 have hB1 : Blk (w1.alloc (.cells #[.int .i64 0, .int .i64 ((pk E n).at_ : Nat), .string ⟨#[]⟩, .pointer none, .pointer none, .slice none 0 0, .slice none 0 0, .slice none 0 0] 71)) sb (st0 (pk E n).at_) := Blk.new' w1 (st0 (pk E n).at_) _ hsb
 have hb2 : Below w.heap.size w (w1.alloc (.cells #[.int .i64 0, .int .i64 ((pk E n).at_ : Nat), .string ⟨#[]⟩, .pointer none, .pointer none, .slice none 0 0, .slice none 0 0, .slice none 0 0] 71)) := hb01.alloc hb01.size _
 have hrv2 : Blk (w1.alloc (.cells #[.int .i64 0, .int .i64 ((pk E n).at_ : Nat), .string ⟨#[]⟩, .pointer none, .pointer none, .slice none 0 0, .slice none 0 0, .slice none 0 0] 71)) w.heap.size (st0 0) := hrv1.keeps (S := fun _ => False) ((Keeps.refl _ w1).alloc _) id
 have HP1 := zz (HPP.out _ hb2)
 have HB1 := zz hB1
 have HB2 := zz hb2
 have HRV2 := zz hrv2
 clear hB1 hb2 hrv2 hrv1 hb01 hb1 hsbn HPP HP0
 go_wp2_with fail
 rw [<- hsb]
 clear hsb
 refine HP1.out.mono ?_
 rintro e w2 ⟨rfl, hb3⟩
 have HBs := zz (HB1.out.fresh hb3)
 have HRVs := zz (HRV2.out.fresh hb3)
 have HBW : Hid (Below w.heap.size w w2) := zz (HB2.out.trans (hb3.mono HB2.out.size))
 clear hb3 HB1 HRV2 HB2 HP1
 have hrs : rb < sb := by have := HSB.out; have := HLT.out; omega
 have HXP := zz (yT HKB.out w2 (H0.out.fresh HBW.out) (HE.out.fresh HBW.out) HBs.out hrs HTX.out)
 have HRS := zz hrs
 clear hrs
 go_wp2_with fail
 refine HXP.out.mono ?_
 rintro e w3 ⟨r, hev, hsay⟩
 cases r with
 | out => exact hsay.elim
 | bad k a =>
  have hsay' : Threw w2 w3 rb k a e := hsay
  obtain ⟨b, rfl⟩ := aB hsay'
  exact ⟨rfl, _, HEV.out _ hev, hsay'.own HLT.out (Keeps.of_new HBW.out)⟩
 | ok s m =>
  obtain ⟨rfl, ⟨vs, hb3, hc3⟩, hr3, hk3⟩ := hsay
  cases s with
  | mk code at_ name dst val thn els css =>
  have hc3' := hc3
  obtain ⟨tv2, vv2, nv2, ev2, cv2, e2, hx1, hx2, hx3, _, hx5, _, hx7, _⟩ := hc3'
  obtain ⟨o1, rfl⟩ := aL hx1
  obtain ⟨o2, rfl⟩ := aL hx2
  obtain ⟨a3, l3, k3, rfl⟩ := hx3.form
  obtain ⟨a5, l5, k5, rfl⟩ := hx5.form
  obtain ⟨a7, l7, k7, rfl⟩ := hx7.form
  subst e2
  have HBt := zz hb3
  have HRV := zz (HRVs.out.keeps hk3 (fun e => by have := HSB.out; have := HLT.out; omega))
  have HRt := zz hr3
  have HKt : Hid (Keeps (fun b => b = rb) w w3) := zz ((Keeps.of_new (S := fun b => b = rb) HBW.out).trans' hk3 (fun i hi e => by have := HSB.out; omega))
  have HEVt := zz (HEV.out _ hev)
  have HSC := zz (StC.mono (G := fun b => sb < b) (fun b _ e => by have h1 : w2.heap.size <= b := e; have := HBs.out.lt; omega) hc3)
  clear hx1 hx2 hx3 hx5 hx7 hb3 hc3 hr3 hk3 hev
  have c0 := HBt.out.at_ 0 _ rfl
  have c1 := HBt.out.at_ 1 _ rfl
  have c2 := HBt.out.at_ 2 _ rfl
  have c3 := HBt.out.at_ 3 _ rfl
  have c4 := HBt.out.at_ 4 _ rfl
  have c5 := HBt.out.at_ 5 _ rfl
  have c6 := HBt.out.at_ 6 _ rfl
  have c7 := HBt.out.at_ 7 _ rfl
  have r0 := HRV.out.at_ 0 _ rfl
  have y0 := HRV.out.free 0
  have r1 := HRV.out.at_ 1 _ rfl
  have y1 := HRV.out.free 1
  have r2 := HRV.out.at_ 2 _ rfl
  have y2 := HRV.out.free 2
  have r3 := HRV.out.at_ 3 _ rfl
  have y3 := HRV.out.free 3
  have r4 := HRV.out.at_ 4 _ rfl
  have y4 := HRV.out.free 4
  have r5 := HRV.out.at_ 5 _ rfl
  have y5 := HRV.out.free 5
  have r6 := HRV.out.at_ 6 _ rfl
  have y6 := HRV.out.free 6
  have r7 := HRV.out.at_ 7 _ rfl
  have y7 := HRV.out.free 7
  have hne : w.heap.size ≠ sb := by have := HSB.out; omega
  have hne2 : sb ≠ w.heap.size := fun e => hne e.symm
  have HSB2 := zz hne
  go_wp2_with fail
  have hks : Keeps (fun b => b = sb \/ b = w.heap.size) w3 ((((((((w3.setCell ⟨w.heap.size, 0, none⟩ (.int .i64 (code : Nat))).setCell ⟨w.heap.size, 1, none⟩ (.int .i64 (at_ : Nat))).setCell ⟨w.heap.size, 2, none⟩ (.string (mkT name))).setCell ⟨w.heap.size, 3, none⟩ (.pointer o1)).setCell ⟨w.heap.size, 4, none⟩ (.pointer o2)).setCell ⟨w.heap.size, 5, none⟩ (.slice a3 l3 k3)).setCell ⟨w.heap.size, 6, none⟩ (.slice a5 l5 k5)).setCell ⟨w.heap.size, 7, none⟩ (.slice a7 l7 k7)) := ((((((((Keeps.refl (fun b => b = sb \/ b = w.heap.size) w3).setCell (S := fun b => b = sb \/ b = w.heap.size) (p := ⟨w.heap.size, 0, none⟩) (Or.inl (Or.inr rfl)) (.int .i64 (code : Nat))).setCell (S := fun b => b = sb \/ b = w.heap.size) (p := ⟨w.heap.size, 1, none⟩) (Or.inl (Or.inr rfl)) (.int .i64 (at_ : Nat))).setCell (S := fun b => b = sb \/ b = w.heap.size) (p := ⟨w.heap.size, 2, none⟩) (Or.inl (Or.inr rfl)) (.string (mkT name))).setCell (S := fun b => b = sb \/ b = w.heap.size) (p := ⟨w.heap.size, 3, none⟩) (Or.inl (Or.inr rfl)) (.pointer o1)).setCell (S := fun b => b = sb \/ b = w.heap.size) (p := ⟨w.heap.size, 4, none⟩) (Or.inl (Or.inr rfl)) (.pointer o2)).setCell (S := fun b => b = sb \/ b = w.heap.size) (p := ⟨w.heap.size, 5, none⟩) (Or.inl (Or.inr rfl)) (.slice a3 l3 k3)).setCell (S := fun b => b = sb \/ b = w.heap.size) (p := ⟨w.heap.size, 6, none⟩) (Or.inl (Or.inr rfl)) (.slice a5 l5 k5)).setCell (S := fun b => b = sb \/ b = w.heap.size) (p := ⟨w.heap.size, 7, none⟩) (Or.inl (Or.inr rfl)) (.slice a7 l7 k7)
  have hfin := eK HSC.out HRt.out HKt.out hks HSB.out HLT.out
  refine bodyPost_ret (v := .agg #[.int .i64 (code : Nat), .int .i64 (at_ : Nat), .string (mkT name), .pointer o1, .pointer o2, .slice a3 l3 k3, .slice a5 l5 k5, .slice a7 l7 k7]) (by simp [results, Tryz.results259, go_sem, r0, r1, r2, r3, r4, r5, r6, r7]) rfl ⟨.ok (.mk code at_ name dst val thn els css) _, HEVt.out, _, rfl, ⟨_, rfl, hfin.1⟩, hfin.2.1, hfin.2.2⟩
theorem pI {dep : Nat} (hC : dep < 12 -> wH rb tv E (dep + 1)) (w : World) (h : RdAt w rb tv E n dep) (hE : TEnv rb E w) (ht : (pk E n).text = dI) : Calls Tryz.prog 259 #[.pointer (some ⟨rb, 0, none⟩)] w fun e w' => ∃ r, Ev (fun f => Tr.stmt E f dep n) r /\ bL pG w w' rb tv E dep r e := by
 have hb0 : Below w.heap.size w (w.alloc (.cells #[.int .i64 0, .int .i64 0, .string ⟨#[]⟩, .pointer none, .pointer none, .slice none 0 0, .slice none 0 0, .slice none 0 0] 71)) := ((Keeps.refl (fun _ => False) w).alloc _).below (Nat.le_refl _) (fun _ _ e => e.elim)
 have hrv0 : Blk (w.alloc (.cells #[.int .i64 0, .int .i64 0, .string ⟨#[]⟩, .pointer none, .pointer none, .slice none 0 0, .slice none 0 0, .slice none 0 0] 71)) w.heap.size (st0 0) := Blk.new' w (st0 0) _ rfl
 have hp0 := aN _ (h.fresh hb0)
 have HPP : Hid (∀ W, Below w.heap.size w W -> Calls Tryz.prog 153 #[.pointer (some ⟨rb, 0, none⟩)] W fun e w' => e = .returned (aR (pk E n)) /\ Below W.heap.size W w') := zz fun W hb => aN W (h.fresh hb)
 have HCC := zz hC
 have HEV : Hid (∀ r, Ev (fun f => I5 E f dep n) r -> Ev (fun f => Tr.stmt E f dep n) r) := zz fun r hr => Ev.step (h := fun f => I5 E f dep n) (fun f => by rw [dA, ht]; rfl) hr
 have HTX := zz ht
 have H0 := zz h
 have HE := zz hE
 have HLT := zz h.lt
 have HB0 := zz hb0
 have HRV0 := zz hrv0
 unfold aR at hp0 HPP
 have hTT : (pk E n).text = dI := ht
 obtain ⟨T, hT⟩ : ∃ T, T = mkT dI := ⟨_, rfl⟩
 have hT' : T = mkT (pk E n).text := by rw [hTT]; exact hT
 have b0 : (T.toList == [99, 108, 111, 115, 101]) = false := by rw [hT, Lib.toList_data]; rfl
 have b1 : (T.toList == [112, 114, 105, 110, 116]) = false := by rw [hT, Lib.toList_data]; rfl
 have b2 : (T.toList == [115, 108, 101, 101, 112]) = false := by rw [hT, Lib.toList_data]; rfl
 have b3 : (T.toList == [103, 111]) = false := by rw [hT, Lib.toList_data]; rfl
 have b4 : (T.toList == [114, 101, 116, 117, 114, 110]) = false := by rw [hT, Lib.toList_data]; rfl
 have b5 : (T.toList == [98, 114, 101, 97, 107]) = false := by rw [hT, Lib.toList_data]; rfl
 have b6 : (T.toList == [99, 111, 110, 116, 105, 110, 117, 101]) = false := by rw [hT, Lib.toList_data]; rfl
 have b7 : (T.toList == [105, 102]) = false := by rw [hT, Lib.toList_data]; rfl
 have b8 : (T.toList == [102, 111, 114]) = false := by rw [hT, Lib.toList_data]; rfl
 have b9 : (T.toList == [115, 101, 108, 101, 99, 116]) = true := by rw [hT, Lib.toList_data]; rfl
 rw [<- hT'] at hp0 HPP
 have HP0 := zz hp0
 clear h hE hb0 hrv0 hp0 hT' ht hTT hT
 have hf := bW
 have hf1 := aY
 go_enter Tryz.func259, Tryz.ntmps259
 go_wp2_with fail
 refine HP0.out.mono ?_
 rintro e w1 ⟨rfl, hb1⟩
 have hb01 : Below w.heap.size w w1 := HB0.out.trans (hb1.mono HB0.out.size)
 have hrv1 := HRV0.out.fresh hb1
 obtain ⟨sb, hsb⟩ : ∃ sb, sb = w1.heap.size := ⟨_, rfl⟩
 have hsbn : w.heap.size < sb := by rw [hsb]; exact hrv1.lt
 have HSB := zz hsbn
 have hB1 : Blk (w1.alloc (.cells #[.int .i64 0, .int .i64 ((pk E n).at_ : Nat), .string ⟨#[]⟩, .pointer none, .pointer none, .slice none 0 0, .slice none 0 0, .slice none 0 0] 71)) sb (st0 (pk E n).at_) := Blk.new' w1 (st0 (pk E n).at_) _ hsb
 have hb2 : Below w.heap.size w (w1.alloc (.cells #[.int .i64 0, .int .i64 ((pk E n).at_ : Nat), .string ⟨#[]⟩, .pointer none, .pointer none, .slice none 0 0, .slice none 0 0, .slice none 0 0] 71)) := hb01.alloc hb01.size _
 have hrv2 : Blk (w1.alloc (.cells #[.int .i64 0, .int .i64 ((pk E n).at_ : Nat), .string ⟨#[]⟩, .pointer none, .pointer none, .slice none 0 0, .slice none 0 0, .slice none 0 0] 71)) w.heap.size (st0 0) := hrv1.keeps (S := fun _ => False) ((Keeps.refl _ w1).alloc _) id
 have HP1 := zz (HPP.out _ hb2)
 have HB1 := zz hB1
 have HB2 := zz hb2
 have HRV2 := zz hrv2
 clear hB1 hb2 hrv2 hrv1 hb01 hb1 hsbn HPP HP0
 go_wp2_with fail
 rw [<- hsb]
 clear hsb
 refine HP1.out.mono ?_
 rintro e w2 ⟨rfl, hb3⟩
 have HBs := zz (HB1.out.fresh hb3)
 have HRVs := zz (HRV2.out.fresh hb3)
 have HBW : Hid (Below w.heap.size w w2) := zz (HB2.out.trans (hb3.mono HB2.out.size))
 clear hb3 HB1 HRV2 HB2 HP1
 have hrs : rb < sb := by have := HSB.out; have := HLT.out; omega
 have HXP := zz (yV HCC.out w2 (H0.out.fresh HBW.out) (HE.out.fresh HBW.out) HBs.out hrs HTX.out)
 have HRS := zz hrs
 clear hrs
 go_wp2_with fail
 refine HXP.out.mono ?_
 rintro e w3 ⟨r, hev, hsay⟩
 cases r with
 | out => exact hsay.elim
 | bad k a =>
  have hsay' : Threw w2 w3 rb k a e := hsay
  obtain ⟨b, rfl⟩ := aB hsay'
  exact ⟨rfl, _, HEV.out _ hev, hsay'.own HLT.out (Keeps.of_new HBW.out)⟩
 | ok s m =>
  obtain ⟨rfl, ⟨vs, hb3, hc3⟩, hr3, hk3⟩ := hsay
  cases s with
  | mk code at_ name dst val thn els css =>
  have hc3' := hc3
  obtain ⟨tv2, vv2, nv2, ev2, cv2, e2, hx1, hx2, hx3, _, hx5, _, hx7, _⟩ := hc3'
  obtain ⟨o1, rfl⟩ := aL hx1
  obtain ⟨o2, rfl⟩ := aL hx2
  obtain ⟨a3, l3, k3, rfl⟩ := hx3.form
  obtain ⟨a5, l5, k5, rfl⟩ := hx5.form
  obtain ⟨a7, l7, k7, rfl⟩ := hx7.form
  subst e2
  have HBt := zz hb3
  have HRV := zz (HRVs.out.keeps hk3 (fun e => by have := HSB.out; have := HLT.out; omega))
  have HRt := zz hr3
  have HKt : Hid (Keeps (fun b => b = rb) w w3) := zz ((Keeps.of_new (S := fun b => b = rb) HBW.out).trans' hk3 (fun i hi e => by have := HSB.out; omega))
  have HEVt := zz (HEV.out _ hev)
  have HSC := zz (StC.mono (G := fun b => sb < b) (fun b _ e => by have h1 : w2.heap.size <= b := e; have := HBs.out.lt; omega) hc3)
  clear hx1 hx2 hx3 hx5 hx7 hb3 hc3 hr3 hk3 hev
  have c0 := HBt.out.at_ 0 _ rfl
  have c1 := HBt.out.at_ 1 _ rfl
  have c2 := HBt.out.at_ 2 _ rfl
  have c3 := HBt.out.at_ 3 _ rfl
  have c4 := HBt.out.at_ 4 _ rfl
  have c5 := HBt.out.at_ 5 _ rfl
  have c6 := HBt.out.at_ 6 _ rfl
  have c7 := HBt.out.at_ 7 _ rfl
  have r0 := HRV.out.at_ 0 _ rfl
  have y0 := HRV.out.free 0
  have r1 := HRV.out.at_ 1 _ rfl
  have y1 := HRV.out.free 1
  have r2 := HRV.out.at_ 2 _ rfl
  have y2 := HRV.out.free 2
  have r3 := HRV.out.at_ 3 _ rfl
  have y3 := HRV.out.free 3
  have r4 := HRV.out.at_ 4 _ rfl
  have y4 := HRV.out.free 4
  have r5 := HRV.out.at_ 5 _ rfl
  have y5 := HRV.out.free 5
  have r6 := HRV.out.at_ 6 _ rfl
  have y6 := HRV.out.free 6
  have r7 := HRV.out.at_ 7 _ rfl
  have y7 := HRV.out.free 7
  have hne : w.heap.size ≠ sb := by have := HSB.out; omega
  have hne2 : sb ≠ w.heap.size := fun e => hne e.symm
  have HSB2 := zz hne
  go_wp2_with fail
  have hks : Keeps (fun b => b = sb \/ b = w.heap.size) w3 ((((((((w3.setCell ⟨w.heap.size, 0, none⟩ (.int .i64 (code : Nat))).setCell ⟨w.heap.size, 1, none⟩ (.int .i64 (at_ : Nat))).setCell ⟨w.heap.size, 2, none⟩ (.string (mkT name))).setCell ⟨w.heap.size, 3, none⟩ (.pointer o1)).setCell ⟨w.heap.size, 4, none⟩ (.pointer o2)).setCell ⟨w.heap.size, 5, none⟩ (.slice a3 l3 k3)).setCell ⟨w.heap.size, 6, none⟩ (.slice a5 l5 k5)).setCell ⟨w.heap.size, 7, none⟩ (.slice a7 l7 k7)) := ((((((((Keeps.refl (fun b => b = sb \/ b = w.heap.size) w3).setCell (S := fun b => b = sb \/ b = w.heap.size) (p := ⟨w.heap.size, 0, none⟩) (Or.inl (Or.inr rfl)) (.int .i64 (code : Nat))).setCell (S := fun b => b = sb \/ b = w.heap.size) (p := ⟨w.heap.size, 1, none⟩) (Or.inl (Or.inr rfl)) (.int .i64 (at_ : Nat))).setCell (S := fun b => b = sb \/ b = w.heap.size) (p := ⟨w.heap.size, 2, none⟩) (Or.inl (Or.inr rfl)) (.string (mkT name))).setCell (S := fun b => b = sb \/ b = w.heap.size) (p := ⟨w.heap.size, 3, none⟩) (Or.inl (Or.inr rfl)) (.pointer o1)).setCell (S := fun b => b = sb \/ b = w.heap.size) (p := ⟨w.heap.size, 4, none⟩) (Or.inl (Or.inr rfl)) (.pointer o2)).setCell (S := fun b => b = sb \/ b = w.heap.size) (p := ⟨w.heap.size, 5, none⟩) (Or.inl (Or.inr rfl)) (.slice a3 l3 k3)).setCell (S := fun b => b = sb \/ b = w.heap.size) (p := ⟨w.heap.size, 6, none⟩) (Or.inl (Or.inr rfl)) (.slice a5 l5 k5)).setCell (S := fun b => b = sb \/ b = w.heap.size) (p := ⟨w.heap.size, 7, none⟩) (Or.inl (Or.inr rfl)) (.slice a7 l7 k7)
  have hfin := eK HSC.out HRt.out HKt.out hks HSB.out HLT.out
  refine bodyPost_ret (v := .agg #[.int .i64 (code : Nat), .int .i64 (at_ : Nat), .string (mkT name), .pointer o1, .pointer o2, .slice a3 l3 k3, .slice a5 l5 k5, .slice a7 l7 k7]) (by simp [results, Tryz.results259, go_sem, r0, r1, r2, r3, r4, r5, r6, r7]) rfl ⟨.ok (.mk code at_ name dst val thn els css) _, HEVt.out, _, rfl, ⟨_, rfl, hfin.1⟩, hfin.2.1, hfin.2.2⟩
theorem qN {dep : Nat} (w : World) (h : RdAt w rb tv E n dep) (hE : TEnv rb E w) (q0 : (pk E n).text ≠ iI) (q1 : (pk E n).text ≠ iJ) (q2 : (pk E n).text ≠ iK) (q3 : (pk E n).text ≠ tGo) (q4 : (pk E n).text ≠ dH) (q5 : (pk E n).text ≠ iL) (q6 : (pk E n).text ≠ cP) (q7 : (pk E n).text ≠ tIf) (q8 : (pk E n).text ≠ pE) (q9 : (pk E n).text ≠ dI)  : Calls Tryz.prog 259 #[.pointer (some ⟨rb, 0, none⟩)] w fun e w' => ∃ r, Ev (fun f => Tr.stmt E f dep n) r /\ bL pG w w' rb tv E dep r e := by
 have hb0 : Below w.heap.size w (w.alloc (.cells #[.int .i64 0, .int .i64 0, .string ⟨#[]⟩, .pointer none, .pointer none, .slice none 0 0, .slice none 0 0, .slice none 0 0] 71)) := ((Keeps.refl (fun _ => False) w).alloc _).below (Nat.le_refl _) (fun _ _ e => e.elim)
 have hrv0 : Blk (w.alloc (.cells #[.int .i64 0, .int .i64 0, .string ⟨#[]⟩, .pointer none, .pointer none, .slice none 0 0, .slice none 0 0, .slice none 0 0] 71)) w.heap.size (st0 0) := Blk.new' w (st0 0) _ rfl
 have hp0 := aN _ (h.fresh hb0)
 have HPP : Hid (∀ W, Below w.heap.size w W -> Calls Tryz.prog 153 #[.pointer (some ⟨rb, 0, none⟩)] W fun e w' => e = .returned (aR (pk E n)) /\ Below W.heap.size W w') := zz fun W hb => aN W (h.fresh hb)
 have HEV : Hid (∀ r, Ev (fun f => cN E f n) r -> Ev (fun f => Tr.stmt E f dep n) r) := zz fun r hr => Ev.step (h := fun f => cN E f n) (fun f => by rw [dA, if_neg q0, if_neg q1, if_neg q2, if_neg q3, if_neg q4, if_neg q5, if_neg q6, if_neg q7, if_neg q8, if_neg q9]) hr
 have H0 := zz h
 have HE := zz hE
 have HLT := zz h.lt
 have HB0 := zz hb0
 have HRV0 := zz hrv0
 unfold aR at hp0 HPP
 obtain ⟨T, hT'⟩ : ∃ T, T = mkT (pk E n).text := ⟨_, rfl⟩
 have b0 : (T.toList == [99, 108, 111, 115, 101]) = false := by rw [hT', bP]; exact decide_eq_false q0
 have b1 : (T.toList == [112, 114, 105, 110, 116]) = false := by rw [hT', bP]; exact decide_eq_false q1
 have b2 : (T.toList == [115, 108, 101, 101, 112]) = false := by rw [hT', bP]; exact decide_eq_false q2
 have b3 : (T.toList == [103, 111]) = false := by rw [hT', bP]; exact decide_eq_false q3
 have b4 : (T.toList == [114, 101, 116, 117, 114, 110]) = false := by rw [hT', bP]; exact decide_eq_false q4
 have b5 : (T.toList == [98, 114, 101, 97, 107]) = false := by rw [hT', bP]; exact decide_eq_false q5
 have b6 : (T.toList == [99, 111, 110, 116, 105, 110, 117, 101]) = false := by rw [hT', bP]; exact decide_eq_false q6
 have b7 : (T.toList == [105, 102]) = false := by rw [hT', bP]; exact decide_eq_false q7
 have b8 : (T.toList == [102, 111, 114]) = false := by rw [hT', bP]; exact decide_eq_false q8
 have b9 : (T.toList == [115, 101, 108, 101, 99, 116]) = false := by rw [hT', bP]; exact decide_eq_false q9
 rw [<- hT'] at hp0 HPP
 have HP0 := zz hp0
 clear h hE hb0 hrv0 hp0 hT' q0 q1 q2 q3 q4 q5 q6 q7 q8 q9
 have hf := bW
 have hf1 := aY
 go_enter Tryz.func259, Tryz.ntmps259
 go_wp2_with fail
 refine HP0.out.mono ?_
 rintro e w1 ⟨rfl, hb1⟩
 have hb01 : Below w.heap.size w w1 := HB0.out.trans (hb1.mono HB0.out.size)
 have hrv1 := HRV0.out.fresh hb1
 obtain ⟨sb, hsb⟩ : ∃ sb, sb = w1.heap.size := ⟨_, rfl⟩
 have hsbn : w.heap.size < sb := by rw [hsb]; exact hrv1.lt
 have HSB := zz hsbn
 have hB1 : Blk (w1.alloc (.cells #[.int .i64 0, .int .i64 ((pk E n).at_ : Nat), .string ⟨#[]⟩, .pointer none, .pointer none, .slice none 0 0, .slice none 0 0, .slice none 0 0] 71)) sb (st0 (pk E n).at_) := Blk.new' w1 (st0 (pk E n).at_) _ hsb
 have hb2 : Below w.heap.size w (w1.alloc (.cells #[.int .i64 0, .int .i64 ((pk E n).at_ : Nat), .string ⟨#[]⟩, .pointer none, .pointer none, .slice none 0 0, .slice none 0 0, .slice none 0 0] 71)) := hb01.alloc hb01.size _
 have hrv2 : Blk (w1.alloc (.cells #[.int .i64 0, .int .i64 ((pk E n).at_ : Nat), .string ⟨#[]⟩, .pointer none, .pointer none, .slice none 0 0, .slice none 0 0, .slice none 0 0] 71)) w.heap.size (st0 0) := hrv1.keeps (S := fun _ => False) ((Keeps.refl _ w1).alloc _) id
 have HP1 := zz (HPP.out _ hb2)
 have HB1 := zz hB1
 have HB2 := zz hb2
 have HRV2 := zz hrv2
 clear hB1 hb2 hrv2 hrv1 hb01 hb1 hsbn HPP HP0
 go_wp2_with fail
 rw [<- hsb]
 clear hsb
 refine HP1.out.mono ?_
 rintro e w2 ⟨rfl, hb3⟩
 have HBs := zz (HB1.out.fresh hb3)
 have HRVs := zz (HRV2.out.fresh hb3)
 have HBW : Hid (Below w.heap.size w w2) := zz (HB2.out.trans (hb3.mono HB2.out.size))
 clear hb3 HB1 HRV2 HB2 HP1
 have hrs : rb < sb := by have := HSB.out; have := HLT.out; omega
 have HXP := zz (DE w2 (H0.out.fresh HBW.out) (HE.out.fresh HBW.out) HBs.out hrs)
 have HRS := zz hrs
 clear hrs
 go_wp2_with fail
 refine HXP.out.mono ?_
 rintro e w3 ⟨r, hev, hsay⟩
 cases r with
 | out => exact hsay.elim
 | bad k a =>
  have hsay' : Threw w2 w3 rb k a e := hsay
  obtain ⟨b, rfl⟩ := aB hsay'
  exact ⟨rfl, _, HEV.out _ hev, hsay'.own HLT.out (Keeps.of_new HBW.out)⟩
 | ok s m =>
  obtain ⟨rfl, ⟨vs, hb3, hc3⟩, hr3, hk3⟩ := hsay
  cases s with
  | mk code at_ name dst val thn els css =>
  have hc3' := hc3
  obtain ⟨tv2, vv2, nv2, ev2, cv2, e2, hx1, hx2, hx3, _, hx5, _, hx7, _⟩ := hc3'
  obtain ⟨o1, rfl⟩ := aL hx1
  obtain ⟨o2, rfl⟩ := aL hx2
  obtain ⟨a3, l3, k3, rfl⟩ := hx3.form
  obtain ⟨a5, l5, k5, rfl⟩ := hx5.form
  obtain ⟨a7, l7, k7, rfl⟩ := hx7.form
  subst e2
  have HBt := zz hb3
  have HRV := zz (HRVs.out.keeps hk3 (fun e => by have := HSB.out; have := HLT.out; omega))
  have HRt := zz hr3
  have HKt : Hid (Keeps (fun b => b = rb) w w3) := zz ((Keeps.of_new (S := fun b => b = rb) HBW.out).trans' hk3 (fun i hi e => by have := HSB.out; omega))
  have HEVt := zz (HEV.out _ hev)
  have HSC := zz (StC.mono (G := fun b => sb < b) (fun b _ e => by have h1 : w2.heap.size <= b := e; have := HBs.out.lt; omega) hc3)
  clear hx1 hx2 hx3 hx5 hx7 hb3 hc3 hr3 hk3 hev
  have c0 := HBt.out.at_ 0 _ rfl
  have c1 := HBt.out.at_ 1 _ rfl
  have c2 := HBt.out.at_ 2 _ rfl
  have c3 := HBt.out.at_ 3 _ rfl
  have c4 := HBt.out.at_ 4 _ rfl
  have c5 := HBt.out.at_ 5 _ rfl
  have c6 := HBt.out.at_ 6 _ rfl
  have c7 := HBt.out.at_ 7 _ rfl
  have r0 := HRV.out.at_ 0 _ rfl
  have y0 := HRV.out.free 0
  have r1 := HRV.out.at_ 1 _ rfl
  have y1 := HRV.out.free 1
  have r2 := HRV.out.at_ 2 _ rfl
  have y2 := HRV.out.free 2
  have r3 := HRV.out.at_ 3 _ rfl
  have y3 := HRV.out.free 3
  have r4 := HRV.out.at_ 4 _ rfl
  have y4 := HRV.out.free 4
  have r5 := HRV.out.at_ 5 _ rfl
  have y5 := HRV.out.free 5
  have r6 := HRV.out.at_ 6 _ rfl
  have y6 := HRV.out.free 6
  have r7 := HRV.out.at_ 7 _ rfl
  have y7 := HRV.out.free 7
  have hne : w.heap.size ≠ sb := by have := HSB.out; omega
  have hne2 : sb ≠ w.heap.size := fun e => hne e.symm
  have HSB2 := zz hne
  go_wp2_with fail
  have hks : Keeps (fun b => b = sb \/ b = w.heap.size) w3 ((((((((w3.setCell ⟨w.heap.size, 0, none⟩ (.int .i64 (code : Nat))).setCell ⟨w.heap.size, 1, none⟩ (.int .i64 (at_ : Nat))).setCell ⟨w.heap.size, 2, none⟩ (.string (mkT name))).setCell ⟨w.heap.size, 3, none⟩ (.pointer o1)).setCell ⟨w.heap.size, 4, none⟩ (.pointer o2)).setCell ⟨w.heap.size, 5, none⟩ (.slice a3 l3 k3)).setCell ⟨w.heap.size, 6, none⟩ (.slice a5 l5 k5)).setCell ⟨w.heap.size, 7, none⟩ (.slice a7 l7 k7)) := ((((((((Keeps.refl (fun b => b = sb \/ b = w.heap.size) w3).setCell (S := fun b => b = sb \/ b = w.heap.size) (p := ⟨w.heap.size, 0, none⟩) (Or.inl (Or.inr rfl)) (.int .i64 (code : Nat))).setCell (S := fun b => b = sb \/ b = w.heap.size) (p := ⟨w.heap.size, 1, none⟩) (Or.inl (Or.inr rfl)) (.int .i64 (at_ : Nat))).setCell (S := fun b => b = sb \/ b = w.heap.size) (p := ⟨w.heap.size, 2, none⟩) (Or.inl (Or.inr rfl)) (.string (mkT name))).setCell (S := fun b => b = sb \/ b = w.heap.size) (p := ⟨w.heap.size, 3, none⟩) (Or.inl (Or.inr rfl)) (.pointer o1)).setCell (S := fun b => b = sb \/ b = w.heap.size) (p := ⟨w.heap.size, 4, none⟩) (Or.inl (Or.inr rfl)) (.pointer o2)).setCell (S := fun b => b = sb \/ b = w.heap.size) (p := ⟨w.heap.size, 5, none⟩) (Or.inl (Or.inr rfl)) (.slice a3 l3 k3)).setCell (S := fun b => b = sb \/ b = w.heap.size) (p := ⟨w.heap.size, 6, none⟩) (Or.inl (Or.inr rfl)) (.slice a5 l5 k5)).setCell (S := fun b => b = sb \/ b = w.heap.size) (p := ⟨w.heap.size, 7, none⟩) (Or.inl (Or.inr rfl)) (.slice a7 l7 k7)
  have hfin := eK HSC.out HRt.out HKt.out hks HSB.out HLT.out
  refine bodyPost_ret (v := .agg #[.int .i64 (code : Nat), .int .i64 (at_ : Nat), .string (mkT name), .pointer o1, .pointer o2, .slice a3 l3 k3, .slice a5 l5 k5, .slice a7 l7 k7]) (by simp [results, Tryz.results259, go_sem, r0, r1, r2, r3, r4, r5, r6, r7]) rfl ⟨.ok (.mk code at_ name dst val thn els css) _, HEVt.out, _, rfl, ⟨_, rfl, hfin.1⟩, hfin.2.1, hfin.2.2⟩
theorem uT {dep : Nat} (hK : kI rb tv E dep) (w : World) (h : RdAt w rb tv E n dep) (hE : TEnv rb E w) (ht : (pk E n).text = pE) : Calls Tryz.prog 259 #[.pointer (some ⟨rb, 0, none⟩)] w fun e w' => ∃ r, Ev (fun f => Tr.stmt E f dep n) r /\ bL pG w w' rb tv E dep r e := by
 have hb0 : Below w.heap.size w (w.alloc (.cells #[.int .i64 0, .int .i64 0, .string ⟨#[]⟩, .pointer none, .pointer none, .slice none 0 0, .slice none 0 0, .slice none 0 0] 71)) := ((Keeps.refl (fun _ => False) w).alloc _).below (Nat.le_refl _) (fun _ _ e => e.elim)
 have hrv0 : Blk (w.alloc (.cells #[.int .i64 0, .int .i64 0, .string ⟨#[]⟩, .pointer none, .pointer none, .slice none 0 0, .slice none 0 0, .slice none 0 0] 71)) w.heap.size (st0 0) := Blk.new' w (st0 0) _ rfl
 have hp0 := aN _ (h.fresh hb0)
 have HPP : Hid (∀ W, Below w.heap.size w W -> Calls Tryz.prog 153 #[.pointer (some ⟨rb, 0, none⟩)] W fun e w' => e = .returned (aR (pk E n)) /\ Below W.heap.size W w') := zz fun W hb => aN W (h.fresh hb)
 have HKB := zz hK
 have HN := zz (d8 ht (by decide))
 have HEV : Hid (∀ r, Ev (fun f => (dJ E f 0 (n + 1)).bind fun x m => (Tr.block E f dep m).bind fun a m2 => .ok (.mk 13 (pk E n).at_ [] .nil x a .nil .nil) m2) r -> Ev (fun f => Tr.stmt E f dep n) r) := zz fun r hr => Ev.step (h := fun f => (dJ E f 0 (n + 1)).bind fun x m => (Tr.block E f dep m).bind fun a m2 => .ok (.mk 13 (pk E n).at_ [] .nil x a .nil .nil) m2) (fun f => by rw [dA, ht]; rfl) hr
 have H0 := zz h
 have HE := zz hE
 have HLT := zz h.lt
 have HB0 := zz hb0
 have HRV0 := zz hrv0
 unfold aR at hp0 HPP
 have hTT : (pk E n).text = pE := ht
 obtain ⟨T, hT⟩ : ∃ T, T = mkT pE := ⟨_, rfl⟩
 have hT' : T = mkT (pk E n).text := by rw [hTT]; exact hT
 have b0 : (T.toList == [99, 108, 111, 115, 101]) = false := by rw [hT, Lib.toList_data]; rfl
 have b1 : (T.toList == [112, 114, 105, 110, 116]) = false := by rw [hT, Lib.toList_data]; rfl
 have b2 : (T.toList == [115, 108, 101, 101, 112]) = false := by rw [hT, Lib.toList_data]; rfl
 have b3 : (T.toList == [103, 111]) = false := by rw [hT, Lib.toList_data]; rfl
 have b4 : (T.toList == [114, 101, 116, 117, 114, 110]) = false := by rw [hT, Lib.toList_data]; rfl
 have b5 : (T.toList == [98, 114, 101, 97, 107]) = false := by rw [hT, Lib.toList_data]; rfl
 have b6 : (T.toList == [99, 111, 110, 116, 105, 110, 117, 101]) = false := by rw [hT, Lib.toList_data]; rfl
 have b7 : (T.toList == [105, 102]) = false := by rw [hT, Lib.toList_data]; rfl
 have b8 : (T.toList == [102, 111, 114]) = true := by rw [hT, Lib.toList_data]; rfl
 rw [<- hT'] at hp0 HPP
 have HP0 := zz hp0
 clear h hE hb0 hrv0 hp0 hT' ht hTT hT hK
 have hf := bW
 have hf1 := aY
 go_enter Tryz.func259, Tryz.ntmps259
 go_wp2_with fail
 refine HP0.out.mono ?_
 rintro e w1 ⟨rfl, hb1⟩
 have hb01 : Below w.heap.size w w1 := HB0.out.trans (hb1.mono HB0.out.size)
 have hrv1 := HRV0.out.fresh hb1
 obtain ⟨sb, hsb⟩ : ∃ sb, sb = w1.heap.size := ⟨_, rfl⟩
 have hsbn : w.heap.size < sb := by rw [hsb]; exact hrv1.lt
 have HSB := zz hsbn
 have hB1 : Blk (w1.alloc (.cells #[.int .i64 0, .int .i64 ((pk E n).at_ : Nat), .string ⟨#[]⟩, .pointer none, .pointer none, .slice none 0 0, .slice none 0 0, .slice none 0 0] 71)) sb (st0 (pk E n).at_) := Blk.new' w1 (st0 (pk E n).at_) _ hsb
 have hb2 : Below w.heap.size w (w1.alloc (.cells #[.int .i64 0, .int .i64 ((pk E n).at_ : Nat), .string ⟨#[]⟩, .pointer none, .pointer none, .slice none 0 0, .slice none 0 0, .slice none 0 0] 71)) := hb01.alloc hb01.size _
 have hrv2 : Blk (w1.alloc (.cells #[.int .i64 0, .int .i64 ((pk E n).at_ : Nat), .string ⟨#[]⟩, .pointer none, .pointer none, .slice none 0 0, .slice none 0 0, .slice none 0 0] 71)) w.heap.size (st0 0) := hrv1.keeps (S := fun _ => False) ((Keeps.refl _ w1).alloc _) id
 have HP1 := zz (HPP.out _ hb2)
 have HB1 := zz hB1
 have HB2 := zz hb2
 have HRV2 := zz hrv2
 clear hB1 hb2 hrv2 hrv1 hb01 hb1 hsbn HPP HP0
 go_wp2_with fail
 rw [<- hsb]
 clear hsb
 refine HP1.out.mono ?_
 rintro e w2 ⟨rfl, hb3⟩
 have HBs := zz (HB1.out.fresh hb3)
 have HRVs := zz (HRV2.out.fresh hb3)
 have HBW : Hid (Below w.heap.size w w2) := zz (HB2.out.trans (hb3.mono HB2.out.size))
 clear hb3 HB1 HRV2 HB2 HP1
 have hn := HN.out
 go_wp2_with fail
 refine (bF w2 (H0.out.fresh HBW.out) hn).mono ?_
 rintro e w3 ⟨rfl, hr3, hk3⟩
 clear hn
 have hne3 : ¬ sb = rb := by have := HSB.out; have := HLT.out; omega
 have hne4 : ¬ w.heap.size = rb := by have := HLT.out; omega
 have HBt0 := zz (HBs.out.keeps hk3 hne3)
 have HRVt0 := zz (HRVs.out.keeps hk3 hne4)
 have HR3 := zz hr3
 have HK3 : Hid (Keeps (fun b => b = rb) w w3) := zz ((Keeps.of_new HBW.out).trans hk3)
 have HN3 := zz hne3
 have HN4 := zz hne4
 have HE3 := zz (HE.out.own HK3.out)
 clear hr3 hk3 hne3 hne4
 unfold aR
 generalize mkT (pk E n).text = TT
 have HXP := zz (k8 (dd := 0) (Nat.zero_le _) (n + 1) w3 HR3.out HE3.out)
 go_wp2_with fail
 refine HXP.out.mono ?_
 rintro e w4 ⟨r, hev, hsay⟩
 cases r with
 | out => exact hsay.elim
 | bad k a =>
  have hsay' : Threw w3 w4 rb k a e := hsay
  obtain ⟨b, rfl⟩ := aB hsay'
  exact ⟨rfl, .bad k a, HEV.out _ (Ev.bad hev), hsay'.own HLT.out HK3.out⟩
 | ok x m =>
  obtain ⟨v, rfl, hx, hr4, hk4⟩ := hsay
  obtain ⟨o, rfl⟩ := aL hx
  have hB4 := HBt0.out.keeps hk4 HN3.out
  have c0 := hB4.at_ 0 _ rfl
  have c4 := hB4.at_ 4 _ rfl
  have z0 := hB4.free 0
  have z4 := hB4.free 4
  have hks : Keeps (fun b => b = sb) w4 ((w4.setCell ⟨sb, 0, none⟩ (.int .i64 13)).setCell ⟨sb, 4, none⟩ (.pointer o)) := mP
  have hB5 : Blk ((w4.setCell ⟨sb, 0, none⟩ (.int .i64 13)).setCell ⟨sb, 4, none⟩ (.pointer o)) sb (st1 13 (pk E n).at_ [] none o) := (hB4.set 0 (.int .i64 (13 : Nat)) (by simp [st0])).set 4 (.pointer o) (by simp [st0])
  have hsb := HSB.out
  have hlt0 := HLT.out
  have hk5 : Keeps (fun b => b = rb) w ((w4.setCell ⟨sb, 0, none⟩ (.int .i64 13)).setCell ⟨sb, 4, none⟩ (.pointer o)) := (HK3.out.trans hk4).trans' hks (fun i hi e => by omega)
  have HB5 := zz hB5
  have HK5 := zz hk5
  have HRV5 := zz ((HRVt0.out.keeps hk4 HN4.out).keeps hks (fun e => by omega))
  have HX5 : Hid (ExIn ((w4.setCell ⟨sb, 0, none⟩ (.int .i64 13)).setCell ⟨sb, 4, none⟩ (.pointer o)) (fun b => sb < b) (.pointer o) x) := zz ((ExIn.mono (fun b _ e => by have h1 : w3.heap.size <= b := e; have := HBt0.out.lt; show sb < b; omega) _ _ hx).of_two hks (fun b hb => by have h1 : sb < b := hb; omega))
  have HBL := zz (HKB.out m _ (hr4.two hks (by omega)) (HE.out.own hk5))
  have HEV4 := zz hev
  clear hB4 hB5 hks hsb hlt0 hk5 hx hr4 hk4 hev
  go_wp2_with fail
  refine HBL.out.mono ?_
  rintro e w6 ⟨r, hev, hsay⟩
  clear c0 c4 z0 z4
  cases r with
  | out => exact hsay.elim
  | bad k a =>
   have hsay' : Threw _ w6 rb k a e := hsay
   obtain ⟨b, rfl⟩ := aB hsay'
   exact ⟨rfl, .bad k a, HEV.out _ (Ev.then HEV4.out (Ev.bad hev)), hsay'.own HLT.out HK5.out⟩
  | ok l m2 =>
   obtain ⟨v6, rfl, hl6, hr6, hk6⟩ := hsay
   obtain ⟨la, ll, lc, rfl⟩ := hl6.1.form
   have HBt := zz (HB5.out.keeps hk6 HN3.out)
   have HRV := zz (HRV5.out.keeps hk6 HN4.out)
   have HRt := zz hr6
   have HKt := zz (HK5.out.trans hk6)
   have HEVt : Hid (Ev (fun f => Tr.stmt E f dep n) (.ok (.mk 13 (pk E n).at_ [] .nil x l .nil .nil) m2)) := zz (HEV.out _ (Ev.then HEV4.out (Ev.map _ (fun _ _ e => by cases e) hev)))
   have hl7 : StsF w6 (fun b => sb < b) l (.slice la ll lc) := StsF.mono (fun b e => by have h1 := HB5.out.lt; have h2 : _ <= b := e; show sb < b; omega) hl6
   have HSC : Hid (StC w6 (fun b => sb < b) [.int .i64 (13 : Nat), .int .i64 ((pk E n).at_ : Nat), .string (mkT []), .pointer none, .pointer o, .slice la ll lc, .slice none 0 0, .slice none 0 0] (.mk 13 (pk E n).at_ [] .nil x l .nil .nil)) := zz ⟨_, _, _, _, _, rfl, rfl, ExIn.keeps HX5.out hk6 (fun b hb e => by have h1 : sb < b := hb; have h2 : b = rb := e; have := HSB.out; have := HLT.out; omega), hl7.1, hl7.2, Or.inl ⟨rfl, rfl⟩, fun g n cap e => (by cases e), Or.inl ⟨rfl, rfl⟩, fun g n cap e => (by cases e)⟩
   clear hl6 hl7 hr6 hk6 hev
   have c0 := HBt.out.at_ 0 _ rfl
   have c1 := HBt.out.at_ 1 _ rfl
   have c2 := HBt.out.at_ 2 _ rfl
   have c3 := HBt.out.at_ 3 _ rfl
   have c4 := HBt.out.at_ 4 _ rfl
   have c5 := HBt.out.at_ 5 _ rfl
   have c6 := HBt.out.at_ 6 _ rfl
   have c7 := HBt.out.at_ 7 _ rfl
   have z5 := HBt.out.free 5
   have r0 := HRV.out.at_ 0 _ rfl
   have y0 := HRV.out.free 0
   have r1 := HRV.out.at_ 1 _ rfl
   have y1 := HRV.out.free 1
   have r2 := HRV.out.at_ 2 _ rfl
   have y2 := HRV.out.free 2
   have r3 := HRV.out.at_ 3 _ rfl
   have y3 := HRV.out.free 3
   have r4 := HRV.out.at_ 4 _ rfl
   have y4 := HRV.out.free 4
   have r5 := HRV.out.at_ 5 _ rfl
   have y5 := HRV.out.free 5
   have r6 := HRV.out.at_ 6 _ rfl
   have y6 := HRV.out.free 6
   have r7 := HRV.out.at_ 7 _ rfl
   have y7 := HRV.out.free 7
   have hne : w.heap.size ≠ sb := by have := HSB.out; omega
   have hne2 : sb ≠ w.heap.size := fun e => hne e.symm
   have HSB2 := zz hne
   go_wp2_with fail
   have hks : Keeps (fun b => b = sb \/ b = w.heap.size) w6 (((((((((w6.setCell ⟨sb, 5, none⟩ (.slice la ll lc)).setCell ⟨w.heap.size, 0, none⟩ (.int .i64 13)).setCell ⟨w.heap.size, 1, none⟩ (.int .i64 ((pk E n).at_ : Nat))).setCell ⟨w.heap.size, 2, none⟩ (.string (mkT []))).setCell ⟨w.heap.size, 3, none⟩ (.pointer none)).setCell ⟨w.heap.size, 4, none⟩ (.pointer o)).setCell ⟨w.heap.size, 5, none⟩ (.slice la ll lc)).setCell ⟨w.heap.size, 6, none⟩ (.slice none 0 0)).setCell ⟨w.heap.size, 7, none⟩ (.slice none 0 0)) := (((((((((Keeps.refl (fun b => b = sb \/ b = w.heap.size) w6).setCell (S := fun b => b = sb \/ b = w.heap.size) (p := ⟨sb, 5, none⟩) (Or.inl (Or.inl rfl)) (.slice la ll lc)).setCell (S := fun b => b = sb \/ b = w.heap.size) (p := ⟨w.heap.size, 0, none⟩) (Or.inl (Or.inr rfl)) (.int .i64 13)).setCell (S := fun b => b = sb \/ b = w.heap.size) (p := ⟨w.heap.size, 1, none⟩) (Or.inl (Or.inr rfl)) (.int .i64 ((pk E n).at_ : Nat))).setCell (S := fun b => b = sb \/ b = w.heap.size) (p := ⟨w.heap.size, 2, none⟩) (Or.inl (Or.inr rfl)) (.string (mkT []))).setCell (S := fun b => b = sb \/ b = w.heap.size) (p := ⟨w.heap.size, 3, none⟩) (Or.inl (Or.inr rfl)) (.pointer none)).setCell (S := fun b => b = sb \/ b = w.heap.size) (p := ⟨w.heap.size, 4, none⟩) (Or.inl (Or.inr rfl)) (.pointer o)).setCell (S := fun b => b = sb \/ b = w.heap.size) (p := ⟨w.heap.size, 5, none⟩) (Or.inl (Or.inr rfl)) (.slice la ll lc)).setCell (S := fun b => b = sb \/ b = w.heap.size) (p := ⟨w.heap.size, 6, none⟩) (Or.inl (Or.inr rfl)) (.slice none 0 0)).setCell (S := fun b => b = sb \/ b = w.heap.size) (p := ⟨w.heap.size, 7, none⟩) (Or.inl (Or.inr rfl)) (.slice none 0 0)
   have hfin := eK HSC.out HRt.out HKt.out hks HSB.out HLT.out
   refine bodyPost_ret (v := .agg #[.int .i64 13, .int .i64 ((pk E n).at_ : Nat), .string (mkT []), .pointer none, .pointer o, .slice la ll lc, .slice none 0 0, .slice none 0 0]) (by simp [results, Tryz.results259, go_sem, r0, r1, r2, r3, r4, r5, r6, r7]) rfl ⟨.ok (.mk 13 (pk E n).at_ [] .nil x l .nil .nil) _, HEVt.out, _, rfl, ⟨_, rfl, hfin.1⟩, hfin.2.1, hfin.2.2⟩
theorem wL {dep : Nat} (hK : kI rb tv E dep) (hC : dep < 12 -> wH rb tv E (dep + 1)) : qG rb tv E dep := by
 intro n w h hE
 by_cases q0 : (pk E n).text = iI
 ·exact qK w h hE q0
 by_cases q1 : (pk E n).text = iJ
 ·exact qL w h hE q1
 by_cases q2 : (pk E n).text = iK
 ·exact qM w h hE q2
 by_cases q3 : (pk E n).text = tGo
 ·exact wJ w h hE q3
 by_cases q4 : (pk E n).text = dH
 ·exact pH w h hE q4
 by_cases q5 : (pk E n).text = iL
 ·exact qJ w h hE q5
 by_cases q6 : (pk E n).text = cP
 ·exact nM w h hE q6
 by_cases q7 : (pk E n).text = tIf
 ·exact wK hK w h hE q7
 by_cases q8 : (pk E n).text = pE
 ·exact uT hK w h hE q8
 by_cases q9 : (pk E n).text = dI
 ·exact pI hC w h hE q9
 exact qN w h hE q0 q1 q2 q3 q4 q5 q6 q7 q8 q9
theorem yW : ∀ (q dep : Nat), 12 <= dep + q -> dep <= 12 -> qG rb tv E dep /\ kI rb tv E dep
 | 0, dep, h1, h2 => by
  have hK : kI rb tv E dep := sM (fun h => by omega)
  exact ⟨wL hK (fun h => by omega), hK⟩
 | q + 1, dep, h1, h2 => by
  have hK : kI rb tv E dep := sM (fun h => (yW q (dep + 1) (by omega) (by omega)).1)
  exact ⟨wL hK (fun h => wI (yW q (dep + 1) (by omega) (by omega)).1), hK⟩
theorem KN {dep : Nat} (h : dep <= 12) : kI rb tv E dep := (yW 12 dep (by omega) h).2
theorem j0 (f : Nat) (acc : List Pa) (n : Nat) : params E (f + 1) acc n = (aF E 1 n).bind fun t m => if kindV (pk E m).text = 0 then fail E 3 m else
   if (pk E (m + 1)).text = cB then params E f (acc ++ [⟨t.text, kindV (pk E m).text, t.at_⟩]) (m + 2) else (take E tRp (m + 1)).bind fun _ m2 => .ok (acc ++ [⟨t.text, kindV (pk E m).text, t.at_⟩]) m2 := by rw [params]
def cM : List Pa -> List Value
 | [] => []
 | p :: ps => [.string (mkT p.name), .int .i64 (p.kind : Nat), .int .i64 (p.at_ : Nat)] ++ cM ps
theorem nN : ∀ (l : List Pa) (p : Pa), cM (l ++ [p]) = cM l ++ [.string (mkT p.name), .int .i64 (p.kind : Nat), .int .i64 (p.at_ : Nat)]
 | [], _ => rfl
 | q :: l, p => by show _ ++ cM (l ++ [p]) = _; rw [nN l p]; rfl
theorem mR : ∀ (l : List Pa) (i : Nat) (p : Pa), l[i]? = some p -> (cM l)[i * 3]? = some (.string (mkT p.name)) /\ (cM l)[i * 3 + 1]? = some (.int .i64 (p.kind : Nat)) /\ (cM l)[i * 3 + 2]? = some (.int .i64 (p.at_ : Nat))
 | [], _, _, h => by cases h
 | q :: l, 0, p, h => by cases h; exact ⟨rfl, rfl, rfl⟩
 | q :: l, i + 1, p, h => by
  obtain ⟨h1, h2, h3⟩ := mR l i p h
  rw [show (i + 1) * 3 = i * 3 + 3 by omega]
  exact ⟨h1, h2, h3⟩
theorem qO : (Tryz.prog.info? 102).map (fun i => (i.zero, i.size, i.bytes)) = some (some (.agg #[.string ByteArray.empty, .int .i64 0, .int .i64 0]), 3, 32) := by kernel_rfl
def PaRow (w : World) (F : Nat -> Prop) (v : Value) (l : List Pa) : Prop :=
 (v = .slice none 0 0 /\ l = []) \/ ∃ g cap, v = .slice (some ⟨g, 0, none⟩) l.length cap /\ l.length <= cap /\ cap <= maxLen /\ F g /\ 0 < l.length /\ ∀ i p, l[i]? = some p -> w.cell? ⟨g, i * 3, none⟩ = some (.string (mkT p.name)) /\ w.cell? ⟨g, i * 3 + 1, none⟩ = some (.int .i64 (p.kind : Nat)) /\ w.cell? ⟨g, i * 3 + 2, none⟩ = some (.int .i64 (p.at_ : Nat))
theorem PaRow.keeps {F S : Nat -> Prop} {v : Value} {l : List Pa} (h : PaRow w F v l) (hk : Keeps S w w') (hF : ∀ b, F b -> ¬ S b) : PaRow w' F v l := by
 rcases h with h | ⟨g, cap, h1, h2, h3, h4, h5, h6⟩
 ·exact Or.inl h
 ·exact Or.inr ⟨g, cap, h1, h2, h3, h4, h5, fun i p hi => ⟨hk.cell_of (h6 i p hi).1 (hF g h4), hk.cell_of (h6 i p hi).2.1 (hF g h4), hk.cell_of (h6 i p hi).2.2 (hF g h4)⟩⟩
theorem PaRow.mono {F G : Nat -> Prop} (hF : ∀ b, b < w.heap.size -> F b -> G b) {v : Value} {l : List Pa} (h : PaRow w F v l) : PaRow w G v l := by
 rcases h with h | ⟨g, cap, h1, h2, h3, h4, h5, h6⟩
 ·exact Or.inl h
 ·exact Or.inr ⟨g, cap, h1, h2, h3, hF g (block_lt_of_cell (h6 0 _ (List.getElem?_eq_getElem h5)).1) h4, h5, h6⟩
def fu1 (name : B) (A : Nat) (pv : Value) (kind : Nat) (bv : Value) : List Value := [.string (mkT name), .int .i64 (A : Nat), pv, .int .i64 (kind : Nat), bv]
structure FunJ (w0 : World) (rb : Nat) (tv : Value) (E : Env) (dep rv fb : Nat) (wl : World) (A : Nat) (name : B) (W : World) (m : Nat) (acc : List Pa) : Prop where
 rd : RdAt W rb tv E m dep
 env : TEnv rb E W
 kp : Keeps (fun b => b = rb) w0 W
 cr : W.cell? ⟨rv, 0, none⟩ = some (.pointer (some ⟨rb, 0, none⟩))
 row : ∃ v, Blk W fb (fu1 name A v 0 (.slice none 0 0)) /\ W.ownsRow wl.heap.size 102 3 v acc.length (cM acc) /\ (acc = [] -> v = .slice none 0 0)
 al : acc.length <= m
 lo : rb < w0.heap.size /\ w0.heap.size <= rv /\ rv < fb /\ fb < wl.heap.size /\ wl.heap.size <= W.heap.size
 kl : Keeps (fun b => b = rb \/ b = fb) wl W
theorem FunJ.on {w0 wl W W2 : World} {dep rv fb A m m2 : Nat} {name : B} {acc : List Pa} (h : FunJ w0 rb tv E dep rv fb wl A name W m acc) (hm : m <= m2) (hk : Keeps (fun b => b = rb) W W2) (hr : RdAt W2 rb tv E m2 dep) : FunJ w0 rb tv E dep rv fb wl A name W2 m2 acc := by
 obtain ⟨v, h1, h2, h3⟩ := h.row
 have hlo := h.lo
 exact ⟨hr, h.env.own hk, h.kp.trans hk, hk.cell_of h.cr (fun e => by have : rv = rb := e; omega), ⟨v, h1.keeps hk (fun e => by have : fb = rb := e; omega), hk.row h2 (fun b e e2 => by have := (a8 h2 b e).1; have : b = rb := e2; omega), h3⟩, Nat.le_trans h.al hm, ⟨hlo.1, hlo.2.1, hlo.2.2.1, hlo.2.2.2.1, Nat.le_trans hlo.2.2.2.2 hk.size⟩, h.kl.trans (hk.mono (fun _ _ e => Or.inl e))⟩
theorem FunJ.next {w0 wl W W2 W5 : World} {dep rv fb A m m1 cap5 : Nat} {ao5 : Option Addr} {name : B} {acc : List Pa} {v : Value} {p : Pa} {o : Obj} (h : FunJ w0 rb tv E dep rv fb wl A name W m acc) (hm : acc.length + 1 <= m1) (hk : Keeps (fun b => b = rb) W W2) (hr : RdAt W2 rb tv E m1 dep)
  (hb1 : Blk W fb (fu1 name A v 0 (.slice none 0 0))) (ho1 : W.ownsRow wl.heap.size 102 3 v acc.length (cM acc)) (hg : (W2.alloc o).grownBy W5 v.ownBlock)
  (ho : W5.ownsRow wl.heap.size 102 3 (.slice ao5 (acc.length + 1) cap5) (acc.length + 1) (cM acc ++ [.string (mkT p.name), .int .i64 (p.kind : Nat), .int .i64 (p.at_ : Nat)])) (hnew : (Value.slice ao5 (acc.length + 1) cap5).ownBlock = v.ownBlock \/ (Value.slice ao5 (acc.length + 1) cap5).ownBlock = some (W2.heap.size + 1)) :
  FunJ w0 rb tv E dep rv fb wl A name (W5.setCell ⟨fb, 2, none⟩ (.slice ao5 (acc.length + 1) cap5)) m1 (acc ++ [p]) := by
 have hlo := h.lo
 have hw2 := hk.size
 have hk5 : Keeps (fun b => v.ownBlock = some b) W2 W5 := ((Keeps.refl (fun b => v.ownBlock = some b) W2).alloc o).trans' (Keeps.of_grownBy hg (fun k _ e => e)) (fun _ _ e => e)
 have hks : Keeps (fun b => b = fb) W5 (W5.setCell ⟨fb, 2, none⟩ (.slice ao5 (acc.length + 1) cap5)) := mB
 have hge := a8 ho1
 have hb2 : Blk W2 fb (fu1 name A v 0 (.slice none 0 0)) := hb1.keeps hk (fun e => by have : fb = rb := e; omega)
 have hb5 : Blk W5 fb (fu1 name A v 0 (.slice none 0 0)) := hb2.keeps hk5 (fun e => by have := (hge fb e).1; omega)
 have hgn : ∀ b, (Value.slice ao5 (acc.length + 1) cap5).ownBlock = some b -> wl.heap.size <= b := fun b e => by
  rcases hnew with h3 | h3
  ·exact (hge b (h3 ▸ e)).1
  ·rw [h3] at e; have := Option.some.inj e; omega
 have hs5 := hk5.size
 have hss := hks.size
 refine ⟨(hr.keeps hk5 (fun b e => by have := (hge b e).1; omega)).keeps hks (fun b e => by have : b = fb := e; omega), ((h.env.own hk).keeps hk5 (fun b e => by have := (hge b e).1; omega)).keeps hks (fun b e => by have : b = fb := e; omega), ((h.kp.trans hk).trans' hk5 (fun i hi e => by have := (hge i e).1; omega)).trans' hks (fun i hi e => by have : i = fb := e; omega), hks.cell_of (hk5.cell_of (hk.cell_of h.cr (fun e => by have : rv = rb := e; omega)) (fun e => by have := (hge rv e).1; omega)) (fun e => by have : rv = fb := e; omega), ⟨_, hb5.set 2 (.slice ao5 (acc.length + 1) cap5) (by simp [fu1]), ?_, fun e => absurd e (by simp)⟩, by rw [List.length_append]; exact hm, ⟨hlo.1, hlo.2.1, hlo.2.2.1, hlo.2.2.2.1, by omega⟩, ((h.kl.trans (hk.mono (fun _ _ e => Or.inl e))).trans' hk5 (fun i hi e => by have := (hge i e).1; omega)).trans (hks.mono (fun _ _ e => Or.inr e))⟩
 rw [List.length_append, nN]
 exact hks.row ho (fun b e e2 => by have := hgn b e; have : b = fb := e2; omega)
theorem FunJ.pas {w0 wl W : World} {dep rv fb A m : Nat} {name : B} {acc : List Pa} (h : FunJ w0 rb tv E dep rv fb wl A name W m acc) : ∃ v, Blk W fb (fu1 name A v 0 (.slice none 0 0)) /\ PaRow W (fun b => wl.heap.size <= b) v acc := by
 obtain ⟨v, h1, h2, h3⟩ := h.row
 refine ⟨v, h1, ?_⟩
 by_cases hz : acc = []
 ·exact Or.inl ⟨h3 hz, hz⟩
 ·have hpos : 0 < acc.length := List.length_pos_iff.2 hz
  rcases h2.2 with ⟨_, e⟩ | ⟨g, cap, cur, e1, e2, _, e3, e4, _⟩
  ·omega
  ·refine Or.inr ⟨g, cap, e1, e3, e4, e2, hpos, fun i p hi => ?_⟩
   obtain ⟨a1, a2, a3⟩ := mR acc i p hi
   have hin := (List.getElem?_eq_some_iff.1 hi).1
   subst e1
   rw [World.ownsRow.cellAt h2 (i * 3) (by omega), World.ownsRow.cellAt h2 (i * 3 + 1) (by omega), World.ownsRow.cellAt h2 (i * 3 + 2) (by omega)]
   exact ⟨a1, a2, a3⟩
theorem wM {w0 wl W : World} {dep rv fb A m : Nat} {name : B} {acc : List Pa} (hJ : FunJ w0 rb tv E dep rv fb wl A name W m acc) :
  Calls Tryz.prog 156 #[.pointer (some ⟨rv, 0, none⟩), .pointer (some ⟨fb, 0, none⟩)] W fun e W' =>
   (∃ k a, Ev (fun f => params E f acc m) (.bad k a) /\ Threw W W' rb k a e) \/ (∃ acc' m', m < m' /\ e = .returned (.tuple #[]) /\ FunJ w0 rb tv E dep rv fb wl A name W' m' acc' /\ ∀ r, i8 E (fun acc m r => Ev (fun f => params E f acc m) r) acc' m' r -> Ev (fun f => params E f acc m) r) := by
 have HJ := zz hJ
 have HLT := zz hJ.rd.lt
 have cr := hJ.cr
 have HTK := zz (aX 1 (by decide) W hJ.rd)
 clear hJ
 cases ht : aF E 1 m with
 | out => exact absurd ht (bR E _ _)
 | bad k a =>
  rw [ht] at HTK
  have HT := zz ht
  clear ht
  go_enter Tryz.func156, Tryz.ntmps156
  go_wp2_with fail
  refine HTK.out.mono ?_
  rintro e w1 hth
  have hth' : Threw W w1 rb k a e := hth
  obtain ⟨b, rfl⟩ := aB hth'
  exact ⟨rfl, Or.inl ⟨k, a, Ev.now (fun e => by cases e) fun f => (by rw [j0, HT.out]; rfl), hth'⟩⟩
 | ok t m1 =>
  rw [ht] at HTK
  have HT := zz ht
  have HM1 := zz (aS ht)
  clear ht
  unfold bL jL aR at HTK
  simp only at HTK
  generalize hTT : mkT t.text = T at *
  go_enter Tryz.func156, Tryz.ntmps156
  go_wp2_with fail
  refine HTK.out.mono ?_
  rintro e w1 ⟨v, rfl, rfl, hr1, hk1⟩
  have hj1 := HJ.out.on (Nat.le_of_lt HM1.out) hk1 hr1
  have HJ1 := zz hj1
  have HK1 := zz hk1
  have hb2 : Below w1.heap.size w1 (w1.alloc (.cells #[.int .i64 (t.kind : Nat), .string T, .int .i64 (t.at_ : Nat)] 110)) := ((Keeps.refl (fun _ => False) w1).alloc _).below (Nat.le_refl _) (fun _ _ e => e.elim)
  have cr2 : (w1.alloc (.cells #[.int .i64 (t.kind : Nat), .string T, .int .i64 (t.at_ : Nat)] 110)).cell? ⟨rv, 0, none⟩ = some (.pointer (some ⟨rb, 0, none⟩)) := aZ hj1.cr
  have hE2 := hj1.env.fresh hb2
  have HKD := zz (vU _ (hr1.fresh hb2) hE2.kinds (by have := hE2.b2; have := HLT.out; have := hk1.size; have := hb2.size; omega))
  have HTC := zz (eZ w1 t.kind t.at_ T 110)
  have HB2 := zz hb2
  clear hj1 hr1 hk1 hb2 hE2 cr
  have crx : w1.cell? ⟨rv, 0, none⟩ = some (.pointer (some ⟨rb, 0, none⟩)) := HJ1.out.cr
  go_wp2_with fail
  refine HKD.out.mono ?_
  rintro e w3 ⟨rfl, hr3, hk3⟩
  clear crx cr2
  by_cases hz : kindV (pk E m1).text = 0
  ·rw [if_pos hz] at hr3
   have e0 : (((kindV (pk E m1).text : Nat) : Int) == 0) = true := by rw [hz]; rfl
   have HZ := zz hz
   have HK3 := zz hk3
   have crw : w3.cell? ⟨rv, 0, none⟩ = some (.pointer (some ⟨rb, 0, none⟩)) := hk3.cell_of (aZ HJ1.out.cr) (fun e => by have := HJ.out.lo; have : rv = rb := e; omega)
   have HF := zz (dC 3 w3 hr3)
   clear hz hr3 hk3
   go_wp2_with fail
   refine HF.out.mono ?_
   rintro e w4 hth
   have hth2 : Threw W w4 rb 3 (pk E m1).at_ e := hth.own HLT.out ((HK1.out.trans (Keeps.of_new HB2.out)).trans HK3.out)
   obtain ⟨b, rfl⟩ := aB hth
   exact ⟨rfl, Or.inl ⟨3, _, Ev.now (fun e => by cases e) fun f => (by rw [j0, HT.out]; show (if _ then _ else _) = _; rw [if_pos HZ.out]; rfl), hth2⟩⟩
  ·rw [if_neg hz] at hr3
   have hk13 : Keeps (fun b => b = rb) w1 w3 := (Keeps.of_new HB2.out).trans hk3
   have hj3 := HJ1.out.on (Nat.le_succ _) hk13 hr3
   obtain ⟨av, hblk, hown, hzero⟩ := hj3.row
   have hform : ∃ ao cap, av = .slice ao acc.length cap := by
    rcases hown.2 with ⟨e1, e2⟩ | ⟨g, cap, cur, e1, _⟩
    ·exact ⟨none, 0, by rw [e1, e2]⟩
    ·exact ⟨_, _, e1⟩
   obtain ⟨ao0, cap0, rfl⟩ := hform
   obtain ⟨i0, hi, hz0, hz1, hz2⟩ := mC qO
   have e0 : (((kindV (pk E m1).text : Nat) : Int) == 0) = false := beq_eq_false_iff_ne.2 (by omega)
   have htc := HTC.out.keeps hk3 (fun e => by have h1 := HK1.out.size; have h2 := HLT.out; omega)
   have p1 := htc.c1
   have p2 := htc.c2
   have crw := hj3.cr
   have c2 := hblk.at_ 2 _ rfl
   have z2 := hblk.free 2
   have hlo := hj3.lo
   have hal := hj3.al
   have hn := hj3.rd.hn
   have hl := hj3.rd.hl
   have HML : Hid (acc.length + 1 <= maxLen) := zz (by unfold maxLen; omega)
   have HBY : Hid ((acc.length + 1) * 32 <= 140737488355328) := zz (by omega)
   have HZ := zz hz
   have HJ3 := zz hj3
   have HBK := zz hblk
   have HOW := zz hown
   have HK13 := zz hk13
   have HCN := zz (eR w3 [.string T, .int .i64 (kindV (pk E m1).text : Nat), .int .i64 (t.at_ : Nat)] 102)
   have HH1 : Hid (∀ x ∈ [Value.string T, .int .i64 (kindV (pk E m1).text : Nat), .int .i64 (t.at_ : Nat)], x.oneCell' = true) := zz (fun x hx => by simp at hx; rcases hx with rfl | rfl | rfl <;> rfl)
   have HHB : Hid (wl.heap.size <= w3.heap.size /\ fb < wl.heap.size) := zz ⟨hlo.2.2.2.2, hlo.2.2.2.1⟩
   have hfl : fb < w3.heap.size := by omega
   clear hz hr3 hk3 hk13 hj3 hblk hown hzero htc hlo hal hn hl
   go_wp2_with (at_builtin; refine wpList_append_own_at _ rfl _ _ 48 rfl wl.heap.size 102 i0 (.agg #[.string ByteArray.empty, .int .i64 0, .int .i64 0]) 3 32 Tryz.underlying48 hi hz0 hz1 hz2 rfl (by decide) _ _ _ rfl (World.ownsRow.alloc HOW.out _) ⟨w3.heap.size, 0, none⟩ 1 1 [.string T, .int .i64 (kindV (pk E m1).text : Nat), .int .i64 (t.at_ : Nat)] rfl rfl HCN.out HH1.out HML.out HBY.out (by have := HHB.out; simp; omega) ?_)
   intro v5 w5 hown5 hgrow _ hnew
   have hv5 : ∃ ao cap, v5 = .slice ao (acc.length + 1) cap := by
    rcases hown5.2 with ⟨_, h0⟩ | ⟨g, cap, cur, e, _⟩
    ·omega
    ·exact ⟨_, _, e⟩
   obtain ⟨ao5, cap5, rfl⟩ := hv5
   have hk5 : Keeps (fun b => (Value.slice ao0 acc.length cap0).ownBlock = some b) w3 w5 := ((Keeps.refl (fun b => (Value.slice ao0 acc.length cap0).ownBlock = some b) w3).alloc _).trans' (Keeps.of_grownBy hgrow (fun k _ e => e)) (fun _ _ e => e)
   have hnb : ¬ (Value.slice ao0 acc.length cap0).ownBlock = some fb := fun e => by have := (a8 HOW.out fb e).1; have := HHB.out; omega
   have c25 : w5.cell? ⟨fb, 2, none⟩ = some (.slice ao0 acc.length cap0) := hk5.cell_of c2 hnb
   have z25 : w5.frozen? ⟨fb, 2, none⟩ = false := by rw [hk5.frozen (p := ⟨fb, 2, none⟩) hfl hnb]; exact z2
   have HO5 := zz hown5
   have HG5 := zz hgrow
   have HN5 := zz hnew
   clear hown5 hgrow hnew hk5 hnb p1 p2 c2 z2 crw
   go_wp2_with fail
   go_end0
   have hnx := HJ3.out.next (p := ⟨t.text, kindV (pk E m1).text, t.at_⟩) (Nat.succ_le_succ HJ1.out.al) (Keeps.refl _ _) HJ3.out.rd HBK.out HOW.out HG5.out (by have := HO5.out; rw [<- hTT] at this; exact this) (by simpa using HN5.out)
   refine Or.inr ⟨acc ++ [⟨t.text, kindV (pk E m1).text, t.at_⟩], m1 + 1, by have := HM1.out; omega, rfl, hnx, fun r hr => ?_⟩
   rcases hr with ⟨h4, h5⟩ | ⟨h4, rfl⟩
   ·refine Ev.step (h := fun f => params E f (acc ++ [⟨t.text, kindV (pk E m1).text, t.at_⟩]) (m1 + 2)) (fun f => ?_) h5
    rw [j0, HT.out]
    show (if _ then _ else _) = _
    rw [if_neg HZ.out, if_pos h4]
   ·have hne : ((take E tRp (m1 + 1)).bind fun _ m2 => .ok (acc ++ [⟨t.text, kindV (pk E m1).text, t.at_⟩]) m2 : Res (List Pa)) ≠ .out := by
     cases hq : take E tRp (m1 + 1) with
     | out => exact absurd hq (cZ E _ _)
     | bad k a => intro e; cases e
     | ok t n => intro e; cases e
    refine Ev.now hne fun f => ?_
    rw [j0, HT.out]
    show (if _ then _ else _) = _
    rw [if_neg HZ.out, if_neg h4]
def FuC (w : World) (F : Nat -> Prop) (vs : List Value) (g : Fu) : Prop := ∃ pv bv, vs = fu1 g.name g.at_ pv g.kind bv /\ PaRow w F pv g.params /\ StsF w F g.body bv
def FuV (w w' : World) (g : Fu) (v : Value) : Prop := ∃ vs : List Value, v = .agg vs.toArray /\ FuC w' (fun b => w.heap.size <= b) vs g
theorem PaRow.form {F : Nat -> Prop} {v : Value} {l : List Pa} (h : PaRow w F v l) : ∃ a c, v = .slice a l.length c := by
 rcases h with ⟨h, h2⟩ | ⟨g, cap, h, _⟩
 ·exact ⟨none, 0, by rw [h, h2]; rfl⟩
 ·exact ⟨_, _, h⟩
theorem wN {r : Res (List Pa)} (hr : r ≠ .out) (h : o3 E (fun acc m r => Ev (fun f => params E f acc m) r) [] n r) : Ev (fun f => (take E tLp n).bind fun _ n3 => if (pk E n3).text = tRp then .ok [] (n3 + 1) else params E f [] n3) r := by
 rcases h with ⟨k, a, h1, rfl⟩ | ⟨t1, n1, h1, ⟨h2, rfl⟩ | ⟨h2, h3⟩⟩
 ·exact Ev.pure (fun e => by cases e) fun f => by rw [h1]; rfl
 ·exact Ev.pure (fun e => by cases e) fun f => by rw [h1]; show (if _ then _ else _) = _; rw [if_pos h2]
 ·exact ⟨hr, h3.2.imp fun f0 hf f hle => by rw [h1]; show (if _ then _ else _) = _; rw [if_neg h2]; exact hf f hle⟩
theorem FM {w0 : World} {dep rv fb A : Nat} {name : B} (hk : Keeps (fun b => b = rb) w0 w) (hlt : rb < w0.heap.size) :
  ItemC w rb tv E dep 156 #[.pointer (some ⟨rv, 0, none⟩), .pointer (some ⟨fb, 0, none⟩)]
   (fun W m acc => FunJ w0 rb tv E dep rv fb w A name W m acc) (fun acc m r => Ev (fun f => params E f acc m) r) :=
 ⟨fun _ _ _ h => h.rd, fun _ _ _ _ _ hm h hk2 hr2 => h.on hm hk2 hr2, fun _ _ _ h => nL hk h.kp h.lo.2.2.2.2 (Nat.le_of_lt hlt) (fun b e => Nat.le_of_eq (show rb = b from e.symm)), fun _ _ _ h => wM h⟩
theorem uU (w : World) (h : RdAt w rb tv E n 0) (hE : TEnv rb E w) : Calls Tryz.prog 113 #[.pointer (some ⟨rb, 0, none⟩)] w fun e w' => ∃ r, Ev (fun f => Tr.function E f n) r /\ bL FuV w w' rb tv E 0 r e := by
 have hb0 : Below w.heap.size w ((w.alloc (.cells #[.pointer (some ⟨rb, 0, none⟩)] 165)).alloc (.cells #[.string ⟨#[]⟩, .int .i64 0, .slice none 0 0, .int .i64 0, .slice none 0 0] 51)) := ((Keeps.refl (fun _ => False) w).alloc _).alloc _ |>.below (Nat.le_refl _) (fun _ _ e => e.elim)
 have cr0 : ((w.alloc (.cells #[.pointer (some ⟨rb, 0, none⟩)] 165)).alloc (.cells #[.string ⟨#[]⟩, .int .i64 0, .slice none 0 0, .int .i64 0, .slice none 0 0] 51)).cell? ⟨w.heap.size, 0, none⟩ = some (.pointer (some ⟨rb, 0, none⟩)) := aZ (bK _ _ _ 0 _ rfl rfl)
 have rv0 : Blk ((w.alloc (.cells #[.pointer (some ⟨rb, 0, none⟩)] 165)).alloc (.cells #[.string ⟨#[]⟩, .int .i64 0, .slice none 0 0, .int .i64 0, .slice none 0 0] 51)) (w.heap.size + 1) (fu1 [] 0 (.slice none 0 0) 0 (.slice none 0 0)) := Blk.new' _ (fu1 [] 0 (.slice none 0 0) 0 (.slice none 0 0)) _ (by simp)
 have htk := bM ⟨#[102, 117, 110, 99]⟩ (by decide) _ (h.fresh hb0)
 have e1 : (⟨#[102, 117, 110, 99]⟩ : ByteArray).data.toList = kW := rfl
 rw [e1] at htk
 have HT := zz htk
 have HE := zz hE
 have HLT := zz h.lt
 have HB0 := zz hb0
 have HCR0 := zz cr0
 have HRV0 := zz rv0
 clear h hE htk e1 hb0 cr0 rv0
 cases ht : take E kW n with
 | out => exact absurd ht (cZ E _ _)
 | bad k a =>
  rw [ht] at HT
  have HEV : Hid (Ev (fun f => Tr.function E f n) (.bad k a)) := zz (Ev.pure (fun e => by cases e) fun f => by unfold Tr.function; rw [ht]; rfl)
  clear ht
  go_enter Tryz.func113, Tryz.ntmps113
  go_wp2_with fail
  refine HT.out.mono ?_
  rintro e w1 hth
  have hth2 := Threw.with (S := fun _ => False) hth HLT.out (Keeps.of_new HB0.out) (fun b e => e.elim)
  obtain ⟨b, rfl⟩ := aB hth
  exact ⟨rfl, _, HEV.out, hth2⟩
 | ok t0 n1 =>
  rw [ht] at HT
  have HT0 := zz ht
  clear ht
  go_enter Tryz.func113, Tryz.ntmps113
  go_wp2_with fail
  refine HT.out.mono ?_
  rintro e w1 ⟨v1, rfl, _, hr1, hk1⟩
  have hlt0 := HLT.out
  have cr1 : w1.cell? ⟨w.heap.size, 0, none⟩ = some (.pointer (some ⟨rb, 0, none⟩)) := hk1.cell_of HCR0.out (fun e => by have : w.heap.size = rb := e; omega)
  have HRV1 := zz (HRV0.out.keeps hk1 (fun e => by have : w.heap.size + 1 = rb := e; omega))
  have HK1 : Hid (Keeps (fun b => b = rb) w w1) := zz ((Keeps.of_new HB0.out).trans hk1)
  have HTK := zz (aX 1 (by decide) w1 hr1)
  clear hr1 hk1 hlt0
  go_wp2_with fail
  cases ht : aF E 1 n1 with
  | out => exact absurd ht (bR E _ _)
  | bad k a =>
   rw [ht] at HTK
   refine HTK.out.mono ?_
   rintro e w2 hth
   have hth2 := Threw.own hth HLT.out HK1.out
   obtain ⟨b, rfl⟩ := aB hth
   refine ⟨rfl, .bad k a, Ev.pure (fun e => by cases e) fun f => ?_, hth2⟩
   unfold Tr.function; rw [HT0.out]
   show (aF E 1 n1).bind _ = _
   rw [ht]; rfl
  | ok t n2 =>
   rw [ht] at HTK
   have HT1 := zz ht
   clear ht
   unfold bL jL aR at HTK
   simp only at HTK
   refine HTK.out.mono ?_
   rintro e w2 ⟨v2, rfl, rfl, hr2, hk2⟩
   have hlt0 := HLT.out
   have hsz1 := HK1.out.size
   have hsz2 := hk2.size
   have hlv1 := HRV1.out.lt
   have cr2 := hk2.cell_of cr1 (fun e => by have : w.heap.size = rb := e; omega)
   have hrv2 := HRV1.out.keeps hk2 (fun e => by have : w.heap.size + 1 = rb := e; omega)
   obtain ⟨fb, hfb⟩ : ∃ fb, fb = w2.heap.size + 1 := ⟨_, rfl⟩
   have hb3 : Below w2.heap.size w2 ((w2.alloc (.cells #[.int .i64 (t.kind : Nat), .string (mkT t.text), .int .i64 (t.at_ : Nat)] 110)).alloc (.cells #[.string (mkT t.text), .int .i64 (t.at_ : Nat), .slice none 0 0, .int .i64 0, .slice none 0 0] 51)) := ((Keeps.refl (fun _ => False) w2).alloc _).alloc _ |>.below (Nat.le_refl _) (fun _ _ e => e.elim)
   have hB3 : Blk ((w2.alloc (.cells #[.int .i64 (t.kind : Nat), .string (mkT t.text), .int .i64 (t.at_ : Nat)] 110)).alloc (.cells #[.string (mkT t.text), .int .i64 (t.at_ : Nat), .slice none 0 0, .int .i64 0, .slice none 0 0] 51)) fb (fu1 t.text t.at_ (.slice none 0 0) 0 (.slice none 0 0)) := Blk.new' _ (fu1 t.text t.at_ (.slice none 0 0) 0 (.slice none 0 0)) _ (by rw [hfb]; simp)
   have hsz3 : ((w2.alloc (.cells #[.int .i64 (t.kind : Nat), .string (mkT t.text), .int .i64 (t.at_ : Nat)] 110)).alloc (.cells #[.string (mkT t.text), .int .i64 (t.at_ : Nat), .slice none 0 0, .int .i64 0, .slice none 0 0] 51)).heap.size = w2.heap.size + 2 := by simp
   have hk3 : Keeps (fun b => b = rb) w ((w2.alloc (.cells #[.int .i64 (t.kind : Nat), .string (mkT t.text), .int .i64 (t.at_ : Nat)] 110)).alloc (.cells #[.string (mkT t.text), .int .i64 (t.at_ : Nat), .slice none 0 0, .int .i64 0, .slice none 0 0] 51)) := (HK1.out.trans hk2).trans (Keeps.of_new hb3)
   have cr3 : ((w2.alloc (.cells #[.int .i64 (t.kind : Nat), .string (mkT t.text), .int .i64 (t.at_ : Nat)] 110)).alloc (.cells #[.string (mkT t.text), .int .i64 (t.at_ : Nat), .slice none 0 0, .int .i64 0, .slice none 0 0] 51)).cell? ⟨w.heap.size, 0, none⟩ = some (.pointer (some ⟨rb, 0, none⟩)) := aZ (aZ cr2)
   have hJ : FunJ w rb tv E 0 w.heap.size fb ((w2.alloc (.cells #[.int .i64 (t.kind : Nat), .string (mkT t.text), .int .i64 (t.at_ : Nat)] 110)).alloc (.cells #[.string (mkT t.text), .int .i64 (t.at_ : Nat), .slice none 0 0, .int .i64 0, .slice none 0 0] 51)) t.at_ t.text ((w2.alloc (.cells #[.int .i64 (t.kind : Nat), .string (mkT t.text), .int .i64 (t.at_ : Nat)] 110)).alloc (.cells #[.string (mkT t.text), .int .i64 (t.at_ : Nat), .slice none 0 0, .int .i64 0, .slice none 0 0] 51)) n2 [] :=
    ⟨hr2.fresh hb3, (HE.out.own (HK1.out.trans hk2)).fresh hb3, hk3, cr3, ⟨_, hB3, World.ownsRow_nil _ _ _ _, fun _ => rfl⟩, Nat.zero_le _, ⟨hlt0, Nat.le_refl _, by omega, by rw [hsz3]; omega, Nat.le_refl _⟩, Keeps.refl _ _⟩
   have HLS := zz (I0 (FM hk3 hlt0) [] hJ)
   have HRV3 := zz (hrv2.keeps (S := fun _ => False) (Keeps.of_new hb3) id)
   have HK3 := zz hk3
   have HFB := zz hfb
   have HSZ3 := zz (show w.heap.size + 1 < fb by omega)
   clear hr2 hk2 hlt0 hsz1 hsz2 hlv1 hrv2 hb3 hB3 hsz3 hk3 hJ
   go_wp2_with fail
   rw [<- hfb]
   clear hfb
   have HEVF : Hid (∀ r, Ev (fun f => ((take E tLp n2).bind fun _ n3 => if (pk E n3).text = tRp then .ok [] (n3 + 1) else params E f [] n3).bind fun ps n4 => (Tr.block E f 0 (if kindV (pk E n4).text = 0 then n4 else n4 + 1)).bind fun b n5 => .ok ⟨t.text, t.at_, ps, kindV (pk E n4).text, b⟩ n5) r -> Ev (fun f => Tr.function E f n) r) := zz fun r hr => ⟨hr.1, hr.2.imp fun f0 hf f hle => by
    show Tr.function E f n = _
    unfold Tr.function
    rw [HT0.out]
    show (aF E 1 n1).bind _ = _
    rw [HT1.out, <- hf f hle]
    simp only [mQ]
    rfl⟩
   refine HLS.out.mono ?_
   rintro e w4 ⟨r, hl, hsay⟩
   cases r with
   | out => exact hsay.elim
   | bad k a =>
    have hsay' : Threw _ w4 rb k a e := hsay
    have HEV := zz (HEVF.out _ (Ev.bad (wN (fun e => by cases e) hl)))
    obtain ⟨b, rfl⟩ := aB hsay'
    exact ⟨rfl, _, HEV.out, hsay'.own HLT.out HK3.out⟩
   | ok ps n4 =>
    obtain ⟨rfl, hj4⟩ := hsay
    have HEVL := zz (wN (fun e => by cases e) hl)
    obtain ⟨pv, hB4, hP4⟩ := hj4.pas
    obtain ⟨pa, pc, rfl⟩ := hP4.form
    have hlo4 := hj4.lo
    have cr4 := hj4.cr
    have HKD := zz (vU w4 hj4.rd hj4.env.kinds (by have := hj4.env.b2; omega))
    have hrv4 := HRV3.out.keeps hj4.kl (fun e => by have := HSZ3.out; rcases e with e | e <;> omega)
    have HB4 := zz hB4
    have HP4 := zz hP4
    have HRV4 := zz hrv4
    have HJ4 := zz hj4
    have HLO := zz (show rb < w.heap.size /\ w.heap.size + 1 < fb from ⟨hlo4.1, HSZ3.out⟩)
    have HWL := zz (show fb < w4.heap.size from hB4.lt)
    have HP4' : Hid (PaRow w4 (fun b => fb < b) (.slice pa ps.length pc) ps) := zz (PaRow.mono (fun b _ e => by have := hlo4.2.2.2.1; omega) hP4)
    clear hl hlo4 hB4 hP4 hrv4 hj4
    go_wp2_with fail
    refine HKD.out.mono ?_
    rintro e w5 ⟨rfl, hr5, hk5⟩
    have hL := HLO.out
    have hB5 := HB4.out.keeps hk5 (fun e => by have : fb = rb := e; omega)
    have cr5 : w5.cell? ⟨w.heap.size, 0, none⟩ = some (.pointer (some ⟨rb, 0, none⟩)) := hk5.cell_of cr4 (fun e => by have : w.heap.size = rb := e; omega)
    have c3 := hB5.at_ 3 _ rfl
    have z3 := hB5.free 3
    have hks : Keeps (fun b => b = fb) w5 (w5.setCell ⟨fb, 3, none⟩ (.int .i64 (kindV (pk E n4).text : Nat))) := mB
    have hB6 : Blk (w5.setCell ⟨fb, 3, none⟩ (.int .i64 (kindV (pk E n4).text : Nat))) fb (fu1 t.text t.at_ (.slice pa ps.length pc) (kindV (pk E n4).text) (.slice none 0 0)) := hB5.set 3 (.int .i64 (kindV (pk E n4).text : Nat)) (by simp [fu1])
    have cr6 : (w5.setCell ⟨fb, 3, none⟩ (.int .i64 (kindV (pk E n4).text : Nat))).cell? ⟨w.heap.size, 0, none⟩ = some (.pointer (some ⟨rb, 0, none⟩)) := hks.cell_of cr5 (fun e => by have : w.heap.size = fb := e; omega)
    have hk6 : Keeps (fun b => b = rb) w (w5.setCell ⟨fb, 3, none⟩ (.int .i64 (kindV (pk E n4).text : Nat))) := (HJ4.out.kp.trans hk5).trans' hks (fun i hi e => by have : i = fb := e; omega)
    have HB6 := zz hB6
    have HP6 : Hid (PaRow (w5.setCell ⟨fb, 3, none⟩ (.int .i64 (kindV (pk E n4).text : Nat))) (fun b => fb < b) (.slice pa ps.length pc) ps) := zz ((HP4'.out.keeps hk5 (fun b e e2 => by have : fb < b := e; have : b = rb := e2; omega)).keeps hks (fun b e e2 => by have : fb < b := e; have : b = fb := e2; omega))
    have HRV6 := zz ((HRV4.out.keeps hk5 (fun e => by have : w.heap.size + 1 = rb := e; omega)).keeps hks (fun e => by have : w.heap.size + 1 = fb := e; omega))
    have HK6 := zz hk6
    have HBL := zz (KN (dep := 0) (by decide) (if kindV (pk E n4).text = 0 then n4 else n4 + 1) _ (hr5.two hks (by omega)) (HE.out.own hk6))
    have HNE := zz (show ¬ fb = rb /\ ¬ w.heap.size + 1 = rb by omega)
    clear hL hB5 hks hB6 hr5 hk5 hk6 cr4
    have HEV4 : Hid (∀ r, Ev (fun f => (Tr.block E f 0 (if kindV (pk E n4).text = 0 then n4 else n4 + 1)).bind fun b n5 => .ok ⟨t.text, t.at_, ps, kindV (pk E n4).text, b⟩ n5) r -> Ev (fun f => Tr.function E f n) r) := zz fun r hr => HEVF.out _ (Ev.then HEVL.out hr)
    generalize kindV (pk E n4).text = kk at *
    go_wp2_with fail
    refine HBL.out.mono ?_
    rintro e w7 ⟨r, hev, hsay⟩
    clear c3 z3 cr5 cr6
    have HEV : Hid (Ev (fun f => Tr.function E f n) (r.bind fun b n5 => .ok ⟨t.text, t.at_, ps, kk, b⟩ n5)) := zz (HEV4.out _ (Ev.map _ (fun _ _ e => by cases e) hev))
    cases r with
    | out => exact hsay.elim
    | bad k a =>
     have hsay' : Threw _ w7 rb k a e := hsay
     obtain ⟨b, rfl⟩ := aB hsay'
     exact ⟨rfl, _, HEV.out, hsay'.own HLT.out HK6.out⟩
    | ok l n5 =>
     obtain ⟨v7, rfl, hl7, hr7, hk7⟩ := hsay
     obtain ⟨la, ll, lc, rfl⟩ := hl7.1.form
     have hB7 := HB6.out.keeps hk7 HNE.out.1
     have hV7 := HRV6.out.keeps hk7 HNE.out.2
     have c0 := hB7.at_ 0 _ rfl
     have c1 := hB7.at_ 1 _ rfl
     have c2 := hB7.at_ 2 _ rfl
     have c3 := hB7.at_ 3 _ rfl
     have c4 := hB7.at_ 4 _ rfl
     have z4 := hB7.free 4
     have r0 := hV7.at_ 0 _ rfl
     have r1 := hV7.at_ 1 _ rfl
     have r2 := hV7.at_ 2 _ rfl
     have r3 := hV7.at_ 3 _ rfl
     have r4 := hV7.at_ 4 _ rfl
     have y0 := hV7.free 0
     have y1 := hV7.free 1
     have y2 := hV7.free 2
     have y3 := hV7.free 3
     have y4 := hV7.free 4
     have hne : w.heap.size + 1 ≠ fb := by have := HLO.out; omega
     have hne2 : fb ≠ w.heap.size + 1 := fun e => hne e.symm
     have hsz6 := HK6.out.size
     have HL7 : Hid (StsF w7 (fun b => fb < b) l (.slice la ll lc)) := zz (StsF.mono (fun b e => by have h1 := HB6.out.lt; have h2 : _ <= b := e; show fb < b; omega) hl7)
     have HP7 : Hid (PaRow w7 (fun b => fb < b) (.slice pa ps.length pc) ps) := zz (HP6.out.keeps hk7 (fun b e e2 => by have : fb < b := e; have : b = rb := e2; have := HLO.out; omega))
     have HR7 := zz hr7
     have HK7 := zz (HK6.out.trans hk7)
     have HNN := zz hne
     clear hB7 hV7 hl7 hr7 hk7 hev hsz6
     go_wp2_with fail
     have hks : Keeps (fun b => b = fb \/ b = w.heap.size + 1) w7 ((((((w7.setCell ⟨fb, 4, none⟩ (.slice la ll lc)).setCell ⟨w.heap.size + 1, 0, none⟩ (.string (mkT t.text))).setCell ⟨w.heap.size + 1, 1, none⟩ (.int .i64 (t.at_ : Nat))).setCell ⟨w.heap.size + 1, 2, none⟩ (.slice pa ps.length pc)).setCell ⟨w.heap.size + 1, 3, none⟩ (.int .i64 (kk : Nat))).setCell ⟨w.heap.size + 1, 4, none⟩ (.slice la ll lc)) :=
      (((((((Keeps.refl (fun b => b = fb \/ b = w.heap.size + 1) w7).setCell (S := fun b => b = fb \/ b = w.heap.size + 1) (p := ⟨fb, 4, none⟩) (Or.inl (Or.inl rfl)) _).setCell (S := fun b => b = fb \/ b = w.heap.size + 1) (p := ⟨w.heap.size + 1, 0, none⟩) (Or.inl (Or.inr rfl)) _).setCell (S := fun b => b = fb \/ b = w.heap.size + 1) (p := ⟨w.heap.size + 1, 1, none⟩) (Or.inl (Or.inr rfl)) _).setCell (S := fun b => b = fb \/ b = w.heap.size + 1) (p := ⟨w.heap.size + 1, 2, none⟩) (Or.inl (Or.inr rfl)) _).setCell (S := fun b => b = fb \/ b = w.heap.size + 1) (p := ⟨w.heap.size + 1, 3, none⟩) (Or.inl (Or.inr rfl)) _).setCell (S := fun b => b = fb \/ b = w.heap.size + 1) (p := ⟨w.heap.size + 1, 4, none⟩) (Or.inl (Or.inr rfl)) _)
     have hL := HLO.out
     have hm : ∀ b, fb < b -> w.heap.size <= b := fun b e => by omega
     have hn : ∀ b, fb < b -> ¬ (b = fb \/ b = w.heap.size + 1) := fun b e e2 => by omega
     refine bodyPost_ret (v := .agg #[.string (mkT t.text), .int .i64 (t.at_ : Nat), .slice pa ps.length pc, .int .i64 (kk : Nat), .slice la ll lc]) (by simp [results, Tryz.results113, go_sem, r0, r1, r2, r3, r4]) rfl ⟨_, HEV.out, _, rfl, ⟨[.string (mkT t.text), .int .i64 (t.at_ : Nat), .slice pa ps.length pc, .int .i64 (kk : Nat), .slice la ll lc], rfl, _, _, rfl, PaRow.mono (fun b _ e => hm b e) (HP7.out.keeps hks hn), StsF.mono hm (HL7.out.keeps hks hn)⟩, HR7.out.keeps hks (fun b e => by omega), HK7.out.trans' hks (fun i hi e => by omega)⟩
def GlV (_ _ : World) (g : Gl) (v : Value) : Prop := v = .agg #[.string (mkT g.name), .int .i64 (g.at_ : Nat)]
def fL (E : Env) (n : Nat) : Res Gl := (aF E 1 (n + 1)).bind fun t m => .ok ⟨t.text, t.at_⟩ m
theorem yX (w : World) (h : RdAt w rb tv E n d) (ht : (pk E n).text = pD) : Calls Tryz.prog 112 #[.pointer (some ⟨rb, 0, none⟩)] w fun e w' => bL GlV w w' rb tv E d (fL E n) e := by
 have hb0 : Below w.heap.size w (w.alloc (.cells #[.string ⟨#[]⟩, .int .i64 0] 54)) := ((Keeps.refl (fun _ => False) w).alloc _).below (Nat.le_refl _) (fun _ _ e => e.elim)
 have rv0 : Blk (w.alloc (.cells #[.string ⟨#[]⟩, .int .i64 0] 54)) w.heap.size [.string ⟨#[]⟩, .int .i64 0] := Blk.new' w [.string ⟨#[]⟩, .int .i64 0] _ rfl
 have htk := bM ⟨#[118, 97, 114]⟩ (by decide) _ (h.fresh hb0)
 have e1 : (⟨#[118, 97, 114]⟩ : ByteArray).data.toList = pD := rfl
 have hv : take E pD n = .ok (pk E n) (n + 1) := by unfold take; rw [if_pos ht]
 rw [e1, hv] at htk
 have HT := zz htk
 have HLT := zz h.lt
 have HB0 := zz hb0
 have HRV0 := zz rv0
 clear h htk e1 hv hb0 rv0 ht
 go_enter Tryz.func112, Tryz.ntmps112
 go_wp2_with fail
 refine HT.out.mono ?_
 rintro e w1 ⟨v1, rfl, _, hr1, hk1⟩
 have HRV1 := zz (HRV0.out.keeps hk1 (fun e => by have := HLT.out; have : w.heap.size = rb := e; omega))
 have HK1 : Hid (Keeps (fun b => b = rb) w w1) := zz ((Keeps.of_new HB0.out).trans hk1)
 have HTK := zz (aX 1 (by decide) w1 hr1)
 clear hr1 hk1
 go_wp2_with fail
 cases ht : aF E 1 (n + 1) with
 | out => exact absurd ht (bR E _ _)
 | bad k a =>
  rw [ht] at HTK
  refine HTK.out.mono ?_
  rintro e w2 hth
  have hth2 := Threw.own hth HLT.out HK1.out
  obtain ⟨b, rfl⟩ := aB hth
  exact ⟨rfl, by rw [show fL E n = .bad k a by unfold fL; rw [ht]; rfl]; exact hth2⟩
 | ok t m =>
  rw [ht] at HTK
  unfold bL jL aR at HTK
  simp only at HTK
  refine HTK.out.mono ?_
  rintro e w2 ⟨v2, rfl, rfl, hr2, hk2⟩
  have hrv2 := HRV1.out.keeps hk2 (fun e => by have := HLT.out; have : w.heap.size = rb := e; omega)
  have r0 := hrv2.at_ 0 _ rfl
  have r1 := hrv2.at_ 1 _ rfl
  have y0 := hrv2.free 0
  have y1 := hrv2.free 1
  have hlt2 := hrv2.lt
  have HR2 := zz hr2
  have HK2 := zz (HK1.out.trans hk2)
  have HG : Hid (fL E n = .ok ⟨t.text, t.at_⟩ m) := zz (by unfold fL; rw [ht]; rfl)
  clear hrv2 hr2 hk2 ht
  go_wp2_with fail
  have hks : Keeps (fun b => b = w.heap.size) w2 (((w2.setCell ⟨w.heap.size, 0, none⟩ (.string (mkT t.text))).setCell ⟨w.heap.size, 1, none⟩ (.int .i64 (t.at_ : Nat))).alloc (.cells #[.int .i64 (t.kind : Nat), .string (mkT t.text), .int .i64 (t.at_ : Nat)] 110)) := (mP (w := w2)).alloc _
  have hsz := HK2.out.size
  have hl0 := HLT.out
  refine bodyPost_ret (v := .agg #[.string (mkT t.text), .int .i64 (t.at_ : Nat)]) (by simp [results, Tryz.results112, go_sem, r0, r1, hlt2]) rfl (by rw [HG.out]; exact ⟨_, rfl, rfl, HR2.out.keeps hks (fun b e => by omega), HK2.out.trans' hks (fun i hi e => by omega)⟩)
def bQ : List Gl -> List Value
 | [] => []
 | p :: ps => [.string (mkT p.name), .int .i64 (p.at_ : Nat)] ++ bQ ps
theorem nO : ∀ (l : List Gl) (p : Gl), bQ (l ++ [p]) = bQ l ++ [.string (mkT p.name), .int .i64 (p.at_ : Nat)]
 | [], _ => rfl
 | q :: l, p => by show _ ++ bQ (l ++ [p]) = _; rw [nO l p]; rfl
theorem mS : ∀ (l : List Gl) (i : Nat) (p : Gl), l[i]? = some p -> (bQ l)[i * 2]? = some (.string (mkT p.name)) /\ (bQ l)[i * 2 + 1]? = some (.int .i64 (p.at_ : Nat))
 | [], _, _, h => by cases h
 | q :: l, 0, p, h => by cases h; exact ⟨rfl, rfl⟩
 | q :: l, i + 1, p, h => by
  obtain ⟨h1, h2⟩ := mS l i p h
  rw [show (i + 1) * 2 = i * 2 + 2 by omega]
  exact ⟨h1, h2⟩
theorem o6 : (Tryz.prog.info? 54).map (fun i => (i.zero, i.size, i.bytes)) = some (some (.agg #[.string ByteArray.empty, .int .i64 0]), 2, 24) := by kernel_rfl
theorem sO : (Tryz.prog.info? 51).map (fun i => (i.zero, i.size, i.bytes)) = some (some (.agg #[.string ByteArray.empty, .int .i64 0, .slice none 0 0, .int .i64 0, .slice none 0 0]), 5, 80) := by kernel_rfl
def fA (w : World) (F : Nat -> Prop) (v : Value) (l : List Gl) : Prop :=
 (v = .slice none 0 0 /\ l = []) \/ ∃ g cap, v = .slice (some ⟨g, 0, none⟩) l.length cap /\ l.length <= cap /\ cap <= maxLen /\ F g /\ 0 < l.length /\ ∀ i p, l[i]? = some p -> w.cell? ⟨g, i * 2, none⟩ = some (.string (mkT p.name)) /\ w.cell? ⟨g, i * 2 + 1, none⟩ = some (.int .i64 (p.at_ : Nat))
def yY (w : World) (F : Nat -> Prop) (g o : Nat) (f : Fu) : Prop := ∃ pv bv, w.cell? ⟨g, o, none⟩ = some (.string (mkT f.name)) /\ w.cell? ⟨g, o + 1, none⟩ = some (.int .i64 (f.at_ : Nat)) /\ w.cell? ⟨g, o + 2, none⟩ = some pv /\ w.cell? ⟨g, o + 3, none⟩ = some (.int .i64 (f.kind : Nat)) /\ w.cell? ⟨g, o + 4, none⟩ = some bv /\ PaRow w F pv f.params /\ StsF w F f.body bv
def eL (w : World) (F : Nat -> Prop) (v : Value) (l : List Fu) : Prop :=
 (v = .slice none 0 0 /\ l = []) \/ ∃ g cap, v = .slice (some ⟨g, 0, none⟩) l.length cap /\ l.length <= cap /\ cap <= maxLen /\ F g /\ 0 < l.length /\ ∀ i p, l[i]? = some p -> yY w F g (i * 5) p
theorem FuC.len {F : Nat -> Prop} {vs : List Value} {g : Fu} (h : FuC w F vs g) : vs.length = 5 := by
 obtain ⟨pv, bv, e, _⟩ := h; rw [e]; rfl
theorem FuC.keeps {F S : Nat -> Prop} {vs : List Value} {g : Fu} (h : FuC w F vs g) (hk : Keeps S w w') (hF : ∀ b, F b -> ¬ S b) : FuC w' F vs g := by
 obtain ⟨pv, bv, e, h1, h2⟩ := h
 exact ⟨pv, bv, e, h1.keeps hk hF, h2.keeps hk hF⟩
theorem FuC.mono {F G : Nat -> Prop} (hF : ∀ b, b < w.heap.size -> F b -> G b) {vs : List Value} {g : Fu} (h : FuC w F vs g) : FuC w G vs g := by
 obtain ⟨pv, bv, e, h1, h2⟩ := h
 exact ⟨pv, bv, e, h1.mono hF, h2.1.monoB hF (fun g n cap e hl => (h2.2 g n cap e).lt hl), fun g n cap e => StsIn.monoB hF g 0 _ (h2.2 g n cap e)⟩
def RowF (W : World) (F : Nat -> Prop) : List Value -> List Fu -> Prop
 | cs, [] => cs = []
 | cs, s :: ss => ∃ vs rest, cs = vs ++ rest /\ FuC W F vs s /\ RowF W F rest ss
theorem RowF.keeps {F S : Nat -> Prop} (hk : Keeps S w w') (hF : ∀ b, F b -> ¬ S b) : ∀ (l : List Fu) (cs : List Value), RowF w F cs l -> RowF w' F cs l
 | [], _, h => h
 | s :: ss, cs, h => by
  obtain ⟨vs, rest, e, h1, h2⟩ := h
  exact ⟨vs, rest, e, h1.keeps hk hF, RowF.keeps hk hF ss rest h2⟩
theorem RowF.mono {F G : Nat -> Prop} (hF : ∀ b, b < w.heap.size -> F b -> G b) : ∀ (l : List Fu) (cs : List Value), RowF w F cs l -> RowF w G cs l
 | [], _, h => h
 | s :: ss, cs, h => by
  obtain ⟨vs, rest, e, h1, h2⟩ := h
  exact ⟨vs, rest, e, h1.mono hF, RowF.mono hF ss rest h2⟩
theorem RowF.snoc {F : Nat -> Prop} {vs : List Value} {s : Fu} (hs : FuC w F vs s) : ∀ (l : List Fu) (cs : List Value), RowF w F cs l -> RowF w F (cs ++ vs) (l ++ [s])
 | [], cs, h => by
  have : cs = [] := h
  subst this
  exact ⟨vs, [], by simp, hs, rfl⟩
 | s :: ss, cs, h => by
  obtain ⟨us, rest, e, h1, h2⟩ := h
  exact ⟨us, rest ++ vs, by rw [e, List.append_assoc], h1, RowF.snoc hs ss rest h2⟩
theorem RowF.lies {F : Nat -> Prop} {g : Nat} : ∀ (l : List Fu) (cs : List Value) (i : Nat), (∀ j v, cs[j]? = some v -> w.cell? ⟨g, i * 5 + j, none⟩ = some v) -> RowF w F cs l -> ∀ j p, l[j]? = some p -> yY w F g ((i + j) * 5) p
 | [], _, _, _, _, _, _, h => by cases h
 | s :: ss, cs, i, hc, h, j, p, hj => by
  obtain ⟨us, rest, e, h1, h2⟩ := h
  have hl := h1.len
  cases j with
  | zero =>
   cases hj
   obtain ⟨pv, bv, e2, h3, h4⟩ := h1
   subst e2
   subst e
   exact ⟨pv, bv, hc 0 _ rfl, hc 1 _ rfl, hc 2 _ rfl, hc 3 _ rfl, hc 4 _ rfl, h3, h4⟩
  | succ j =>
   have h4 := RowF.lies ss rest (i + 1) (fun j v hj => by
    have h4 := hc (us.length + j) v (by rw [e, List.getElem?_append_right (by omega)]; simpa using hj)
    rw [hl] at h4
    rw [show (i + 1) * 5 + j = i * 5 + (5 + j) by omega]
    exact h4) h2 j p hj
   rw [show i + (j + 1) = i + 1 + j by omega]
   exact h4
end Go.Proofs.YtnpapppipccdbaaGreatDoor
namespace Go.Proofs.YtnpapppipccdbaaGreatDoor
open Go.RowKit Lx Tr
variable {w w' : World}
theorem FN {F : Nat -> Prop} {val : Ex} {o2 : Option Addr} (hx : ExIn w F (.pointer o2) val) : ∀ W, Below w.heap.size w W -> Calls Tryz.prog 176 #[.pointer o2] W fun e w' => e = .returned (.tuple #[.bool ((cD val).getD false), .bool (cD val).isSome]) /\ W = w' := fun W hb =>
 lW (F := fun b => F b /\ b < w.heap.size) val W _ (ExIn.keeps (ExIn.mono (G := fun b => F b /\ b < w.heap.size) (fun b h1 h2 => ⟨h2, h1⟩) _ _ hx) (Keeps.of_below (S := fun k => w.heap.size <= k) hb (fun _ _ e => e)) (fun b e e2 => by have h9 : w.heap.size <= b := e2; have := e.2; omega))
theorem fM (w : World) (xs ys : Array Value) (e f : TypeId) : Below w.heap.size w ((w.alloc (.cells xs e)).alloc (.cells ys f)) := (((Keeps.refl (fun _ => False) w).alloc _).alloc _).below (Nat.le_refl _) (fun _ _ e => e.elim)
theorem FO {c a : Nat} {nm : Lx.B} {o1 o2 a5 a6 a7 : Option Addr} {l5 l6 l7 k5 k6 k7 : Nat}  (w : World) (ht : ∀ W, Below w.heap.size w W -> Calls Tryz.prog 176 #[.pointer o2] W fun e w' => e = .returned (.tuple #[.bool false, .bool false]) /\ W = w') :
  Calls Tryz.prog 126 #[.agg #[.int .i64 (c : Nat), .int .i64 (a : Nat), .string (mkT nm), .pointer o1, .pointer o2, .slice a5 l5 k5, .slice a6 l6 k6, .slice a7 l7 k7]] w fun e w' => e = .returned (.tuple #[.agg #[.int .i64 (c : Nat), .int .i64 (a : Nat), .string (mkT nm), .pointer o1, .pointer o2, .slice a5 l5 k5, .slice a6 l6 k6, .slice a7 l7 k7], .bool true]) /\ Below w.heap.size w w' := by
 have HT := zz (ht _ (fM w #[.int .i64 (c : Nat), .int .i64 (a : Nat), .string (mkT nm), .pointer o1, .pointer o2, .slice a5 l5 k5, .slice a6 l6 k6, .slice a7 l7 k7] #[.int .i64 0, .int .i64 0, .string ⟨#[]⟩, .pointer none, .pointer none, .slice none 0 0, .slice none 0 0, .slice none 0 0] 71 71))
 clear ht
 go_enter Tryz.func126, Tryz.ntmps126
 go_wp2_with fail
 refine HT.out.mono ?_
 rintro e w2 ⟨rfl, rfl⟩
 go_wp2_with fail
 refine bodyPost_ret (v := .tuple #[.agg #[.int .i64 (c : Nat), .int .i64 (a : Nat), .string (mkT nm), .pointer o1, .pointer o2, .slice a5 l5 k5, .slice a6 l6 k6, .slice a7 l7 k7], .bool true]) (by simp [results, Tryz.results126, go_sem]) rfl ?_
 exact ⟨rfl, fM w _ _ _ _⟩
theorem I6 {a : Nat} {nm : Lx.B} {o1 o2 a5 a6 a7 : Option Addr} {l5 l6 l7 k5 k6 k7 : Nat} (so : Bool) (w : World) (ht : ∀ W, Below w.heap.size w W -> Calls Tryz.prog 176 #[.pointer o2] W fun e w' => e = .returned (.tuple #[.bool so, .bool true]) /\ W = w') :
  Calls Tryz.prog 126 #[.agg #[.int .i64 13, .int .i64 (a : Nat), .string (mkT nm), .pointer o1, .pointer o2, .slice a5 l5 k5, .slice a6 l6 k6, .slice a7 l7 k7]] w fun e w' => e = .returned (.tuple #[.agg #[.int .i64 13, .int .i64 (a : Nat), .string (mkT nm), .pointer o1, .pointer o2, .slice a5 l5 k5, .slice a6 l6 k6, .slice a7 l7 k7], .bool so]) /\ Below w.heap.size w w' := by
 have HT := zz (ht _ (fM w #[.int .i64 13, .int .i64 (a : Nat), .string (mkT nm), .pointer o1, .pointer o2, .slice a5 l5 k5, .slice a6 l6 k6, .slice a7 l7 k7] #[.int .i64 0, .int .i64 0, .string ⟨#[]⟩, .pointer none, .pointer none, .slice none 0 0, .slice none 0 0, .slice none 0 0] 71 71))
 clear ht
 go_enter Tryz.func126, Tryz.ntmps126
 go_wp2_with fail
 refine HT.out.mono ?_
 rintro e w2 ⟨rfl, rfl⟩
 go_wp2_with fail
 refine bodyPost_ret (v := .tuple #[.agg #[.int .i64 13, .int .i64 (a : Nat), .string (mkT nm), .pointer o1, .pointer o2, .slice a5 l5 k5, .slice a6 l6 k6, .slice a7 l7 k7], .bool so]) (by simp [results, Tryz.results126, go_sem]) rfl ?_
 exact ⟨rfl, fM w _ _ _ _⟩
theorem FP {a : Nat} {nm : Lx.B} {o1 o2 a5 a6 a7 : Option Addr} {l5 l6 l7 k5 k6 k7 : Nat}  (w : World) (ht : ∀ W, Below w.heap.size w W -> Calls Tryz.prog 176 #[.pointer o2] W fun e w' => e = .returned (.tuple #[.bool true, .bool true]) /\ W = w') :
  Calls Tryz.prog 126 #[.agg #[.int .i64 12, .int .i64 (a : Nat), .string (mkT nm), .pointer o1, .pointer o2, .slice a5 l5 k5, .slice a6 l6 k6, .slice a7 l7 k7]] w fun e w' => e = .returned (.tuple #[.agg #[.int .i64 12, .int .i64 (a : Nat), .string (mkT nm), .pointer o1, .pointer o2, .slice a5 l5 k5, .slice none 0 0, .slice a7 l7 k7], .bool (decide (0 < l5))]) /\ Below w.heap.size w w' := by
 have HT := zz (ht _ (fM w #[.int .i64 12, .int .i64 (a : Nat), .string (mkT nm), .pointer o1, .pointer o2, .slice a5 l5 k5, .slice a6 l6 k6, .slice a7 l7 k7] #[.int .i64 0, .int .i64 0, .string ⟨#[]⟩, .pointer none, .pointer none, .slice none 0 0, .slice none 0 0, .slice none 0 0] 71 71))
 clear ht
 go_enter Tryz.func126, Tryz.ntmps126
 go_wp2_with fail
 refine HT.out.mono ?_
 rintro e w2 ⟨rfl, rfl⟩
 go_wp2_with fail
 go_region
 go_wp2_with fail
 try simp only [Exit.inBlock, Exit.then]
 refine bodyPost_ret (v := .tuple #[.agg #[.int .i64 12, .int .i64 (a : Nat), .string (mkT nm), .pointer o1, .pointer o2, .slice a5 l5 k5, .slice none 0 0, .slice a7 l7 k7], .bool (decide (0 < l5))]) (by simp [results, Tryz.results126, go_sem]) rfl ?_
 exact ⟨rfl, ((((Keeps.refl (fun _ => False) w).alloc _).alloc _).drew).below (Nat.le_refl _) (fun _ _ e => e.elim)⟩
theorem FQ {a : Nat} {nm : Lx.B} {o1 o2 a5 a6 a7 : Option Addr} {l5 l6 l7 k5 k6 k7 : Nat}  (w : World) (ht : ∀ W, Below w.heap.size w W -> Calls Tryz.prog 176 #[.pointer o2] W fun e w' => e = .returned (.tuple #[.bool false, .bool true]) /\ W = w') :
  Calls Tryz.prog 126 #[.agg #[.int .i64 12, .int .i64 (a : Nat), .string (mkT nm), .pointer o1, .pointer o2, .slice a5 l5 k5, .slice a6 l6 k6, .slice a7 l7 k7]] w fun e w' => e = .returned (.tuple #[.agg #[.int .i64 12, .int .i64 (a : Nat), .string (mkT nm), .pointer o1, .pointer o2, .slice none 0 0, .slice a6 l6 k6, .slice a7 l7 k7], .bool (decide (0 < l6))]) /\ Below w.heap.size w w' := by
 have HT := zz (ht _ (fM w #[.int .i64 12, .int .i64 (a : Nat), .string (mkT nm), .pointer o1, .pointer o2, .slice a5 l5 k5, .slice a6 l6 k6, .slice a7 l7 k7] #[.int .i64 0, .int .i64 0, .string ⟨#[]⟩, .pointer none, .pointer none, .slice none 0 0, .slice none 0 0, .slice none 0 0] 71 71))
 clear ht
 go_enter Tryz.func126, Tryz.ntmps126
 go_wp2_with fail
 refine HT.out.mono ?_
 rintro e w2 ⟨rfl, rfl⟩
 go_wp2_with fail
 go_region
 go_wp2_with fail
 try simp only [Exit.inBlock, Exit.then]
 refine bodyPost_ret (v := .tuple #[.agg #[.int .i64 12, .int .i64 (a : Nat), .string (mkT nm), .pointer o1, .pointer o2, .slice none 0 0, .slice a6 l6 k6, .slice a7 l7 k7], .bool (decide (0 < l6))]) (by simp [results, Tryz.results126, go_sem]) rfl ?_
 exact ⟨rfl, ((((Keeps.refl (fun _ => False) w).alloc _).alloc _).drew).below (Nat.le_refl _) (fun _ _ e => e.elim)⟩
theorem DH {c a : Nat} {nm : Lx.B} {o1 o2 a5 a6 a7 : Option Addr} {l5 l6 l7 k5 k6 k7 : Nat} (so : Bool) (hc : c ≠ 13 /\ c ≠ 12) (w : World) (ht : ∀ W, Below w.heap.size w W -> Calls Tryz.prog 176 #[.pointer o2] W fun e w' => e = .returned (.tuple #[.bool so, .bool true]) /\ W = w') :
  Calls Tryz.prog 126 #[.agg #[.int .i64 (c : Nat), .int .i64 (a : Nat), .string (mkT nm), .pointer o1, .pointer o2, .slice a5 l5 k5, .slice a6 l6 k6, .slice a7 l7 k7]] w fun e w' => e = .returned (.tuple #[.agg #[.int .i64 (c : Nat), .int .i64 (a : Nat), .string (mkT nm), .pointer o1, .pointer o2, .slice a5 l5 k5, .slice a6 l6 k6, .slice a7 l7 k7], .bool true]) /\ Below w.heap.size w w' := by
 have HT := zz (ht _ (fM w #[.int .i64 (c : Nat), .int .i64 (a : Nat), .string (mkT nm), .pointer o1, .pointer o2, .slice a5 l5 k5, .slice a6 l6 k6, .slice a7 l7 k7] #[.int .i64 0, .int .i64 0, .string ⟨#[]⟩, .pointer none, .pointer none, .slice none 0 0, .slice none 0 0, .slice none 0 0] 71 71))
 have e1 : ((c : Int) == 13) = false := beq_eq_false_iff_ne.2 (by omega)
 have e2 : ((c : Int) == 12) = false := beq_eq_false_iff_ne.2 (by omega)
 clear hc
 clear ht
 go_enter Tryz.func126, Tryz.ntmps126
 go_wp2_with fail
 refine HT.out.mono ?_
 rintro e w2 ⟨rfl, rfl⟩
 go_wp2_with fail
 refine bodyPost_ret (v := .tuple #[.agg #[.int .i64 (c : Nat), .int .i64 (a : Nat), .string (mkT nm), .pointer o1, .pointer o2, .slice a5 l5 k5, .slice a6 l6 k6, .slice a7 l7 k7], .bool true]) (by simp [results, Tryz.results126, go_sem]) rfl ?_
 exact ⟨rfl, fM w _ _ _ _⟩
def iW (c a : Nat) (nm : Lx.B) (o1 o2 a5 : Option Addr) (l5 k5 : Nat) (a6 : Option Addr) (l6 k6 : Nat) (a7 : Option Addr) (l7 k7 : Nat) : Value :=
 .agg #[.int .i64 (c : Nat), .int .i64 (a : Nat), .string (mkT nm), .pointer o1, .pointer o2, .slice a5 l5 k5, .slice a6 l6 k6, .slice a7 l7 k7]
def StA (w : World) (F : Nat -> Prop) (v : Value) (s : St) : Prop := ∃ c a nm dst val thn els cs o1 o2 a5 k5 a6 k6 a7 k7, s = .mk c a nm dst val thn els cs /\ v = iW c a nm o1 o2 a5 thn.len k5 a6 els.len k6 a7 cs.len k7 ∧
 StV w F (.pointer o1) (.pointer o2) (.slice a5 thn.len k5) (.slice a6 els.len k6) (.slice a7 cs.len k7) dst val thn els cs
theorem bT {F : Nat -> Prop} {v : Value} {n : Nat} (h : SlAt F v n) : ∃ o c, v = .slice o n c := by
 rcases h with ⟨e, e0⟩ | ⟨g, cap, e, _⟩
 ·exact ⟨none, 0, by rw [e, e0]⟩
 ·exact ⟨_, _, e⟩
theorem StV.keeps {F S : Nat -> Prop} {tv vv nv ev cv : Value} {dst val : Ex} {thn els : Sts} {cases : Cas} (h : StV w F tv vv nv ev cv dst val thn els cases) (hk : Keeps S w w') (hF : ∀ b, F b -> ¬ S b) : StV w' F tv vv nv ev cv dst val thn els cases := by
 obtain ⟨h1, h2, h3, h4, h5, h6, h7, h8⟩ := h
 exact ⟨h1.keeps hk hF, h2.keeps hk hF, h3, fun g n cap e => StsIn.keeps hk hF g (h3.mem e) 0 thn (h4 g n cap e), h5, fun g n cap e => StsIn.keeps hk hF g (h5.mem e) 0 els (h6 g n cap e), h7, fun g n cap e => CasIn.keeps hk hF g (h7.mem e) 0 cases (h8 g n cap e)⟩
theorem StV.mono {F G : Nat -> Prop} (hF : ∀ b, b < w.heap.size -> F b -> G b) {tv vv nv ev cv : Value} {dst val : Ex} {thn els : Sts} {cases : Cas} (h : StV w F tv vv nv ev cv dst val thn els cases) : StV w G tv vv nv ev cv dst val thn els cases := by
 obtain ⟨h1, h2, h3, h4, h5, h6, h7, h8⟩ := h
 exact ⟨ExIn.mono hF _ _ h1, ExIn.mono hF _ _ h2, h3.monoB hF (fun g n cap e hl => (h4 g n cap e).lt hl), fun g n cap e => StsIn.monoB hF g 0 thn (h4 g n cap e), h5.monoB hF (fun g n cap e hl => (h6 g n cap e).lt hl), fun g n cap e => StsIn.monoB hF g 0 els (h6 g n cap e), h7.monoB hF (fun g n cap e hl => (h8 g n cap e).lt hl), fun g n cap e => CasIn.monoB hF g 0 cases (h8 g n cap e)⟩
theorem StV.grow {B : Nat} {tv vv nv ev cv : Value} {dst val : Ex} {thn els : Sts} {cases : Cas} (h : StV w (fun b => B <= b) tv vv nv ev cv dst val thn els cases) (hb : Below w.heap.size w w') : StV w' (fun b => B <= b) tv vv nv ev cv dst val thn els cases :=
 StV.mono (fun _ _ e => e.1) (StV.keeps (StV.mono (G := fun b => B <= b /\ b < w.heap.size) (fun _ h1 h2 => ⟨h2, h1⟩) h) (Keeps.of_below (S := fun k => w.heap.size <= k) hb (fun _ _ e => e)) (fun b e e2 => by have h9 : w.heap.size <= b := e2; have := e.2; omega))
theorem sl0 {F : Nat -> Prop} : SlAt F (.slice none 0 0) 0 := Or.inl ⟨rfl, rfl⟩
theorem wO {B : Nat} {v : Value} {s : St} (w : World) (h : StA w (fun b => B <= b) v s) : Calls Tryz.prog 126 #[v] w fun e w' => ∃ u b y, e = .returned (.tuple #[u, .bool b]) /\ StA w' (fun b => B <= b) u y /\ p7 s = (if b then some y else none) /\ Below w.heap.size w w' := by
 obtain ⟨c, a, nm, dst, val, thn, els, cs, o1, o2, a5, k5, a6, k6, a7, k7, rfl, rfl, hv⟩ := h
 have htr := FN hv.2.1
 have keep : ∀ {w' : World}, Below w.heap.size w w' -> StA w' (fun b => B <= b) (iW c a nm o1 o2 a5 thn.len k5 a6 els.len k6 a7 cs.len k7) (.mk c a nm dst val thn els cs) := fun hb => ⟨c, a, nm, dst, val, thn, els, cs, o1, o2, a5, k5, a6, k6, a7, k7, rfl, rfl, hv.grow hb⟩
 rw [fK]
 cases ht : cD val with
 | none =>
  rw [ht, Option.getD_none, Option.isSome_none] at htr
  refine (FO w htr).mono ?_
  rintro e w' ⟨rfl, hb⟩
  exact ⟨_, true, _, rfl, keep hb, rfl, hb⟩
 | some so =>
  rw [ht, Option.getD_some, Option.isSome_some] at htr
  by_cases h13 : c = 13
  ·subst h13
   refine (I6 so w htr).mono ?_
   rintro e w' ⟨rfl, hb⟩
   exact ⟨_, so, _, rfl, keep hb, by simp, hb⟩
  by_cases h12 : c = 12
  ·subst h12
   cases so with
   | true =>
    refine (FP w htr).mono ?_
    rintro e w' ⟨rfl, hb⟩
    have hv2 := hv.grow hb
    exact ⟨_, decide (0 < thn.len), .mk 12 a nm dst val thn .nil cs, rfl, ⟨12, a, nm, dst, val, thn, .nil, cs, o1, o2, a5, k5, none, 0, a7, k7, rfl, rfl, hv2.1, hv2.2.1, hv2.2.2.1, hv2.2.2.2.1, sl0, fun g n cap e => (by cases e), hv2.2.2.2.2.2.2⟩, by simp, hb⟩
   | false =>
    refine (FQ w htr).mono ?_
    rintro e w' ⟨rfl, hb⟩
    have hv2 := hv.grow hb
    exact ⟨_, decide (0 < els.len), .mk 12 a nm dst val .nil els cs, rfl, ⟨12, a, nm, dst, val, .nil, els, cs, o1, o2, none, 0, a6, k6, a7, k7, rfl, rfl, hv2.1, hv2.2.1, sl0, fun g n cap e => (by cases e), hv2.2.2.2.2⟩, by simp, hb⟩
  ·refine (DH so ⟨h13, h12⟩ w htr).mono ?_
   rintro e w' ⟨rfl, hb⟩
   exact ⟨_, true, _, rfl, keep hb, by simp [h13, h12], hb⟩
def kK (xs : Sts) : Prop := ∀ (F : Nat -> Prop) (w : World) (v : Value), StsF w F xs v -> (∀ b, F b -> b < w.heap.size) -> Calls Tryz.prog 75 #[v] w fun e w' => ∃ u, e = .returned u /\ StsF w' (fun b => w.heap.size <= b) (aE xs) u /\ Below w.heap.size w w'
def yZ (xs : Cas) : Prop := ∀ (F : Nat -> Prop) (w : World) (v : Value), CasF w F xs v -> (∀ b, F b -> b < w.heap.size) -> Calls Tryz.prog 125 #[v] w fun e w' => ∃ u, e = .returned u /\ CasF w' (fun b => w.heap.size <= b) (aT xs) u /\ Below w.heap.size w w'
theorem cJ {F G : Nat -> Prop} (hF : ∀ b, b < w.heap.size -> F b -> G b) {l : Sts} {v : Value} (h : StsF w F l v) : StsF w G l v :=
 ⟨h.1.monoB hF (fun g n cap e hl => (h.2 g n cap e).lt hl), fun g n cap e => StsIn.monoB hF g 0 l (h.2 g n cap e)⟩
theorem mT {F G : Nat -> Prop} (hF : ∀ b, b < w.heap.size -> F b -> G b) {l : Cas} {v : Value} (h : CasF w F l v) : CasF w G l v :=
 ⟨h.1.monoB hF (fun g n cap e hl => (h.2 g n cap e).lt hl), fun g n cap e => CasIn.monoB hF g 0 l (h.2 g n cap e)⟩
theorem dP {F S : Nat -> Prop} {l : Sts} {v : Value} (h : StsF w F l v) (hk : Keeps S w w') (hF : ∀ b, F b -> ¬ S b) : StsF w' F l v := ⟨h.1, fun g n cap e => StsIn.keeps hk hF g (h.1.mem e) 0 l (h.2 g n cap e)⟩
theorem qP {F S : Nat -> Prop} {l : Cas} {v : Value} (h : CasF w F l v) (hk : Keeps S w w') (hF : ∀ b, F b -> ¬ S b) : CasF w' F l v := ⟨h.1, fun g n cap e => CasIn.keeps hk hF g (h.1.mem e) 0 l (h.2 g n cap e)⟩
theorem bY {B k : Nat} {S : Nat -> Prop} {v : Value} {x : Ex} (h : ExIn w (fun b => B <= b) v x) (hk : Keeps S w w') (hS : ∀ b, B <= b -> b < w.heap.size -> ¬ S b) (hB : k <= B) : ExIn w' (fun b => k <= b) v x :=
 ExIn.mono (fun _ _ e => Nat.le_trans hB e.1) _ _ (ExIn.keeps (ExIn.mono (G := fun b => B <= b /\ b < w.heap.size) (fun _ h1 h2 => ⟨h2, h1⟩) _ _ h) hk (fun b e => hS b e.1 e.2))
theorem dQ {B k : Nat} {S : Nat -> Prop} {v : Value} {x : Sts} (h : StsF w (fun b => B <= b) x v) (hk : Keeps S w w') (hS : ∀ b, B <= b -> b < w.heap.size -> ¬ S b) (hB : k <= B) : StsF w' (fun b => k <= b) x v :=
 cJ (fun _ _ e => Nat.le_trans hB e.1) (dP (cJ (G := fun b => B <= b /\ b < w.heap.size) (fun _ h1 h2 => ⟨h2, h1⟩) h) hk (fun b e => hS b e.1 e.2))
theorem I7 {B k : Nat} {S : Nat -> Prop} {v : Value} {x : Cas} (h : CasF w (fun b => B <= b) x v) (hk : Keeps S w w') (hS : ∀ b, B <= b -> b < w.heap.size -> ¬ S b) (hB : k <= B) : CasF w' (fun b => k <= b) x v :=
 mT (fun _ _ e => Nat.le_trans hB e.1) (qP (mT (G := fun b => B <= b /\ b < w.heap.size) (fun _ h1 h2 => ⟨h2, h1⟩) h) hk (fun b e => hS b e.1 e.2))
theorem LG {k : Nat} {v0 v1 v2 v3 v4 v5 v6 v7 : Value} : Keeps (fun b => b = k) w ((((((((w.setCell ⟨k, 0, none⟩ v0).setCell ⟨k, 1, none⟩ v1).setCell ⟨k, 2, none⟩ v2).setCell ⟨k, 3, none⟩ v3).setCell ⟨k, 4, none⟩ v4).setCell ⟨k, 5, none⟩ v5).setCell ⟨k, 6, none⟩ v6).setCell ⟨k, 7, none⟩ v7) :=
 (fW.trans fW).trans (fW.trans fW)
def zA : St -> St
 | .mk c a nm dst val thn els cs => .mk c a nm (aK dst) (aK val) (aE thn) (aE els) (aT cs)
theorem wP (s : St) : cO s = p7 (zA s) := by
 obtain ⟨c, a, nm, dst, val, thn, els, cs⟩ := s
 rw [cO]; rfl
theorem zB {F : Nat -> Prop} {c a : Nat} {nm : Lx.B} {dst val : Ex} {thn els : Sts} {cs : Cas} {o1 o2 a5 a6 a7 : Option Addr} {k5 k6 k7 : Nat} (hX1 : eJ dst) (hX2 : eJ val) (hS1 : kK thn) (hS2 : kK els) (hC : yZ cs) (w : World) (hF : ∀ b, F b -> b < w.heap.size)
  (hv : StV w F (.pointer o1) (.pointer o2) (.slice a5 thn.len k5) (.slice a6 els.len k6) (.slice a7 cs.len k7) dst val thn els cs) :
  Calls Tryz.prog 123 #[iW c a nm o1 o2 a5 thn.len k5 a6 els.len k6 a7 cs.len k7] w fun e w' => ∃ u b y, e = .returned (.tuple #[u, .bool b]) /\ StA w' (fun b => w.heap.size <= b) u y /\ p7 (zA (.mk c a nm dst val thn els cs)) = (if b then some y else none) /\ Below w.heap.size w w' := by
 obtain ⟨w1, hw1⟩ : ∃ W, W = (w.alloc (.cells #[.int .i64 (c : Nat), .int .i64 (a : Nat), .string (mkT nm), .pointer o1, .pointer o2, .slice a5 thn.len k5, .slice a6 els.len k6, .slice a7 cs.len k7] 71)).alloc (.cells #[.int .i64 0, .int .i64 0, .string ⟨#[]⟩, .pointer none, .pointer none, .slice none 0 0, .slice none 0 0, .slice none 0 0] 71) := ⟨_, rfl⟩
 have HW1 := zz hw1
 have hB1 : Below w.heap.size w w1 := by rw [hw1]; exact fM w _ _ _ _
 have hz1 : w1.heap.size = w.heap.size + 2 := by rw [hw1]; simp
 have hs1 : Blk w1 w.heap.size [.int .i64 (c : Nat), .int .i64 (a : Nat), .string (mkT nm), .pointer o1, .pointer o2, .slice a5 thn.len k5, .slice a6 els.len k6, .slice a7 cs.len k7] := by
  rw [hw1]; exact (Blk.new w _ _).fresh (cU _ _ _)
 have hr1 : Blk w1 (w.heap.size + 1) [.int .i64 0, .int .i64 0, .string ⟨#[]⟩, .pointer none, .pointer none, .slice none 0 0, .slice none 0 0, .slice none 0 0] := by
  rw [hw1]; exact Blk.new' _ _ _ (by simp)
 have HV : Hid (∀ W, Below w.heap.size w W -> StV W F (.pointer o1) (.pointer o2) (.slice a5 thn.len k5) (.slice a6 els.len k6) (.slice a7 cs.len k7) dst val thn els cs) := zz fun W hb =>
  hv.keeps (Keeps.of_below (S := fun k => w.heap.size <= k) hb (fun _ _ e => e)) (fun b e e2 => by have h9 : w.heap.size <= b := e2; have := hF b e; omega)
 have HF := zz hF
 have HX1 := zz hX1
 have HX2 := zz hX2
 have HS1 := zz hS1
 have HS2 := zz hS2
 have HC := zz hC
 have HB1 := zz hB1
 have HZ1 := zz hz1
 have SB1 := zz hs1
 have RB1 := zz hr1
 have hbd : Below w1.heap.size w1 w1.drew := Below.drew (Below.refl _ w1)
 have HE1 := zz (hX1 F w1.drew _ (HV.out _ (hB1.trans (hbd.mono hB1.size))).1)
 unfold bI at HE1
 have HBD := zz hbd
 clear hX1 hX2 hS1 hS2 hC hv hw1 hB1 hz1 hs1 hr1 hbd hF
 unfold iW
 go_enter Tryz.func123, Tryz.ntmps123
 go_upto_region 1 with fail
 rw [<- HW1.out]
 have i3 := SB1.out.at_ 3 _ rfl
 have i4 := SB1.out.at_ 4 _ rfl
 go_cut [] (fun wx => ∃ u1 u2, Blk wx w.heap.size [.int .i64 (c : Nat), .int .i64 (a : Nat), .string (mkT nm), .pointer u1, .pointer u2, .slice a5 thn.len k5, .slice a6 els.len k6, .slice a7 cs.len k7] /\ Blk wx (w.heap.size + 1) [.int .i64 0, .int .i64 0, .string ⟨#[]⟩, .pointer none, .pointer none, .slice none 0 0, .slice none 0 0, .slice none 0 0] /\ Below w.heap.size w wx /\ w.heap.size + 2 <= wx.heap.size ∧
  ExIn wx (fun b => w.heap.size + 2 <= b) (.pointer u1) (aK dst) /\ ExIn wx (fun b => w.heap.size + 2 <= b) (.pointer u2) (aK val))
 case first =>
  refine wp_region_held_drew (S := (fun _ : World => True)) (by kernel_rfl) True.intro (fun hHeld => ?_)
  refine tk 0 4 (.pointer (some ⟨w.heap.size, 3, none⟩)) rfl (.inl ⟨by rfl, ?_⟩) hHeld ?_
  ·intro W9 hSW; (try dsimp only at hSW); go_simp
  try simp only [Act.put, sA, sB, sC]
  refine tk 3 7 (.pointer (some ⟨w.heap.size, 4, none⟩)) rfl (.inl ⟨by rfl, ?_⟩) hHeld ?_
  ·intro W9 hSW; (try dsimp only at hSW); go_simp
  try simp only [Act.put, sA, sB, sC]
  refine wpAnyH_ready (rs := [1, 4]) (by kernel_rfl) (by simp) ?_
  refine AllReadyH.cons (o := { dst := some 5, op := _, type := _, pos := _, after := _, guard := _ }) rfl (fun K hK => ?_) (AllReadyH.cons (o := { dst := some 8, op := _, type := _, pos := _, after := _, guard := _ }) rfl (fun K hK => ?_) AllReadyH.nil)
  ·go_simp
   refine hK.out _ _ True.intro (fun hHeld => ?_)
   clear hK K
   refine wpAnyH_ready (rs := [2, 4]) (by kernel_rfl) (by simp) ?_
   refine AllReadyH.cons (o := { dst := some 6, op := _, type := _, pos := _, after := _, guard := _ }) rfl (fun K hK => ?_) (AllReadyH.cons (o := { dst := some 8, op := _, type := _, pos := _, after := _, guard := _ }) rfl (fun K hK => ?_) AllReadyH.nil)
   ·go_simp
    go_at_call 124
    refine HE1.out.mono ?_
    rintro e w2 ⟨v1, rfl, hv1, hb2⟩
    obtain ⟨u1, rfl⟩ := aL hv1
    have HB2 : Hid (Below w1.heap.size w1 w2) := zz (HBD.out.trans (hb2.mono HBD.out.size))
    have SB2 := zz (SB1.out.fresh HB2.out)
    have k4 := SB2.out.at_ 4 _ rfl
    have HV1 : Hid (ExIn w2 (fun b => w1.heap.size <= b) (.pointer u1) (aK dst)) := zz hv1
    have HE2 := zz (HX2.out F w2 _ (HV.out _ (HB1.out.trans (HB2.out.mono HB1.out.size))).2.1)
    unfold bI at HE2
    clear hv1 hb2
    refine hK.out _ _ True.intro (fun hHeld => ?_)
    clear hK K
    refine ra 4 (some 8) rfl fun K hK => ?_
    go_simp
    refine hK.out _ _ True.intro (fun hHeld => ?_)
    clear hK K
    refine tk 6 10 (.pointer (some ⟨w.heap.size, 3, none⟩)) rfl (.inl ⟨by rfl, ?_⟩) hHeld ?_
    ·intro W9 hSW; (try dsimp only at hSW); go_simp
    try simp only [Act.put, sA, sB, sC]
    refine ra 5 (some 9) rfl fun K hK => ?_
    go_simp
    go_at_call 124
    refine HE2.out.mono ?_
    rintro e w3 ⟨v2, rfl, hv2, hb3⟩
    obtain ⟨u2, rfl⟩ := aL hv2
    have HB3 : Hid (Below w1.heap.size w1 w3) := zz (HB2.out.trans (hb3.mono HB2.out.size))
    have SB3 := zz (SB1.out.fresh HB3.out)
    have k3 := SB3.out.at_ 3 _ rfl
    have z3 := SB3.out.free 3
    have SB4 := zz (SB3.out.set 3 (.pointer u1) (by simp))
    have k4b := SB4.out.at_ 4 _ rfl
    have z4 := SB4.out.free 4
    have z4b := SB3.out.free 4
    have HV1b : Hid (ExIn w3 (fun b => w1.heap.size <= b) (.pointer u1) (aK dst)) := zz (HV1.out.grow hb3)
    have HV2 : Hid (ExIn w3 (fun b => w1.heap.size <= b) (.pointer u2) (aK val)) := zz (ExIn.mono (fun b _ e => Nat.le_trans HB2.out.size e) _ _ hv2)
    clear hv2 hb3
    refine hK.out _ _ True.intro (fun hHeld => ?_)
    clear hK K
    refine ra 7 none rfl fun K hK => ?_
    go_simp
    refine hK.out _ _ True.intro (fun hHeld => ?_)
    clear hK K
    refine tk 8 11 (.pointer (some ⟨w.heap.size, 4, none⟩)) rfl (.inl ⟨by rfl, ?_⟩) hHeld ?_
    ·intro W9 hSW; (try dsimp only at hSW); go_simp
    try simp only [Act.put, sA, sB, sC]
    refine ra 9 none rfl fun K hK => ?_
    go_simp
    refine hK.out _ _ True.intro (fun hHeld => ?_)
    clear hK K
    refine wpAnyH_done (by kernel_rfl) ?_ _
    have hks : Keeps (fun b => b = w.heap.size) w3 ((w3.setCell ⟨w.heap.size, 3, none⟩ (.pointer u1)).setCell ⟨w.heap.size, 4, none⟩ (.pointer u2)) := fW
    have hz := HZ1.out
    have hz3 := HB3.out.size
    have hzk := hks.size
    have HKS := zz hks
    have HQ := zz (And.intro hz (And.intro hz3 hzk))
    clear hks hz hz3 hzk
    go_wp2_with fail
    go_meet
    have hks := HKS.out
    have hq := HQ.out
    exact ⟨u1, u2, SB4.out.set 4 (.pointer u2) (by simp), (RB1.out.fresh HB3.out).keeps hks (by omega), HB1.out.trans ((HB3.out.mono HB1.out.size).trans (hks.below (by omega) (fun b _ e => by have h9 : b = w.heap.size := e; omega))), by omega, bY HV1b.out hks (fun b h1 _ e => by have h9 : b = w.heap.size := e; omega) (by omega), bY HV2.out hks (fun b h1 _ e => by have h9 : b = w.heap.size := e; omega) (by omega)⟩
   ·go_simp
    refine hK.out _ _ True.intro (fun hHeld => ?_)
    clear hK K
    refine ra 2 (some 6) rfl fun K hK => ?_
    go_simp
    go_at_call 124
    refine HE1.out.mono ?_
    rintro e w2 ⟨v1, rfl, hv1, hb2⟩
    obtain ⟨u1, rfl⟩ := aL hv1
    have HB2 : Hid (Below w1.heap.size w1 w2) := zz (HBD.out.trans (hb2.mono HBD.out.size))
    have SB2 := zz (SB1.out.fresh HB2.out)
    have k4 := SB2.out.at_ 4 _ rfl
    have HV1 : Hid (ExIn w2 (fun b => w1.heap.size <= b) (.pointer u1) (aK dst)) := zz hv1
    have HE2 := zz (HX2.out F w2 _ (HV.out _ (HB1.out.trans (HB2.out.mono HB1.out.size))).2.1)
    unfold bI at HE2
    clear hv1 hb2
    refine hK.out _ _ True.intro (fun hHeld => ?_)
    clear hK K
    refine tk 6 10 (.pointer (some ⟨w.heap.size, 3, none⟩)) rfl (.inl ⟨by rfl, ?_⟩) hHeld ?_
    ·intro W9 hSW; (try dsimp only at hSW); go_simp
    try simp only [Act.put, sA, sB, sC]
    refine ra 5 (some 9) rfl fun K hK => ?_
    go_simp
    go_at_call 124
    refine HE2.out.mono ?_
    rintro e w3 ⟨v2, rfl, hv2, hb3⟩
    obtain ⟨u2, rfl⟩ := aL hv2
    have HB3 : Hid (Below w1.heap.size w1 w3) := zz (HB2.out.trans (hb3.mono HB2.out.size))
    have SB3 := zz (SB1.out.fresh HB3.out)
    have k3 := SB3.out.at_ 3 _ rfl
    have z3 := SB3.out.free 3
    have SB4 := zz (SB3.out.set 3 (.pointer u1) (by simp))
    have k4b := SB4.out.at_ 4 _ rfl
    have z4 := SB4.out.free 4
    have z4b := SB3.out.free 4
    have HV1b : Hid (ExIn w3 (fun b => w1.heap.size <= b) (.pointer u1) (aK dst)) := zz (HV1.out.grow hb3)
    have HV2 : Hid (ExIn w3 (fun b => w1.heap.size <= b) (.pointer u2) (aK val)) := zz (ExIn.mono (fun b _ e => Nat.le_trans HB2.out.size e) _ _ hv2)
    clear hv2 hb3
    refine hK.out _ _ True.intro (fun hHeld => ?_)
    clear hK K
    refine ra 7 none rfl fun K hK => ?_
    go_simp
    refine hK.out _ _ True.intro (fun hHeld => ?_)
    clear hK K
    refine tk 8 11 (.pointer (some ⟨w.heap.size, 4, none⟩)) rfl (.inl ⟨by rfl, ?_⟩) hHeld ?_
    ·intro W9 hSW; (try dsimp only at hSW); go_simp
    try simp only [Act.put, sA, sB, sC]
    refine ra 9 none rfl fun K hK => ?_
    go_simp
    refine hK.out _ _ True.intro (fun hHeld => ?_)
    clear hK K
    refine wpAnyH_done (by kernel_rfl) ?_ _
    have hks : Keeps (fun b => b = w.heap.size) w3 ((w3.setCell ⟨w.heap.size, 3, none⟩ (.pointer u1)).setCell ⟨w.heap.size, 4, none⟩ (.pointer u2)) := fW
    have hz := HZ1.out
    have hz3 := HB3.out.size
    have hzk := hks.size
    have HKS := zz hks
    have HQ := zz (And.intro hz (And.intro hz3 hzk))
    clear hks hz hz3 hzk
    go_wp2_with fail
    go_meet
    have hks := HKS.out
    have hq := HQ.out
    exact ⟨u1, u2, SB4.out.set 4 (.pointer u2) (by simp), (RB1.out.fresh HB3.out).keeps hks (by omega), HB1.out.trans ((HB3.out.mono HB1.out.size).trans (hks.below (by omega) (fun b _ e => by have h9 : b = w.heap.size := e; omega))), by omega, bY HV1b.out hks (fun b h1 _ e => by have h9 : b = w.heap.size := e; omega) (by omega), bY HV2.out hks (fun b h1 _ e => by have h9 : b = w.heap.size := e; omega) (by omega)⟩
  ·go_simp
   refine hK.out _ _ True.intro (fun hHeld => ?_)
   clear hK K
   refine ra 1 (some 5) rfl fun K hK => ?_
   go_simp
   refine hK.out _ _ True.intro (fun hHeld => ?_)
   clear hK K
   refine ra 2 (some 6) rfl fun K hK => ?_
   go_simp
   go_at_call 124
   refine HE1.out.mono ?_
   rintro e w2 ⟨v1, rfl, hv1, hb2⟩
   obtain ⟨u1, rfl⟩ := aL hv1
   have HB2 : Hid (Below w1.heap.size w1 w2) := zz (HBD.out.trans (hb2.mono HBD.out.size))
   have SB2 := zz (SB1.out.fresh HB2.out)
   have k4 := SB2.out.at_ 4 _ rfl
   have HV1 : Hid (ExIn w2 (fun b => w1.heap.size <= b) (.pointer u1) (aK dst)) := zz hv1
   have HE2 := zz (HX2.out F w2 _ (HV.out _ (HB1.out.trans (HB2.out.mono HB1.out.size))).2.1)
   unfold bI at HE2
   clear hv1 hb2
   refine hK.out _ _ True.intro (fun hHeld => ?_)
   clear hK K
   refine tk 6 10 (.pointer (some ⟨w.heap.size, 3, none⟩)) rfl (.inl ⟨by rfl, ?_⟩) hHeld ?_
   ·intro W9 hSW; (try dsimp only at hSW); go_simp
   try simp only [Act.put, sA, sB, sC]
   refine ra 5 (some 9) rfl fun K hK => ?_
   go_simp
   go_at_call 124
   refine HE2.out.mono ?_
   rintro e w3 ⟨v2, rfl, hv2, hb3⟩
   obtain ⟨u2, rfl⟩ := aL hv2
   have HB3 : Hid (Below w1.heap.size w1 w3) := zz (HB2.out.trans (hb3.mono HB2.out.size))
   have SB3 := zz (SB1.out.fresh HB3.out)
   have k3 := SB3.out.at_ 3 _ rfl
   have z3 := SB3.out.free 3
   have SB4 := zz (SB3.out.set 3 (.pointer u1) (by simp))
   have k4b := SB4.out.at_ 4 _ rfl
   have z4 := SB4.out.free 4
   have z4b := SB3.out.free 4
   have HV1b : Hid (ExIn w3 (fun b => w1.heap.size <= b) (.pointer u1) (aK dst)) := zz (HV1.out.grow hb3)
   have HV2 : Hid (ExIn w3 (fun b => w1.heap.size <= b) (.pointer u2) (aK val)) := zz (ExIn.mono (fun b _ e => Nat.le_trans HB2.out.size e) _ _ hv2)
   clear hv2 hb3
   refine hK.out _ _ True.intro (fun hHeld => ?_)
   clear hK K
   refine ra 7 none rfl fun K hK => ?_
   go_simp
   refine hK.out _ _ True.intro (fun hHeld => ?_)
   clear hK K
   refine tk 8 11 (.pointer (some ⟨w.heap.size, 4, none⟩)) rfl (.inl ⟨by rfl, ?_⟩) hHeld ?_
   ·intro W9 hSW; (try dsimp only at hSW); go_simp
   try simp only [Act.put, sA, sB, sC]
   refine ra 9 none rfl fun K hK => ?_
   go_simp
   refine hK.out _ _ True.intro (fun hHeld => ?_)
   clear hK K
   refine wpAnyH_done (by kernel_rfl) ?_ _
   have hks : Keeps (fun b => b = w.heap.size) w3 ((w3.setCell ⟨w.heap.size, 3, none⟩ (.pointer u1)).setCell ⟨w.heap.size, 4, none⟩ (.pointer u2)) := fW
   have hz := HZ1.out
   have hz3 := HB3.out.size
   have hzk := hks.size
   have HKS := zz hks
   have HQ := zz (And.intro hz (And.intro hz3 hzk))
   clear hks hz hz3 hzk
   go_wp2_with fail
   go_meet
   have hks := HKS.out
   have hq := HQ.out
   exact ⟨u1, u2, SB4.out.set 4 (.pointer u2) (by simp), (RB1.out.fresh HB3.out).keeps hks (by omega), HB1.out.trans ((HB3.out.mono HB1.out.size).trans (hks.below (by omega) (fun b _ e => by have h9 : b = w.heap.size := e; omega))), by omega, bY HV1b.out hks (fun b h1 _ e => by have h9 : b = w.heap.size := e; omega) (by omega), bY HV2.out hks (fun b h1 _ e => by have h9 : b = w.heap.size := e; omega) (by omega)⟩
 case rest =>
  obtain ⟨u1, u2, hsb, hrb, hbw, hsz, hu1, hu2⟩ := hcut
  have SBc := zz hsb
  have RBc := zz hrb
  have HBc := zz hbw
  have HZc := zz hsz
  have HU1 := zz hu1
  have HU2 := zz hu2
  have hbd : Below wc.heap.size wc wc.drew := Below.drew (Below.refl _ wc)
  have hvd := HV.out _ (hbw.trans (hbd.mono hbw.size))
  have HE3 := zz (HS1.out F wc.drew _ ⟨hvd.2.2.1, hvd.2.2.2.1⟩ (fun b hb => Nat.lt_of_lt_of_le (HF.out b hb) hbw.size))
  have HBD2 := zz hbd
  clear hsb hrb hbw hsz hu1 hu2 hbd hvd i3 i4
  go_upto_region 2 with fail
  have i5 := SBc.out.at_ 5 _ rfl
  have i6 := SBc.out.at_ 6 _ rfl
  go_cut [] (fun wx => ∃ p1 q1 p2 q2, Blk wx w.heap.size [.int .i64 (c : Nat), .int .i64 (a : Nat), .string (mkT nm), .pointer u1, .pointer u2, .slice p1 (aE thn).len q1, .slice p2 (aE els).len q2, .slice a7 cs.len k7] /\ Blk wx (w.heap.size + 1) [.int .i64 0, .int .i64 0, .string ⟨#[]⟩, .pointer none, .pointer none, .slice none 0 0, .slice none 0 0, .slice none 0 0] /\ Below w.heap.size w wx /\ w.heap.size + 2 <= wx.heap.size ∧
   ExIn wx (fun b => w.heap.size + 2 <= b) (.pointer u1) (aK dst) /\ ExIn wx (fun b => w.heap.size + 2 <= b) (.pointer u2) (aK val) /\ StsF wx (fun b => w.heap.size + 2 <= b) (aE thn) (.slice p1 (aE thn).len q1) /\ StsF wx (fun b => w.heap.size + 2 <= b) (aE els) (.slice p2 (aE els).len q2))
  case first =>
   refine wp_region_held_drew (S := (fun _ : World => True)) (by kernel_rfl) True.intro (fun hHeld => ?_)
   refine tk 0 12 (.pointer (some ⟨w.heap.size, 5, none⟩)) rfl (.inl ⟨by rfl, ?_⟩) hHeld ?_
   ·intro W9 hSW; (try dsimp only at hSW); go_simp
   try simp only [Act.put, sA, sB, sC]
   refine tk 3 15 (.pointer (some ⟨w.heap.size, 6, none⟩)) rfl (.inl ⟨by rfl, ?_⟩) hHeld ?_
   ·intro W9 hSW; (try dsimp only at hSW); go_simp
   try simp only [Act.put, sA, sB, sC]
   refine wpAnyH_ready (rs := [1, 4]) (by kernel_rfl) (by simp) ?_
   refine AllReadyH.cons (o := { dst := some 13, op := _, type := _, pos := _, after := _, guard := _ }) rfl (fun K hK => ?_) (AllReadyH.cons (o := { dst := some 16, op := _, type := _, pos := _, after := _, guard := _ }) rfl (fun K hK => ?_) AllReadyH.nil)
   ·go_simp
    refine hK.out _ _ True.intro (fun hHeld => ?_)
    clear hK K
    refine wpAnyH_ready (rs := [2, 4]) (by kernel_rfl) (by simp) ?_
    refine AllReadyH.cons (o := { dst := some 14, op := _, type := _, pos := _, after := _, guard := _ }) rfl (fun K hK => ?_) (AllReadyH.cons (o := { dst := some 16, op := _, type := _, pos := _, after := _, guard := _ }) rfl (fun K hK => ?_) AllReadyH.nil)
    ·go_simp
     go_at_call 75
     refine HE3.out.mono ?_
     rintro e w2 ⟨v1, rfl, hv1, hb2⟩
     obtain ⟨p1, q1, rfl⟩ := bT hv1.1
     have HB2 : Hid (Below wc.heap.size wc w2) := zz (HBD2.out.trans (hb2.mono HBD2.out.size))
     have SB2 := zz (SBc.out.fresh HB2.out)
     have k6b := SB2.out.at_ 6 _ rfl
     have HV1 : Hid (StsF w2 (fun b => wc.heap.size <= b) (aE thn) (.slice p1 (aE thn).len q1)) := zz hv1
     have hvd := HV.out _ (HBc.out.trans (HB2.out.mono HBc.out.size))
     have HE4 := zz (HS2.out F w2 _ ⟨hvd.2.2.2.2.1, hvd.2.2.2.2.2.1⟩ (fun b hb => Nat.lt_of_lt_of_le (HF.out b hb) (Nat.le_trans HBc.out.size HB2.out.size)))
     clear hv1 hb2 hvd
     refine hK.out _ _ True.intro (fun hHeld => ?_)
     clear hK K
     refine ra 4 (some 16) rfl fun K hK => ?_
     go_simp
     refine hK.out _ _ True.intro (fun hHeld => ?_)
     clear hK K
     refine tk 6 18 (.pointer (some ⟨w.heap.size, 5, none⟩)) rfl (.inl ⟨by rfl, ?_⟩) hHeld ?_
     ·intro W9 hSW; (try dsimp only at hSW); go_simp
     try simp only [Act.put, sA, sB, sC]
     refine ra 5 (some 17) rfl fun K hK => ?_
     go_simp
     go_at_call 75
     refine HE4.out.mono ?_
     rintro e w3 ⟨v2, rfl, hv2, hb3⟩
     obtain ⟨p2, q2, rfl⟩ := bT hv2.1
     have HB3 : Hid (Below wc.heap.size wc w3) := zz (HB2.out.trans (hb3.mono HB2.out.size))
     have SB3 := zz (SBc.out.fresh HB3.out)
     have k3 := SB3.out.at_ 5 _ rfl
     have z3 := SB3.out.free 5
     have SB4 := zz (SB3.out.set 5 (.slice p1 (aE thn).len q1) (by simp))
     have k4b := SB4.out.at_ 6 _ rfl
     have z4 := SB4.out.free 6
     have z4b := SB3.out.free 6
     have HV1b : Hid (StsF w3 (fun b => wc.heap.size <= b) (aE thn) (.slice p1 (aE thn).len q1)) := zz (dQ HV1.out (Keeps.of_below (S := fun k => w2.heap.size <= k) hb3 (fun _ _ e => e)) (fun b _ h2 e => by have h9 : w2.heap.size <= b := e; omega) (Nat.le_refl _))
     have HV2 : Hid (StsF w3 (fun b => wc.heap.size <= b) (aE els) (.slice p2 (aE els).len q2)) := zz (cJ (fun b _ e => Nat.le_trans HB2.out.size e) hv2)
     have HU1b : Hid (ExIn w3 (fun b => w.heap.size + 2 <= b) (.pointer u1) (aK dst)) := zz (HU1.out.grow HB3.out)
     have HU2b : Hid (ExIn w3 (fun b => w.heap.size + 2 <= b) (.pointer u2) (aK val)) := zz (HU2.out.grow HB3.out)
     clear hv2 hb3
     refine hK.out _ _ True.intro (fun hHeld => ?_)
     clear hK K
     refine ra 7 none rfl fun K hK => ?_
     go_simp
     refine hK.out _ _ True.intro (fun hHeld => ?_)
     clear hK K
     refine tk 8 19 (.pointer (some ⟨w.heap.size, 6, none⟩)) rfl (.inl ⟨by rfl, ?_⟩) hHeld ?_
     ·intro W9 hSW; (try dsimp only at hSW); go_simp
     try simp only [Act.put, sA, sB, sC]
     refine ra 9 none rfl fun K hK => ?_
     go_simp
     refine hK.out _ _ True.intro (fun hHeld => ?_)
     clear hK K
     refine wpAnyH_done (by kernel_rfl) ?_ _
     have hks : Keeps (fun b => b = w.heap.size) w3 ((w3.setCell ⟨w.heap.size, 5, none⟩ (.slice p1 (aE thn).len q1)).setCell ⟨w.heap.size, 6, none⟩ (.slice p2 (aE els).len q2)) := fW
     have hz := HZc.out
     have hz3 := HB3.out.size
     have hzk := hks.size
     have HKS := zz hks
     have HQ := zz (And.intro hz (And.intro hz3 hzk))
     clear hks hz hz3 hzk
     go_wp2_with fail
     go_meet
     have hks := HKS.out
     have hq := HQ.out
     exact ⟨p1, q1, p2, q2, SB4.out.set 6 (.slice p2 (aE els).len q2) (by simp), (RBc.out.fresh HB3.out).keeps hks (by omega), HBc.out.trans ((HB3.out.mono HBc.out.size).trans (hks.below (by omega) (fun b _ e => by have h9 : b = w.heap.size := e; omega))), by omega, bY HU1b.out hks (fun b h1 _ e => by have h9 : b = w.heap.size := e; omega) (by omega), bY HU2b.out hks (fun b h1 _ e => by have h9 : b = w.heap.size := e; omega) (by omega), dQ HV1b.out hks (fun b h1 _ e => by have h9 : b = w.heap.size := e; omega) (by omega), dQ HV2.out hks (fun b h1 _ e => by have h9 : b = w.heap.size := e; omega) (by omega)⟩
    ·go_simp
     refine hK.out _ _ True.intro (fun hHeld => ?_)
     clear hK K
     refine ra 2 (some 14) rfl fun K hK => ?_
     go_simp
     go_at_call 75
     refine HE3.out.mono ?_
     rintro e w2 ⟨v1, rfl, hv1, hb2⟩
     obtain ⟨p1, q1, rfl⟩ := bT hv1.1
     have HB2 : Hid (Below wc.heap.size wc w2) := zz (HBD2.out.trans (hb2.mono HBD2.out.size))
     have SB2 := zz (SBc.out.fresh HB2.out)
     have k6b := SB2.out.at_ 6 _ rfl
     have HV1 : Hid (StsF w2 (fun b => wc.heap.size <= b) (aE thn) (.slice p1 (aE thn).len q1)) := zz hv1
     have hvd := HV.out _ (HBc.out.trans (HB2.out.mono HBc.out.size))
     have HE4 := zz (HS2.out F w2 _ ⟨hvd.2.2.2.2.1, hvd.2.2.2.2.2.1⟩ (fun b hb => Nat.lt_of_lt_of_le (HF.out b hb) (Nat.le_trans HBc.out.size HB2.out.size)))
     clear hv1 hb2 hvd
     refine hK.out _ _ True.intro (fun hHeld => ?_)
     clear hK K
     refine tk 6 18 (.pointer (some ⟨w.heap.size, 5, none⟩)) rfl (.inl ⟨by rfl, ?_⟩) hHeld ?_
     ·intro W9 hSW; (try dsimp only at hSW); go_simp
     try simp only [Act.put, sA, sB, sC]
     refine ra 5 (some 17) rfl fun K hK => ?_
     go_simp
     go_at_call 75
     refine HE4.out.mono ?_
     rintro e w3 ⟨v2, rfl, hv2, hb3⟩
     obtain ⟨p2, q2, rfl⟩ := bT hv2.1
     have HB3 : Hid (Below wc.heap.size wc w3) := zz (HB2.out.trans (hb3.mono HB2.out.size))
     have SB3 := zz (SBc.out.fresh HB3.out)
     have k3 := SB3.out.at_ 5 _ rfl
     have z3 := SB3.out.free 5
     have SB4 := zz (SB3.out.set 5 (.slice p1 (aE thn).len q1) (by simp))
     have k4b := SB4.out.at_ 6 _ rfl
     have z4 := SB4.out.free 6
     have z4b := SB3.out.free 6
     have HV1b : Hid (StsF w3 (fun b => wc.heap.size <= b) (aE thn) (.slice p1 (aE thn).len q1)) := zz (dQ HV1.out (Keeps.of_below (S := fun k => w2.heap.size <= k) hb3 (fun _ _ e => e)) (fun b _ h2 e => by have h9 : w2.heap.size <= b := e; omega) (Nat.le_refl _))
     have HV2 : Hid (StsF w3 (fun b => wc.heap.size <= b) (aE els) (.slice p2 (aE els).len q2)) := zz (cJ (fun b _ e => Nat.le_trans HB2.out.size e) hv2)
     have HU1b : Hid (ExIn w3 (fun b => w.heap.size + 2 <= b) (.pointer u1) (aK dst)) := zz (HU1.out.grow HB3.out)
     have HU2b : Hid (ExIn w3 (fun b => w.heap.size + 2 <= b) (.pointer u2) (aK val)) := zz (HU2.out.grow HB3.out)
     clear hv2 hb3
     refine hK.out _ _ True.intro (fun hHeld => ?_)
     clear hK K
     refine ra 7 none rfl fun K hK => ?_
     go_simp
     refine hK.out _ _ True.intro (fun hHeld => ?_)
     clear hK K
     refine tk 8 19 (.pointer (some ⟨w.heap.size, 6, none⟩)) rfl (.inl ⟨by rfl, ?_⟩) hHeld ?_
     ·intro W9 hSW; (try dsimp only at hSW); go_simp
     try simp only [Act.put, sA, sB, sC]
     refine ra 9 none rfl fun K hK => ?_
     go_simp
     refine hK.out _ _ True.intro (fun hHeld => ?_)
     clear hK K
     refine wpAnyH_done (by kernel_rfl) ?_ _
     have hks : Keeps (fun b => b = w.heap.size) w3 ((w3.setCell ⟨w.heap.size, 5, none⟩ (.slice p1 (aE thn).len q1)).setCell ⟨w.heap.size, 6, none⟩ (.slice p2 (aE els).len q2)) := fW
     have hz := HZc.out
     have hz3 := HB3.out.size
     have hzk := hks.size
     have HKS := zz hks
     have HQ := zz (And.intro hz (And.intro hz3 hzk))
     clear hks hz hz3 hzk
     go_wp2_with fail
     go_meet
     have hks := HKS.out
     have hq := HQ.out
     exact ⟨p1, q1, p2, q2, SB4.out.set 6 (.slice p2 (aE els).len q2) (by simp), (RBc.out.fresh HB3.out).keeps hks (by omega), HBc.out.trans ((HB3.out.mono HBc.out.size).trans (hks.below (by omega) (fun b _ e => by have h9 : b = w.heap.size := e; omega))), by omega, bY HU1b.out hks (fun b h1 _ e => by have h9 : b = w.heap.size := e; omega) (by omega), bY HU2b.out hks (fun b h1 _ e => by have h9 : b = w.heap.size := e; omega) (by omega), dQ HV1b.out hks (fun b h1 _ e => by have h9 : b = w.heap.size := e; omega) (by omega), dQ HV2.out hks (fun b h1 _ e => by have h9 : b = w.heap.size := e; omega) (by omega)⟩
   ·go_simp
    refine hK.out _ _ True.intro (fun hHeld => ?_)
    clear hK K
    refine ra 1 (some 13) rfl fun K hK => ?_
    go_simp
    refine hK.out _ _ True.intro (fun hHeld => ?_)
    clear hK K
    refine ra 2 (some 14) rfl fun K hK => ?_
    go_simp
    go_at_call 75
    refine HE3.out.mono ?_
    rintro e w2 ⟨v1, rfl, hv1, hb2⟩
    obtain ⟨p1, q1, rfl⟩ := bT hv1.1
    have HB2 : Hid (Below wc.heap.size wc w2) := zz (HBD2.out.trans (hb2.mono HBD2.out.size))
    have SB2 := zz (SBc.out.fresh HB2.out)
    have k6b := SB2.out.at_ 6 _ rfl
    have HV1 : Hid (StsF w2 (fun b => wc.heap.size <= b) (aE thn) (.slice p1 (aE thn).len q1)) := zz hv1
    have hvd := HV.out _ (HBc.out.trans (HB2.out.mono HBc.out.size))
    have HE4 := zz (HS2.out F w2 _ ⟨hvd.2.2.2.2.1, hvd.2.2.2.2.2.1⟩ (fun b hb => Nat.lt_of_lt_of_le (HF.out b hb) (Nat.le_trans HBc.out.size HB2.out.size)))
    clear hv1 hb2 hvd
    refine hK.out _ _ True.intro (fun hHeld => ?_)
    clear hK K
    refine tk 6 18 (.pointer (some ⟨w.heap.size, 5, none⟩)) rfl (.inl ⟨by rfl, ?_⟩) hHeld ?_
    ·intro W9 hSW; (try dsimp only at hSW); go_simp
    try simp only [Act.put, sA, sB, sC]
    refine ra 5 (some 17) rfl fun K hK => ?_
    go_simp
    go_at_call 75
    refine HE4.out.mono ?_
    rintro e w3 ⟨v2, rfl, hv2, hb3⟩
    obtain ⟨p2, q2, rfl⟩ := bT hv2.1
    have HB3 : Hid (Below wc.heap.size wc w3) := zz (HB2.out.trans (hb3.mono HB2.out.size))
    have SB3 := zz (SBc.out.fresh HB3.out)
    have k3 := SB3.out.at_ 5 _ rfl
    have z3 := SB3.out.free 5
    have SB4 := zz (SB3.out.set 5 (.slice p1 (aE thn).len q1) (by simp))
    have k4b := SB4.out.at_ 6 _ rfl
    have z4 := SB4.out.free 6
    have z4b := SB3.out.free 6
    have HV1b : Hid (StsF w3 (fun b => wc.heap.size <= b) (aE thn) (.slice p1 (aE thn).len q1)) := zz (dQ HV1.out (Keeps.of_below (S := fun k => w2.heap.size <= k) hb3 (fun _ _ e => e)) (fun b _ h2 e => by have h9 : w2.heap.size <= b := e; omega) (Nat.le_refl _))
    have HV2 : Hid (StsF w3 (fun b => wc.heap.size <= b) (aE els) (.slice p2 (aE els).len q2)) := zz (cJ (fun b _ e => Nat.le_trans HB2.out.size e) hv2)
    have HU1b : Hid (ExIn w3 (fun b => w.heap.size + 2 <= b) (.pointer u1) (aK dst)) := zz (HU1.out.grow HB3.out)
    have HU2b : Hid (ExIn w3 (fun b => w.heap.size + 2 <= b) (.pointer u2) (aK val)) := zz (HU2.out.grow HB3.out)
    clear hv2 hb3
    refine hK.out _ _ True.intro (fun hHeld => ?_)
    clear hK K
    refine ra 7 none rfl fun K hK => ?_
    go_simp
    refine hK.out _ _ True.intro (fun hHeld => ?_)
    clear hK K
    refine tk 8 19 (.pointer (some ⟨w.heap.size, 6, none⟩)) rfl (.inl ⟨by rfl, ?_⟩) hHeld ?_
    ·intro W9 hSW; (try dsimp only at hSW); go_simp
    try simp only [Act.put, sA, sB, sC]
    refine ra 9 none rfl fun K hK => ?_
    go_simp
    refine hK.out _ _ True.intro (fun hHeld => ?_)
    clear hK K
    refine wpAnyH_done (by kernel_rfl) ?_ _
    have hks : Keeps (fun b => b = w.heap.size) w3 ((w3.setCell ⟨w.heap.size, 5, none⟩ (.slice p1 (aE thn).len q1)).setCell ⟨w.heap.size, 6, none⟩ (.slice p2 (aE els).len q2)) := fW
    have hz := HZc.out
    have hz3 := HB3.out.size
    have hzk := hks.size
    have HKS := zz hks
    have HQ := zz (And.intro hz (And.intro hz3 hzk))
    clear hks hz hz3 hzk
    go_wp2_with fail
    go_meet
    have hks := HKS.out
    have hq := HQ.out
    exact ⟨p1, q1, p2, q2, SB4.out.set 6 (.slice p2 (aE els).len q2) (by simp), (RBc.out.fresh HB3.out).keeps hks (by omega), HBc.out.trans ((HB3.out.mono HBc.out.size).trans (hks.below (by omega) (fun b _ e => by have h9 : b = w.heap.size := e; omega))), by omega, bY HU1b.out hks (fun b h1 _ e => by have h9 : b = w.heap.size := e; omega) (by omega), bY HU2b.out hks (fun b h1 _ e => by have h9 : b = w.heap.size := e; omega) (by omega), dQ HV1b.out hks (fun b h1 _ e => by have h9 : b = w.heap.size := e; omega) (by omega), dQ HV2.out hks (fun b h1 _ e => by have h9 : b = w.heap.size := e; omega) (by omega)⟩
  case rest =>
   obtain ⟨p1, q1, p2, q2, hsb, hrb, hbw, hsz, hu1, hu2, ht1, ht2⟩ := hcut
   have i7 := hsb.at_ 7 _ rfl
   have hvd := HV.out _ hbw
   have HEC := zz (HC.out F wc _ ⟨hvd.2.2.2.2.2.2.1, hvd.2.2.2.2.2.2.2⟩ (fun b hb => Nat.lt_of_lt_of_le (HF.out b hb) hbw.size))
   have SBd := zz hsb
   have RBd := zz hrb
   have HBd := zz hbw
   have HZd := zz hsz
   have HX := zz (And.intro hu1 (And.intro hu2 (And.intro ht1 ht2)))
   clear hsb hrb hbw hsz hu1 hu2 ht1 ht2 hvd i5 i6
   go_wp2_with fail
   refine HEC.out.mono ?_
   rintro e w5 ⟨v5, rfl, hv5, hb5⟩
   obtain ⟨p3, q3, rfl⟩ := bT hv5.1
   have SB5 := zz (SBd.out.fresh hb5)
   have RB5 := zz (RBd.out.fresh hb5)
   have HB5 := zz hb5
   have HV5 := zz hv5
   have hks : Keeps (fun b => b = w.heap.size) w5 (w5.setCell ⟨w.heap.size, 7, none⟩ (.slice p3 (aT cs).len q3)) := mF
   have SB6 : Hid (Blk (w5.setCell ⟨w.heap.size, 7, none⟩ (.slice p3 (aT cs).len q3)) w.heap.size [.int .i64 (c : Nat), .int .i64 (a : Nat), .string (mkT nm), .pointer u1, .pointer u2, .slice p1 (aE thn).len q1, .slice p2 (aE els).len q2, .slice p3 (aT cs).len q3]) := zz (SB5.out.set 7 _ (by simp))
   have RB6 := zz (RB5.out.keeps hks (by omega))
   have j7 := SB5.out.at_ 7 _ rfl
   have y7 := SB5.out.free 7
   have l0 := SB6.out.at_ 0 _ rfl
   have l1 := SB6.out.at_ 1 _ rfl
   have l2 := SB6.out.at_ 2 _ rfl
   have l3 := SB6.out.at_ 3 _ rfl
   have l4 := SB6.out.at_ 4 _ rfl
   have l5 := SB6.out.at_ 5 _ rfl
   have l6 := SB6.out.at_ 6 _ rfl
   have l7 := SB6.out.at_ 7 _ rfl
   have hz5 := hb5.size
   have hz0 := HZd.out
   have hno : ∀ b, w.heap.size + 2 <= b -> ¬ b = w.heap.size := fun b h e => by omega
   have hup : ∀ (v : Value) (x : Ex), ExIn wc (fun b => w.heap.size + 2 <= b) v x -> ExIn (w5.setCell ⟨w.heap.size, 7, none⟩ (.slice p3 (aT cs).len q3)) (fun b => w.heap.size + 2 <= b) v x := fun v x h => bY (h.grow hb5) hks (fun b h1 _ e => hno b h1 e) (by omega)
   have hups : ∀ (v : Value) (x : Sts), StsF wc (fun b => w.heap.size + 2 <= b) x v -> StsF (w5.setCell ⟨w.heap.size, 7, none⟩ (.slice p3 (aT cs).len q3)) (fun b => w.heap.size + 2 <= b) x v := fun v x h => dQ (dQ h (Keeps.of_below (S := fun k => wc.heap.size <= k) hb5 (fun _ _ e => e)) (fun b _ h2 e => by have h9 : wc.heap.size <= b := e; omega) (Nat.le_refl _)) hks (fun b h1 _ e => hno b h1 e) (by omega)
   have hcs := I7 (k := w.heap.size + 2) hv5 hks (fun b h1 _ e => by have h9 : b = w.heap.size := e; omega) (by omega)
   have hst : StA (w5.setCell ⟨w.heap.size, 7, none⟩ (.slice p3 (aT cs).len q3)) (fun b => w.heap.size + 2 <= b) (iW c a nm u1 u2 p1 (aE thn).len q1 p2 (aE els).len q2 p3 (aT cs).len q3) (zA (.mk c a nm dst val thn els cs)) := by
    have g3 := hups _ _ HX.out.2.2.1
    have g4 := hups _ _ HX.out.2.2.2
    exact ⟨c, a, nm, aK dst, aK val, aE thn, aE els, aT cs, u1, u2, p1, q1, p2, q2, p3, q3, rfl, rfl, hup _ _ HX.out.1, hup _ _ HX.out.2.1, g3.1, g3.2, g4.1, g4.2, hcs.1, hcs.2⟩
   have hB6 : Below w.heap.size w (w5.setCell ⟨w.heap.size, 7, none⟩ (.slice p3 (aT cs).len q3)) := HBd.out.trans ((hb5.mono HBd.out.size).trans (hks.below (by omega) (fun b _ e => by have h9 : b = w.heap.size := e; omega)))
   have HED := zz (wO _ hst)
   unfold iW at HED
   have HB6 := zz hB6
   clear hb5 hv5 hks hz5 hz0 hno hup hups hcs hst hB6
   go_wp2_with fail
   refine HED.out.mono ?_
   rintro e w7 ⟨u, b, y, rfl, hst, hdec, hb7⟩
   obtain ⟨c', a', nm', dst', val', thn', els', cs', o1', o2', a5', k5', a6', k6', a7', k7', rfl, rfl, hv'⟩ := hst
   have RB7 := zz (RB6.out.fresh hb7)
   have r0 := RB7.out.at_ 0 _ rfl
   have r1 := RB7.out.at_ 1 _ rfl
   have r2 := RB7.out.at_ 2 _ rfl
   have r3 := RB7.out.at_ 3 _ rfl
   have r4 := RB7.out.at_ 4 _ rfl
   have r5 := RB7.out.at_ 5 _ rfl
   have r6 := RB7.out.at_ 6 _ rfl
   have r7 := RB7.out.at_ 7 _ rfl
   have y0 := RB7.out.free 0
   have y1 := RB7.out.free 1
   have y2 := RB7.out.free 2
   have y3 := RB7.out.free 3
   have y4 := RB7.out.free 4
   have y5 := RB7.out.free 5
   have y6 := RB7.out.free 6
   have y7 := RB7.out.free 7
   have HV7 := zz hv'
   have HD7 := zz hdec
   have HB7 := zz hb7
   unfold iW
   clear hv' hdec hb7 l0 l1 l2 l3 l4 l5 l6 l7 j7 i7
   go_wp2_with fail
   refine bodyPost_ret (v := .tuple #[.agg #[.int .i64 (c' : Nat), .int .i64 (a' : Nat), .string (mkT nm'), .pointer o1', .pointer o2', .slice a5' thn'.len k5', .slice a6' els'.len k6', .slice a7' cs'.len k7'], .bool b]) (by simp [results, Tryz.results123, go_sem, r0, r1, r2, r3, r4, r5, r6, r7]) rfl ?_
   have hk8 := LG (w := w7) (k := w.heap.size + 1) (v0 := .int .i64 (c' : Nat)) (v1 := .int .i64 (a' : Nat)) (v2 := .string (mkT nm')) (v3 := .pointer o1') (v4 := .pointer o2') (v5 := .slice a5' thn'.len k5') (v6 := .slice a6' els'.len k6') (v7 := .slice a7' cs'.len k7')
   have hz6 := HB6.out.size
   have hz7 := HB7.out.size
   refine ⟨_, b, _, rfl, ⟨c', a', nm', dst', val', thn', els', cs', o1', o2', a5', k5', a6', k6', a7', k7', rfl, rfl, StV.mono (fun b _ e => by have h8 : w.heap.size + 2 <= b := e; omega) (HV7.out.keeps hk8 (fun b hb e => by have h9 : b = w.heap.size + 1 := e; have h8 : w.heap.size + 2 <= b := hb; omega))⟩, HD7.out, HB6.out.trans ((HB7.out.mono HB6.out.size).trans (hk8.below (by omega) (fun b _ e => by have h9 : b = w.heap.size + 1 := e; omega)))⟩
def nP (c a : Nat) (nm : Lx.B) (o1 o2 a5 : Option Addr) (l5 k5 : Nat) : Value := .agg #[.int .i64 (c : Nat), .int .i64 (a : Nat), .string (mkT nm), .pointer o1, .pointer o2, .slice a5 l5 k5]
def CaA (w : World) (F : Nat -> Prop) (v : Value) (s : Ca) : Prop := ∃ c a nm dst val body o1 o2 a5 k5, s = .mk c a nm dst val body /\ v = nP c a nm o1 o2 a5 body.len k5 /\ ExIn w F (.pointer o1) dst /\ ExIn w F (.pointer o2) val /\ StsF w F body (.slice a5 body.len k5)
theorem LH {k : Nat} {v0 v1 v2 v3 v4 v5 : Value} : Keeps (fun b => b = k) w ((((((w.setCell ⟨k, 0, none⟩ v0).setCell ⟨k, 1, none⟩ v1).setCell ⟨k, 2, none⟩ v2).setCell ⟨k, 3, none⟩ v3).setCell ⟨k, 4, none⟩ v4).setCell ⟨k, 5, none⟩ v5) :=
 (fW.trans fW).trans fW
theorem zC {F : Nat -> Prop} {c a : Nat} {nm : Lx.B} {dst val : Ex} {body : Sts} {o1 o2 a5 : Option Addr} {k5 : Nat} (hX1 : eJ dst) (hX2 : eJ val) (hS1 : kK body) (w : World) (hF : ∀ b, F b -> b < w.heap.size)
  (hv1 : ExIn w F (.pointer o1) dst) (hv2 : ExIn w F (.pointer o2) val) (hv3 : StsF w F body (.slice a5 body.len k5)) :
  Calls Tryz.prog 175 #[nP c a nm o1 o2 a5 body.len k5] w fun e w' => ∃ u, e = .returned (.tuple #[u, .bool true]) /\ CaA w' (fun b => w.heap.size <= b) u (eU (.mk c a nm dst val body)) /\ Below w.heap.size w w' := by
 obtain ⟨w1, hw1⟩ : ∃ W, W = (w.alloc (.cells #[.int .i64 (c : Nat), .int .i64 (a : Nat), .string (mkT nm), .pointer o1, .pointer o2, .slice a5 body.len k5] 134)).alloc (.cells #[.int .i64 0, .int .i64 0, .string ⟨#[]⟩, .pointer none, .pointer none, .slice none 0 0] 134) := ⟨_, rfl⟩
 have HW1 := zz hw1
 have hB1 : Below w.heap.size w w1 := by rw [hw1]; exact fM w _ _ _ _
 have hz1 : w1.heap.size = w.heap.size + 2 := by rw [hw1]; simp
 have hs1 : Blk w1 w.heap.size [.int .i64 (c : Nat), .int .i64 (a : Nat), .string (mkT nm), .pointer o1, .pointer o2, .slice a5 body.len k5] := by
  rw [hw1]; exact (Blk.new w _ _).fresh (cU _ _ _)
 have hr1 : Blk w1 (w.heap.size + 1) [.int .i64 0, .int .i64 0, .string ⟨#[]⟩, .pointer none, .pointer none, .slice none 0 0] := by
  rw [hw1]; exact Blk.new' _ _ _ (by simp)
 have HV : Hid (∀ W, Below w.heap.size w W -> ExIn W F (.pointer o1) dst /\ ExIn W F (.pointer o2) val /\ StsF W F body (.slice a5 body.len k5)) := zz fun W hb => by
  have hk : Keeps (fun k => w.heap.size <= k) w W := Keeps.of_below (S := fun k => w.heap.size <= k) hb (fun _ _ e => e)
  have hn : ∀ b, F b -> ¬ w.heap.size <= b := fun b e e2 => by have := hF b e; omega
  exact ⟨hv1.keeps hk hn, hv2.keeps hk hn, dP hv3 hk hn⟩
 have HF := zz hF
 have HX1 := zz hX1
 have HX2 := zz hX2
 have HS1 := zz hS1
 have HB1 := zz hB1
 have HZ1 := zz hz1
 have SB1 := zz hs1
 have RB1 := zz hr1
 have hbd : Below w1.heap.size w1 w1.drew := Below.drew (Below.refl _ w1)
 have HE1 := zz (hX1 F w1.drew _ (HV.out _ (hB1.trans (hbd.mono hB1.size))).1)
 unfold bI at HE1
 have HBD := zz hbd
 clear hX1 hX2 hS1 hv1 hv2 hv3 hw1 hB1 hz1 hs1 hr1 hbd hF
 unfold nP
 go_enter Tryz.func175, Tryz.ntmps175
 go_upto_region 1 with fail
 rw [<- HW1.out]
 have i3 := SB1.out.at_ 3 _ rfl
 have i4 := SB1.out.at_ 4 _ rfl
 go_cut [] (fun wx => ∃ u1 u2, Blk wx w.heap.size [.int .i64 (c : Nat), .int .i64 (a : Nat), .string (mkT nm), .pointer u1, .pointer u2, .slice a5 body.len k5] /\ Blk wx (w.heap.size + 1) [.int .i64 0, .int .i64 0, .string ⟨#[]⟩, .pointer none, .pointer none, .slice none 0 0] /\ Below w.heap.size w wx /\ w.heap.size + 2 <= wx.heap.size ∧
  ExIn wx (fun b => w.heap.size + 2 <= b) (.pointer u1) (aK dst) /\ ExIn wx (fun b => w.heap.size + 2 <= b) (.pointer u2) (aK val))
 case first =>
  refine wp_region_held_drew (S := (fun _ : World => True)) (by kernel_rfl) True.intro (fun hHeld => ?_)
  refine tk 0 4 (.pointer (some ⟨w.heap.size, 3, none⟩)) rfl (.inl ⟨by rfl, ?_⟩) hHeld ?_
  ·intro W9 hSW; (try dsimp only at hSW); go_simp
  try simp only [Act.put, sA, sB, sC]
  refine tk 3 7 (.pointer (some ⟨w.heap.size, 4, none⟩)) rfl (.inl ⟨by rfl, ?_⟩) hHeld ?_
  ·intro W9 hSW; (try dsimp only at hSW); go_simp
  try simp only [Act.put, sA, sB, sC]
  refine wpAnyH_ready (rs := [1, 4]) (by kernel_rfl) (by simp) ?_
  refine AllReadyH.cons (o := { dst := some 5, op := _, type := _, pos := _, after := _, guard := _ }) rfl (fun K hK => ?_) (AllReadyH.cons (o := { dst := some 8, op := _, type := _, pos := _, after := _, guard := _ }) rfl (fun K hK => ?_) AllReadyH.nil)
  ·go_simp
   refine hK.out _ _ True.intro (fun hHeld => ?_)
   clear hK K
   refine wpAnyH_ready (rs := [2, 4]) (by kernel_rfl) (by simp) ?_
   refine AllReadyH.cons (o := { dst := some 6, op := _, type := _, pos := _, after := _, guard := _ }) rfl (fun K hK => ?_) (AllReadyH.cons (o := { dst := some 8, op := _, type := _, pos := _, after := _, guard := _ }) rfl (fun K hK => ?_) AllReadyH.nil)
   ·go_simp
    go_at_call 124
    refine HE1.out.mono ?_
    rintro e w2 ⟨v1, rfl, hv1, hb2⟩
    obtain ⟨u1, rfl⟩ := aL hv1
    have HB2 : Hid (Below w1.heap.size w1 w2) := zz (HBD.out.trans (hb2.mono HBD.out.size))
    have SB2 := zz (SB1.out.fresh HB2.out)
    have k4 := SB2.out.at_ 4 _ rfl
    have HV1 : Hid (ExIn w2 (fun b => w1.heap.size <= b) (.pointer u1) (aK dst)) := zz hv1
    have HE2 := zz (HX2.out F w2 _ (HV.out _ (HB1.out.trans (HB2.out.mono HB1.out.size))).2.1)
    unfold bI at HE2
    clear hv1 hb2
    refine hK.out _ _ True.intro (fun hHeld => ?_)
    clear hK K
    refine ra 4 (some 8) rfl fun K hK => ?_
    go_simp
    refine hK.out _ _ True.intro (fun hHeld => ?_)
    clear hK K
    refine tk 6 10 (.pointer (some ⟨w.heap.size, 3, none⟩)) rfl (.inl ⟨by rfl, ?_⟩) hHeld ?_
    ·intro W9 hSW; (try dsimp only at hSW); go_simp
    try simp only [Act.put, sA, sB, sC]
    refine ra 5 (some 9) rfl fun K hK => ?_
    go_simp
    go_at_call 124
    refine HE2.out.mono ?_
    rintro e w3 ⟨v2, rfl, hv2, hb3⟩
    obtain ⟨u2, rfl⟩ := aL hv2
    have HB3 : Hid (Below w1.heap.size w1 w3) := zz (HB2.out.trans (hb3.mono HB2.out.size))
    have SB3 := zz (SB1.out.fresh HB3.out)
    have k3 := SB3.out.at_ 3 _ rfl
    have z3 := SB3.out.free 3
    have SB4 := zz (SB3.out.set 3 (.pointer u1) (by simp))
    have k4b := SB4.out.at_ 4 _ rfl
    have z4 := SB4.out.free 4
    have z4b := SB3.out.free 4
    have HV1b : Hid (ExIn w3 (fun b => w1.heap.size <= b) (.pointer u1) (aK dst)) := zz (HV1.out.grow hb3)
    have HV2 : Hid (ExIn w3 (fun b => w1.heap.size <= b) (.pointer u2) (aK val)) := zz (ExIn.mono (fun b _ e => Nat.le_trans HB2.out.size e) _ _ hv2)
    clear hv2 hb3
    refine hK.out _ _ True.intro (fun hHeld => ?_)
    clear hK K
    refine ra 7 none rfl fun K hK => ?_
    go_simp
    refine hK.out _ _ True.intro (fun hHeld => ?_)
    clear hK K
    refine tk 8 11 (.pointer (some ⟨w.heap.size, 4, none⟩)) rfl (.inl ⟨by rfl, ?_⟩) hHeld ?_
    ·intro W9 hSW; (try dsimp only at hSW); go_simp
    try simp only [Act.put, sA, sB, sC]
    refine ra 9 none rfl fun K hK => ?_
    go_simp
    refine hK.out _ _ True.intro (fun hHeld => ?_)
    clear hK K
    refine wpAnyH_done (by kernel_rfl) ?_ _
    have hks : Keeps (fun b => b = w.heap.size) w3 ((w3.setCell ⟨w.heap.size, 3, none⟩ (.pointer u1)).setCell ⟨w.heap.size, 4, none⟩ (.pointer u2)) := fW
    have hz := HZ1.out
    have hz3 := HB3.out.size
    have hzk := hks.size
    have HKS := zz hks
    have HQ := zz (And.intro hz (And.intro hz3 hzk))
    clear hks hz hz3 hzk
    go_wp2_with fail
    go_meet
    have hks := HKS.out
    have hq := HQ.out
    exact ⟨u1, u2, SB4.out.set 4 (.pointer u2) (by simp), (RB1.out.fresh HB3.out).keeps hks (by omega), HB1.out.trans ((HB3.out.mono HB1.out.size).trans (hks.below (by omega) (fun b _ e => by have h9 : b = w.heap.size := e; omega))), by omega, bY HV1b.out hks (fun b h1 _ e => by have h9 : b = w.heap.size := e; omega) (by omega), bY HV2.out hks (fun b h1 _ e => by have h9 : b = w.heap.size := e; omega) (by omega)⟩
   ·go_simp
    refine hK.out _ _ True.intro (fun hHeld => ?_)
    clear hK K
    refine ra 2 (some 6) rfl fun K hK => ?_
    go_simp
    go_at_call 124
    refine HE1.out.mono ?_
    rintro e w2 ⟨v1, rfl, hv1, hb2⟩
    obtain ⟨u1, rfl⟩ := aL hv1
    have HB2 : Hid (Below w1.heap.size w1 w2) := zz (HBD.out.trans (hb2.mono HBD.out.size))
    have SB2 := zz (SB1.out.fresh HB2.out)
    have k4 := SB2.out.at_ 4 _ rfl
    have HV1 : Hid (ExIn w2 (fun b => w1.heap.size <= b) (.pointer u1) (aK dst)) := zz hv1
    have HE2 := zz (HX2.out F w2 _ (HV.out _ (HB1.out.trans (HB2.out.mono HB1.out.size))).2.1)
    unfold bI at HE2
    clear hv1 hb2
    refine hK.out _ _ True.intro (fun hHeld => ?_)
    clear hK K
    refine tk 6 10 (.pointer (some ⟨w.heap.size, 3, none⟩)) rfl (.inl ⟨by rfl, ?_⟩) hHeld ?_
    ·intro W9 hSW; (try dsimp only at hSW); go_simp
    try simp only [Act.put, sA, sB, sC]
    refine ra 5 (some 9) rfl fun K hK => ?_
    go_simp
    go_at_call 124
    refine HE2.out.mono ?_
    rintro e w3 ⟨v2, rfl, hv2, hb3⟩
    obtain ⟨u2, rfl⟩ := aL hv2
    have HB3 : Hid (Below w1.heap.size w1 w3) := zz (HB2.out.trans (hb3.mono HB2.out.size))
    have SB3 := zz (SB1.out.fresh HB3.out)
    have k3 := SB3.out.at_ 3 _ rfl
    have z3 := SB3.out.free 3
    have SB4 := zz (SB3.out.set 3 (.pointer u1) (by simp))
    have k4b := SB4.out.at_ 4 _ rfl
    have z4 := SB4.out.free 4
    have z4b := SB3.out.free 4
    have HV1b : Hid (ExIn w3 (fun b => w1.heap.size <= b) (.pointer u1) (aK dst)) := zz (HV1.out.grow hb3)
    have HV2 : Hid (ExIn w3 (fun b => w1.heap.size <= b) (.pointer u2) (aK val)) := zz (ExIn.mono (fun b _ e => Nat.le_trans HB2.out.size e) _ _ hv2)
    clear hv2 hb3
    refine hK.out _ _ True.intro (fun hHeld => ?_)
    clear hK K
    refine ra 7 none rfl fun K hK => ?_
    go_simp
    refine hK.out _ _ True.intro (fun hHeld => ?_)
    clear hK K
    refine tk 8 11 (.pointer (some ⟨w.heap.size, 4, none⟩)) rfl (.inl ⟨by rfl, ?_⟩) hHeld ?_
    ·intro W9 hSW; (try dsimp only at hSW); go_simp
    try simp only [Act.put, sA, sB, sC]
    refine ra 9 none rfl fun K hK => ?_
    go_simp
    refine hK.out _ _ True.intro (fun hHeld => ?_)
    clear hK K
    refine wpAnyH_done (by kernel_rfl) ?_ _
    have hks : Keeps (fun b => b = w.heap.size) w3 ((w3.setCell ⟨w.heap.size, 3, none⟩ (.pointer u1)).setCell ⟨w.heap.size, 4, none⟩ (.pointer u2)) := fW
    have hz := HZ1.out
    have hz3 := HB3.out.size
    have hzk := hks.size
    have HKS := zz hks
    have HQ := zz (And.intro hz (And.intro hz3 hzk))
    clear hks hz hz3 hzk
    go_wp2_with fail
    go_meet
    have hks := HKS.out
    have hq := HQ.out
    exact ⟨u1, u2, SB4.out.set 4 (.pointer u2) (by simp), (RB1.out.fresh HB3.out).keeps hks (by omega), HB1.out.trans ((HB3.out.mono HB1.out.size).trans (hks.below (by omega) (fun b _ e => by have h9 : b = w.heap.size := e; omega))), by omega, bY HV1b.out hks (fun b h1 _ e => by have h9 : b = w.heap.size := e; omega) (by omega), bY HV2.out hks (fun b h1 _ e => by have h9 : b = w.heap.size := e; omega) (by omega)⟩
  ·go_simp
   refine hK.out _ _ True.intro (fun hHeld => ?_)
   clear hK K
   refine ra 1 (some 5) rfl fun K hK => ?_
   go_simp
   refine hK.out _ _ True.intro (fun hHeld => ?_)
   clear hK K
   refine ra 2 (some 6) rfl fun K hK => ?_
   go_simp
   go_at_call 124
   refine HE1.out.mono ?_
   rintro e w2 ⟨v1, rfl, hv1, hb2⟩
   obtain ⟨u1, rfl⟩ := aL hv1
   have HB2 : Hid (Below w1.heap.size w1 w2) := zz (HBD.out.trans (hb2.mono HBD.out.size))
   have SB2 := zz (SB1.out.fresh HB2.out)
   have k4 := SB2.out.at_ 4 _ rfl
   have HV1 : Hid (ExIn w2 (fun b => w1.heap.size <= b) (.pointer u1) (aK dst)) := zz hv1
   have HE2 := zz (HX2.out F w2 _ (HV.out _ (HB1.out.trans (HB2.out.mono HB1.out.size))).2.1)
   unfold bI at HE2
   clear hv1 hb2
   refine hK.out _ _ True.intro (fun hHeld => ?_)
   clear hK K
   refine tk 6 10 (.pointer (some ⟨w.heap.size, 3, none⟩)) rfl (.inl ⟨by rfl, ?_⟩) hHeld ?_
   ·intro W9 hSW; (try dsimp only at hSW); go_simp
   try simp only [Act.put, sA, sB, sC]
   refine ra 5 (some 9) rfl fun K hK => ?_
   go_simp
   go_at_call 124
   refine HE2.out.mono ?_
   rintro e w3 ⟨v2, rfl, hv2, hb3⟩
   obtain ⟨u2, rfl⟩ := aL hv2
   have HB3 : Hid (Below w1.heap.size w1 w3) := zz (HB2.out.trans (hb3.mono HB2.out.size))
   have SB3 := zz (SB1.out.fresh HB3.out)
   have k3 := SB3.out.at_ 3 _ rfl
   have z3 := SB3.out.free 3
   have SB4 := zz (SB3.out.set 3 (.pointer u1) (by simp))
   have k4b := SB4.out.at_ 4 _ rfl
   have z4 := SB4.out.free 4
   have z4b := SB3.out.free 4
   have HV1b : Hid (ExIn w3 (fun b => w1.heap.size <= b) (.pointer u1) (aK dst)) := zz (HV1.out.grow hb3)
   have HV2 : Hid (ExIn w3 (fun b => w1.heap.size <= b) (.pointer u2) (aK val)) := zz (ExIn.mono (fun b _ e => Nat.le_trans HB2.out.size e) _ _ hv2)
   clear hv2 hb3
   refine hK.out _ _ True.intro (fun hHeld => ?_)
   clear hK K
   refine ra 7 none rfl fun K hK => ?_
   go_simp
   refine hK.out _ _ True.intro (fun hHeld => ?_)
   clear hK K
   refine tk 8 11 (.pointer (some ⟨w.heap.size, 4, none⟩)) rfl (.inl ⟨by rfl, ?_⟩) hHeld ?_
   ·intro W9 hSW; (try dsimp only at hSW); go_simp
   try simp only [Act.put, sA, sB, sC]
   refine ra 9 none rfl fun K hK => ?_
   go_simp
   refine hK.out _ _ True.intro (fun hHeld => ?_)
   clear hK K
   refine wpAnyH_done (by kernel_rfl) ?_ _
   have hks : Keeps (fun b => b = w.heap.size) w3 ((w3.setCell ⟨w.heap.size, 3, none⟩ (.pointer u1)).setCell ⟨w.heap.size, 4, none⟩ (.pointer u2)) := fW
   have hz := HZ1.out
   have hz3 := HB3.out.size
   have hzk := hks.size
   have HKS := zz hks
   have HQ := zz (And.intro hz (And.intro hz3 hzk))
   clear hks hz hz3 hzk
   go_wp2_with fail
   go_meet
   have hks := HKS.out
   have hq := HQ.out
   exact ⟨u1, u2, SB4.out.set 4 (.pointer u2) (by simp), (RB1.out.fresh HB3.out).keeps hks (by omega), HB1.out.trans ((HB3.out.mono HB1.out.size).trans (hks.below (by omega) (fun b _ e => by have h9 : b = w.heap.size := e; omega))), by omega, bY HV1b.out hks (fun b h1 _ e => by have h9 : b = w.heap.size := e; omega) (by omega), bY HV2.out hks (fun b h1 _ e => by have h9 : b = w.heap.size := e; omega) (by omega)⟩
 case rest =>
  obtain ⟨u1, u2, hsb, hrb, hbw, hsz, hu1, hu2⟩ := hcut
  have i5 := hsb.at_ 5 _ rfl
  have hvd := HV.out _ hbw
  have HE3 := zz (HS1.out F wc _ hvd.2.2 (fun b hb => Nat.lt_of_lt_of_le (HF.out b hb) hbw.size))
  have SBd := zz hsb
  have RBd := zz hrb
  have HBd := zz hbw
  have HZd := zz hsz
  have HX := zz (And.intro hu1 hu2)
  clear hsb hrb hbw hsz hu1 hu2 hvd i3 i4
  go_wp2_with (go_at_call 75; refine HE3.out.mono ?_; rintro e w5 ⟨v5, rfl, hv5, hb5⟩; obtain ⟨p1, q1, rfl⟩ := bT hv5.1; have SB5 := zz (SBd.out.fresh hb5); have RB5 := zz (RBd.out.fresh hb5); have j5 := SB5.out.at_ 5 _ rfl; have z5 := SB5.out.free 5; have SB6 : Hid (Blk (w5.setCell ⟨w.heap.size, 5, none⟩ (.slice p1 (aE body).len q1)) w.heap.size [.int .i64 (c : Nat), .int .i64 (a : Nat), .string (mkT nm), .pointer u1, .pointer u2, .slice p1 (aE body).len q1]) := zz (SB5.out.set 5 _ (by simp)); have RB6 : Hid (Blk (w5.setCell ⟨w.heap.size, 5, none⟩ (.slice p1 (aE body).len q1)) (w.heap.size + 1) [.int .i64 0, .int .i64 0, .string ⟨#[]⟩, .pointer none, .pointer none, .slice none 0 0]) := zz (RB5.out.keeps (S := fun b => b = w.heap.size) mF (by omega)); have l0 := SB6.out.at_ 0 _ rfl; have l1 := SB6.out.at_ 1 _ rfl; have l2 := SB6.out.at_ 2 _ rfl; have l3 := SB6.out.at_ 3 _ rfl; have l4 := SB6.out.at_ 4 _ rfl; have l5 := SB6.out.at_ 5 _ rfl; have r0 := RB6.out.at_ 0 _ rfl; have r1 := RB6.out.at_ 1 _ rfl; have r2 := RB6.out.at_ 2 _ rfl; have r3 := RB6.out.at_ 3 _ rfl; have r4 := RB6.out.at_ 4 _ rfl; have r5 := RB6.out.at_ 5 _ rfl; have y0 := RB6.out.free 0; have y1 := RB6.out.free 1; have y2 := RB6.out.free 2; have y3 := RB6.out.free 3; have y4 := RB6.out.free 4; have y5 := RB6.out.free 5; have HB5 := zz hb5; have HV5 := zz hv5; clear hb5 hv5)
  refine bodyPost_ret (v := .tuple #[.agg #[.int .i64 (c : Nat), .int .i64 (a : Nat), .string (mkT nm), .pointer u1, .pointer u2, .slice p1 (aE body).len q1], .bool true]) (by simp [results, Tryz.results175, go_sem, r0, r1, r2, r3, r4, r5]) rfl ?_
  have hk1 : Keeps (fun b => b = w.heap.size) w5 (w5.setCell ⟨w.heap.size, 5, none⟩ (.slice p1 (aE body).len q1)) := mF
  have hk6 := LH (w := w5.setCell ⟨w.heap.size, 5, none⟩ (.slice p1 (aE body).len q1)) (k := w.heap.size + 1) (v0 := .int .i64 (c : Nat)) (v1 := .int .i64 (a : Nat)) (v2 := .string (mkT nm)) (v3 := .pointer u1) (v4 := .pointer u2) (v5 := .slice p1 (aE body).len q1)
  have hk : Keeps (fun b => b = w.heap.size \/ b = w.heap.size + 1) w5 _ := (hk1.mono (fun _ _ e => Or.inl e)).trans (hk6.mono (fun _ _ e => Or.inr e))
  have hz5 := HB5.out.size
  have hz0 := HZd.out
  have hno : ∀ b, w.heap.size + 2 <= b -> ¬ (b = w.heap.size \/ b = w.heap.size + 1) := fun b h e => by omega
  refine ⟨_, rfl, ⟨c, a, nm, aK dst, aK val, aE body, u1, u2, p1, q1, by rw [eU], rfl, bY (HX.out.1.grow HB5.out) hk (fun b h1 _ e => hno b h1 e) (by omega), bY (HX.out.2.grow HB5.out) hk (fun b h1 _ e => hno b h1 e) (by omega), dQ HV5.out hk (fun b h1 _ e => hno b (by omega) e) (by omega)⟩, HBd.out.trans ((HB5.out.mono HBd.out.size).trans (hk.below (by omega) (fun b _ e => by have h9 : b = w.heap.size \/ b = w.heap.size + 1 := e; omega)))⟩
end Go.Proofs.YtnpapppipccdbaaGreatDoor
