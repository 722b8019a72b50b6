/-
  Texts of one proof, in build order: TreeSF TreeSG TreeSH TreeSI TreeSJ TreeSK TreeSL TreeSM
-/
import Derived.Test.YtjejcajnnbilmaaGreatDoorB3
set_option maxRecDepth 100000
set_option maxHeartbeats 12800000
namespace Go.Proofs.YtjejcajnnbilmaaGreatDoor
open Go.RowKit Lx Tr
variable {w w' : World} {rb n d dd : Nat} {tv : Value} {E : Env}
theorem st_final {dep sb m : Nat} {vs : List Value} {s : St} {wt w2 : World} (hC : StC wt (fun b => sb < b) vs s) (hR : RdAt wt rb tv E m dep) (hK : Keeps (fun b => b = rb) w wt) (hks : Keeps (fun b => b = sb \/ b = w.heap.size) wt w2) (hs : w.heap.size < sb) (hlt : rb < w.heap.size) :
  StC w2 (fun b => w.heap.size <= b) vs s /\ RdAt w2 rb tv E m dep /\ Keeps (fun b => b = rb) w w2 :=
 ⟨StC.mono (fun b _ e => by have h : sb < b := e; omega) (hC.keeps hks (fun b e e2 => by have h : sb < b := e; omega)), hR.keeps hks (fun b e => by omega), hK.trans' hks (fun i hi e => by omega)⟩
theorem stmt_break_any {dep : Nat} (w : World) (h : RdAt w rb tv E n dep) (hE : TEnv rb E w) (ht : (pk E n).text = tBreak) : Calls Tryz.prog 150 #[.pointer (some ⟨rb, 0, none⟩)] w fun e w' => ∃ r, Ev (fun f => Tr.stmt E f dep n) r /\ Says StV1 w w' rb tv E dep r e := by
 have hb0 : Below w.heap.size w (w.alloc (.cells #[.int .i64 0, .int .i64 0, .string ⟨#[]⟩, .pointer none, .pointer none, .slice none 0 0, .slice none 0 0, .slice none 0 0] 49)) := ((Keeps.refl (fun _ => False) w).alloc _).below (Nat.le_refl _) (fun _ _ e => e.elim)
 have hrv0 : Blk (w.alloc (.cells #[.int .i64 0, .int .i64 0, .string ⟨#[]⟩, .pointer none, .pointer none, .slice none 0 0, .slice none 0 0, .slice none 0 0] 49)) w.heap.size (st0 0) := Blk.new' w (st0 0) _ rfl
 have hp0 := peek_any _ (h.fresh hb0)
 have HPP : Hid (∀ W, Below w.heap.size w W -> Calls Tryz.prog 88 #[.pointer (some ⟨rb, 0, none⟩)] W fun e w' => e = .returned (tokV (pk E n)) /\ Below W.heap.size W w') := zz fun W hb => peek_any W (h.fresh hb)
 have HN := zz (pk_lt ht (by decide))
 have HEVt : Hid (Ev (fun f => Tr.stmt E f dep n) (.ok (stz 9 (pk E n).at_ [] .nil .nil) (n + 1))) := zz (Ev.now (fun e => by cases e) fun f => by rw [stmt_eq, ht]; rfl)
 have H0 := zz h
 have HE := zz hE
 have HLT := zz h.lt
 have HB0 := zz hb0
 have HRV0 := zz hrv0
 unfold tokV at hp0 HPP
 have hTT : (pk E n).text = tBreak := ht
 obtain ⟨T, hT⟩ : ∃ T, T = mkT tBreak := ⟨_, rfl⟩
 have hT' : T = mkT (pk E n).text := by rw [hTT]; exact hT
 have b0 : (T.toList == [99, 108, 111, 115, 101]) = false := by rw [hT, Lib.toList_data]; rfl
 have b1 : (T.toList == [112, 114, 105, 110, 116]) = false := by rw [hT, Lib.toList_data]; rfl
 have b2 : (T.toList == [115, 108, 101, 101, 112]) = false := by rw [hT, Lib.toList_data]; rfl
 have b3 : (T.toList == [103, 111]) = false := by rw [hT, Lib.toList_data]; rfl
 have b4 : (T.toList == [114, 101, 116, 117, 114, 110]) = false := by rw [hT, Lib.toList_data]; rfl
 have b5 : (T.toList == [98, 114, 101, 97, 107]) = true := by rw [hT, Lib.toList_data]; rfl
 rw [<- hT'] at hp0 HPP
 have HP0 := zz hp0
 clear h hE hb0 hrv0 hp0 hT' ht hTT hT
 have hf := tok_field2
 have hf1 := tok_field1
 go_enter Tryz.func150, Tryz.ntmps150
 go_wp2_with fail
 refine HP0.out.mono ?_
 rintro e w1 ⟨rfl, hb1⟩
 have hb01 : Below w.heap.size w w1 := HB0.out.trans (hb1.mono HB0.out.size)
 have hrv1 := HRV0.out.fresh hb1
 obtain ⟨sb, hsb⟩ : ∃ sb, sb = w1.heap.size := ⟨_, rfl⟩
 have hsbn : w.heap.size < sb := by rw [hsb]; exact hrv1.lt
 have HSB := zz hsbn
 have hB1 : Blk (w1.alloc (.cells #[.int .i64 0, .int .i64 ((pk E n).at_ : Nat), .string ⟨#[]⟩, .pointer none, .pointer none, .slice none 0 0, .slice none 0 0, .slice none 0 0] 49)) sb (st0 (pk E n).at_) := Blk.new' w1 (st0 (pk E n).at_) _ hsb
 have hb2 : Below w.heap.size w (w1.alloc (.cells #[.int .i64 0, .int .i64 ((pk E n).at_ : Nat), .string ⟨#[]⟩, .pointer none, .pointer none, .slice none 0 0, .slice none 0 0, .slice none 0 0] 49)) := hb01.alloc hb01.size _
 have hrv2 : Blk (w1.alloc (.cells #[.int .i64 0, .int .i64 ((pk E n).at_ : Nat), .string ⟨#[]⟩, .pointer none, .pointer none, .slice none 0 0, .slice none 0 0, .slice none 0 0] 49)) w.heap.size (st0 0) := hrv1.keeps (S := fun _ => False) ((Keeps.refl _ w1).alloc _) id
 have HP1 := zz (HPP.out _ hb2)
 have HB1 := zz hB1
 have HB2 := zz hb2
 have HRV2 := zz hrv2
 clear hB1 hb2 hrv2 hrv1 hb01 hb1 hsbn HPP HP0
 go_wp2_with fail
 rw [<- hsb]
 clear hsb
 refine HP1.out.mono ?_
 rintro e w2 ⟨rfl, hb3⟩
 have HBs := zz (HB1.out.fresh hb3)
 have HRVs := zz (HRV2.out.fresh hb3)
 have HBW : Hid (Below w.heap.size w w2) := zz (HB2.out.trans (hb3.mono HB2.out.size))
 clear hb3 HB1 HRV2 HB2 HP1
 have hn := HN.out
 go_wp2_with fail
 refine (skip_tok w2 (H0.out.fresh HBW.out) hn).mono ?_
 rintro e w3 ⟨rfl, hr3, hk3⟩
 clear hn
 have hne3 : ¬ sb = rb := by have := HSB.out; have := HLT.out; omega
 have hne4 : ¬ w.heap.size = rb := by have := HLT.out; omega
 have HBt0 := zz (HBs.out.keeps hk3 hne3)
 have HRVt0 := zz (HRVs.out.keeps hk3 hne4)
 have HR3 := zz hr3
 have HK3 : Hid (Keeps (fun b => b = rb) w w3) := zz ((Keeps.of_new HBW.out).trans hk3)
 have HN3 := zz hne3
 have HN4 := zz hne4
 have HE3 := zz (HE.out.own HK3.out)
 clear hr3 hk3 hne3 hne4
 unfold tokV
 generalize mkT (pk E n).text = TT
 have HBt := HBt0
 have HRV := HRVt0
 have HRt := HR3
 have HKt := HK3
 have HSC : Hid (StC w3 (fun b => sb < b) (st1 9 (pk E n).at_ [] none none) (stz 9 (pk E n).at_ [] .nil .nil)) := zz (stC_one rfl rfl)
 have c0 := HBt.out.at_ 0 _ rfl
 have c1 := HBt.out.at_ 1 _ rfl
 have c2 := HBt.out.at_ 2 _ rfl
 have c3 := HBt.out.at_ 3 _ rfl
 have c4 := HBt.out.at_ 4 _ rfl
 have c5 := HBt.out.at_ 5 _ rfl
 have c6 := HBt.out.at_ 6 _ rfl
 have c7 := HBt.out.at_ 7 _ rfl
 have z0 := HBt.out.free 0
 have r0 := HRV.out.at_ 0 _ rfl
 have y0 := HRV.out.free 0
 have r1 := HRV.out.at_ 1 _ rfl
 have y1 := HRV.out.free 1
 have r2 := HRV.out.at_ 2 _ rfl
 have y2 := HRV.out.free 2
 have r3 := HRV.out.at_ 3 _ rfl
 have y3 := HRV.out.free 3
 have r4 := HRV.out.at_ 4 _ rfl
 have y4 := HRV.out.free 4
 have r5 := HRV.out.at_ 5 _ rfl
 have y5 := HRV.out.free 5
 have r6 := HRV.out.at_ 6 _ rfl
 have y6 := HRV.out.free 6
 have r7 := HRV.out.at_ 7 _ rfl
 have y7 := HRV.out.free 7
 have hne : w.heap.size ≠ sb := by have := HSB.out; omega
 have hne2 : sb ≠ w.heap.size := fun e => hne e.symm
 have HSB2 := zz hne
 go_wp2_with fail
 have hks : Keeps (fun b => b = sb \/ b = w.heap.size) w3 (((((((((w3.setCell ⟨sb, 0, none⟩ (.int .i64 9)).setCell ⟨w.heap.size, 0, none⟩ (.int .i64 9)).setCell ⟨w.heap.size, 1, none⟩ (.int .i64 ((pk E n).at_ : Nat))).setCell ⟨w.heap.size, 2, none⟩ (.string (mkT []))).setCell ⟨w.heap.size, 3, none⟩ (.pointer none)).setCell ⟨w.heap.size, 4, none⟩ (.pointer none)).setCell ⟨w.heap.size, 5, none⟩ (.slice none 0 0)).setCell ⟨w.heap.size, 6, none⟩ (.slice none 0 0)).setCell ⟨w.heap.size, 7, none⟩ (.slice none 0 0)) := (((((((((Keeps.refl (fun b => b = sb \/ b = w.heap.size) w3).setCell (S := fun b => b = sb \/ b = w.heap.size) (p := ⟨sb, 0, none⟩) (Or.inl (Or.inl rfl)) (.int .i64 9)).setCell (S := fun b => b = sb \/ b = w.heap.size) (p := ⟨w.heap.size, 0, none⟩) (Or.inl (Or.inr rfl)) (.int .i64 9)).setCell (S := fun b => b = sb \/ b = w.heap.size) (p := ⟨w.heap.size, 1, none⟩) (Or.inl (Or.inr rfl)) (.int .i64 ((pk E n).at_ : Nat))).setCell (S := fun b => b = sb \/ b = w.heap.size) (p := ⟨w.heap.size, 2, none⟩) (Or.inl (Or.inr rfl)) (.string (mkT []))).setCell (S := fun b => b = sb \/ b = w.heap.size) (p := ⟨w.heap.size, 3, none⟩) (Or.inl (Or.inr rfl)) (.pointer none)).setCell (S := fun b => b = sb \/ b = w.heap.size) (p := ⟨w.heap.size, 4, none⟩) (Or.inl (Or.inr rfl)) (.pointer none)).setCell (S := fun b => b = sb \/ b = w.heap.size) (p := ⟨w.heap.size, 5, none⟩) (Or.inl (Or.inr rfl)) (.slice none 0 0)).setCell (S := fun b => b = sb \/ b = w.heap.size) (p := ⟨w.heap.size, 6, none⟩) (Or.inl (Or.inr rfl)) (.slice none 0 0)).setCell (S := fun b => b = sb \/ b = w.heap.size) (p := ⟨w.heap.size, 7, none⟩) (Or.inl (Or.inr rfl)) (.slice none 0 0)
 have hfin := st_final HSC.out HRt.out HKt.out hks HSB.out HLT.out
 refine bodyPost_ret (v := .agg #[.int .i64 9, .int .i64 ((pk E n).at_ : Nat), .string (mkT []), .pointer none, .pointer none, .slice none 0 0, .slice none 0 0, .slice none 0 0]) (by simp [results, Tryz.results150, go_sem, r0, r1, r2, r3, r4, r5, r6, r7]) rfl ⟨.ok (stz 9 (pk E n).at_ [] .nil .nil) _, HEVt.out, _, rfl, ⟨_, rfl, hfin.1⟩, hfin.2.1, hfin.2.2⟩
theorem stmt_continue_any {dep : Nat} (w : World) (h : RdAt w rb tv E n dep) (hE : TEnv rb E w) (ht : (pk E n).text = tContinue) : Calls Tryz.prog 150 #[.pointer (some ⟨rb, 0, none⟩)] w fun e w' => ∃ r, Ev (fun f => Tr.stmt E f dep n) r /\ Says StV1 w w' rb tv E dep r e := by
 have hb0 : Below w.heap.size w (w.alloc (.cells #[.int .i64 0, .int .i64 0, .string ⟨#[]⟩, .pointer none, .pointer none, .slice none 0 0, .slice none 0 0, .slice none 0 0] 49)) := ((Keeps.refl (fun _ => False) w).alloc _).below (Nat.le_refl _) (fun _ _ e => e.elim)
 have hrv0 : Blk (w.alloc (.cells #[.int .i64 0, .int .i64 0, .string ⟨#[]⟩, .pointer none, .pointer none, .slice none 0 0, .slice none 0 0, .slice none 0 0] 49)) w.heap.size (st0 0) := Blk.new' w (st0 0) _ rfl
 have hp0 := peek_any _ (h.fresh hb0)
 have HPP : Hid (∀ W, Below w.heap.size w W -> Calls Tryz.prog 88 #[.pointer (some ⟨rb, 0, none⟩)] W fun e w' => e = .returned (tokV (pk E n)) /\ Below W.heap.size W w') := zz fun W hb => peek_any W (h.fresh hb)
 have HN := zz (pk_lt ht (by decide))
 have HEVt : Hid (Ev (fun f => Tr.stmt E f dep n) (.ok (stz 10 (pk E n).at_ [] .nil .nil) (n + 1))) := zz (Ev.now (fun e => by cases e) fun f => by rw [stmt_eq, ht]; rfl)
 have H0 := zz h
 have HE := zz hE
 have HLT := zz h.lt
 have HB0 := zz hb0
 have HRV0 := zz hrv0
 unfold tokV at hp0 HPP
 have hTT : (pk E n).text = tContinue := ht
 obtain ⟨T, hT⟩ : ∃ T, T = mkT tContinue := ⟨_, rfl⟩
 have hT' : T = mkT (pk E n).text := by rw [hTT]; exact hT
 have b0 : (T.toList == [99, 108, 111, 115, 101]) = false := by rw [hT, Lib.toList_data]; rfl
 have b1 : (T.toList == [112, 114, 105, 110, 116]) = false := by rw [hT, Lib.toList_data]; rfl
 have b2 : (T.toList == [115, 108, 101, 101, 112]) = false := by rw [hT, Lib.toList_data]; rfl
 have b3 : (T.toList == [103, 111]) = false := by rw [hT, Lib.toList_data]; rfl
 have b4 : (T.toList == [114, 101, 116, 117, 114, 110]) = false := by rw [hT, Lib.toList_data]; rfl
 have b5 : (T.toList == [98, 114, 101, 97, 107]) = false := by rw [hT, Lib.toList_data]; rfl
 have b6 : (T.toList == [99, 111, 110, 116, 105, 110, 117, 101]) = true := by rw [hT, Lib.toList_data]; rfl
 rw [<- hT'] at hp0 HPP
 have HP0 := zz hp0
 clear h hE hb0 hrv0 hp0 hT' ht hTT hT
 have hf := tok_field2
 have hf1 := tok_field1
 go_enter Tryz.func150, Tryz.ntmps150
 go_wp2_with fail
 refine HP0.out.mono ?_
 rintro e w1 ⟨rfl, hb1⟩
 have hb01 : Below w.heap.size w w1 := HB0.out.trans (hb1.mono HB0.out.size)
 have hrv1 := HRV0.out.fresh hb1
 obtain ⟨sb, hsb⟩ : ∃ sb, sb = w1.heap.size := ⟨_, rfl⟩
 have hsbn : w.heap.size < sb := by rw [hsb]; exact hrv1.lt
 have HSB := zz hsbn
 have hB1 : Blk (w1.alloc (.cells #[.int .i64 0, .int .i64 ((pk E n).at_ : Nat), .string ⟨#[]⟩, .pointer none, .pointer none, .slice none 0 0, .slice none 0 0, .slice none 0 0] 49)) sb (st0 (pk E n).at_) := Blk.new' w1 (st0 (pk E n).at_) _ hsb
 have hb2 : Below w.heap.size w (w1.alloc (.cells #[.int .i64 0, .int .i64 ((pk E n).at_ : Nat), .string ⟨#[]⟩, .pointer none, .pointer none, .slice none 0 0, .slice none 0 0, .slice none 0 0] 49)) := hb01.alloc hb01.size _
 have hrv2 : Blk (w1.alloc (.cells #[.int .i64 0, .int .i64 ((pk E n).at_ : Nat), .string ⟨#[]⟩, .pointer none, .pointer none, .slice none 0 0, .slice none 0 0, .slice none 0 0] 49)) w.heap.size (st0 0) := hrv1.keeps (S := fun _ => False) ((Keeps.refl _ w1).alloc _) id
 have HP1 := zz (HPP.out _ hb2)
 have HB1 := zz hB1
 have HB2 := zz hb2
 have HRV2 := zz hrv2
 clear hB1 hb2 hrv2 hrv1 hb01 hb1 hsbn HPP HP0
 go_wp2_with fail
 rw [<- hsb]
 clear hsb
 refine HP1.out.mono ?_
 rintro e w2 ⟨rfl, hb3⟩
 have HBs := zz (HB1.out.fresh hb3)
 have HRVs := zz (HRV2.out.fresh hb3)
 have HBW : Hid (Below w.heap.size w w2) := zz (HB2.out.trans (hb3.mono HB2.out.size))
 clear hb3 HB1 HRV2 HB2 HP1
 have hn := HN.out
 go_wp2_with fail
 refine (skip_tok w2 (H0.out.fresh HBW.out) hn).mono ?_
 rintro e w3 ⟨rfl, hr3, hk3⟩
 clear hn
 have hne3 : ¬ sb = rb := by have := HSB.out; have := HLT.out; omega
 have hne4 : ¬ w.heap.size = rb := by have := HLT.out; omega
 have HBt0 := zz (HBs.out.keeps hk3 hne3)
 have HRVt0 := zz (HRVs.out.keeps hk3 hne4)
 have HR3 := zz hr3
 have HK3 : Hid (Keeps (fun b => b = rb) w w3) := zz ((Keeps.of_new HBW.out).trans hk3)
 have HN3 := zz hne3
 have HN4 := zz hne4
 have HE3 := zz (HE.out.own HK3.out)
 clear hr3 hk3 hne3 hne4
 unfold tokV
 generalize mkT (pk E n).text = TT
 have HBt := HBt0
 have HRV := HRVt0
 have HRt := HR3
 have HKt := HK3
 have HSC : Hid (StC w3 (fun b => sb < b) (st1 10 (pk E n).at_ [] none none) (stz 10 (pk E n).at_ [] .nil .nil)) := zz (stC_one rfl rfl)
 have c0 := HBt.out.at_ 0 _ rfl
 have c1 := HBt.out.at_ 1 _ rfl
 have c2 := HBt.out.at_ 2 _ rfl
 have c3 := HBt.out.at_ 3 _ rfl
 have c4 := HBt.out.at_ 4 _ rfl
 have c5 := HBt.out.at_ 5 _ rfl
 have c6 := HBt.out.at_ 6 _ rfl
 have c7 := HBt.out.at_ 7 _ rfl
 have z0 := HBt.out.free 0
 have r0 := HRV.out.at_ 0 _ rfl
 have y0 := HRV.out.free 0
 have r1 := HRV.out.at_ 1 _ rfl
 have y1 := HRV.out.free 1
 have r2 := HRV.out.at_ 2 _ rfl
 have y2 := HRV.out.free 2
 have r3 := HRV.out.at_ 3 _ rfl
 have y3 := HRV.out.free 3
 have r4 := HRV.out.at_ 4 _ rfl
 have y4 := HRV.out.free 4
 have r5 := HRV.out.at_ 5 _ rfl
 have y5 := HRV.out.free 5
 have r6 := HRV.out.at_ 6 _ rfl
 have y6 := HRV.out.free 6
 have r7 := HRV.out.at_ 7 _ rfl
 have y7 := HRV.out.free 7
 have hne : w.heap.size ≠ sb := by have := HSB.out; omega
 have hne2 : sb ≠ w.heap.size := fun e => hne e.symm
 have HSB2 := zz hne
 go_wp2_with fail
 have hks : Keeps (fun b => b = sb \/ b = w.heap.size) w3 (((((((((w3.setCell ⟨sb, 0, none⟩ (.int .i64 10)).setCell ⟨w.heap.size, 0, none⟩ (.int .i64 10)).setCell ⟨w.heap.size, 1, none⟩ (.int .i64 ((pk E n).at_ : Nat))).setCell ⟨w.heap.size, 2, none⟩ (.string (mkT []))).setCell ⟨w.heap.size, 3, none⟩ (.pointer none)).setCell ⟨w.heap.size, 4, none⟩ (.pointer none)).setCell ⟨w.heap.size, 5, none⟩ (.slice none 0 0)).setCell ⟨w.heap.size, 6, none⟩ (.slice none 0 0)).setCell ⟨w.heap.size, 7, none⟩ (.slice none 0 0)) := (((((((((Keeps.refl (fun b => b = sb \/ b = w.heap.size) w3).setCell (S := fun b => b = sb \/ b = w.heap.size) (p := ⟨sb, 0, none⟩) (Or.inl (Or.inl rfl)) (.int .i64 10)).setCell (S := fun b => b = sb \/ b = w.heap.size) (p := ⟨w.heap.size, 0, none⟩) (Or.inl (Or.inr rfl)) (.int .i64 10)).setCell (S := fun b => b = sb \/ b = w.heap.size) (p := ⟨w.heap.size, 1, none⟩) (Or.inl (Or.inr rfl)) (.int .i64 ((pk E n).at_ : Nat))).setCell (S := fun b => b = sb \/ b = w.heap.size) (p := ⟨w.heap.size, 2, none⟩) (Or.inl (Or.inr rfl)) (.string (mkT []))).setCell (S := fun b => b = sb \/ b = w.heap.size) (p := ⟨w.heap.size, 3, none⟩) (Or.inl (Or.inr rfl)) (.pointer none)).setCell (S := fun b => b = sb \/ b = w.heap.size) (p := ⟨w.heap.size, 4, none⟩) (Or.inl (Or.inr rfl)) (.pointer none)).setCell (S := fun b => b = sb \/ b = w.heap.size) (p := ⟨w.heap.size, 5, none⟩) (Or.inl (Or.inr rfl)) (.slice none 0 0)).setCell (S := fun b => b = sb \/ b = w.heap.size) (p := ⟨w.heap.size, 6, none⟩) (Or.inl (Or.inr rfl)) (.slice none 0 0)).setCell (S := fun b => b = sb \/ b = w.heap.size) (p := ⟨w.heap.size, 7, none⟩) (Or.inl (Or.inr rfl)) (.slice none 0 0)
 have hfin := st_final HSC.out HRt.out HKt.out hks HSB.out HLT.out
 refine bodyPost_ret (v := .agg #[.int .i64 10, .int .i64 ((pk E n).at_ : Nat), .string (mkT []), .pointer none, .pointer none, .slice none 0 0, .slice none 0 0, .slice none 0 0]) (by simp [results, Tryz.results150, go_sem, r0, r1, r2, r3, r4, r5, r6, r7]) rfl ⟨.ok (stz 10 (pk E n).at_ [] .nil .nil) _, HEVt.out, _, rfl, ⟨_, rfl, hfin.1⟩, hfin.2.1, hfin.2.2⟩
theorem stmt_close_any {dep : Nat} (w : World) (h : RdAt w rb tv E n dep) (hE : TEnv rb E w) (ht : (pk E n).text = tClose) : Calls Tryz.prog 150 #[.pointer (some ⟨rb, 0, none⟩)] w fun e w' => ∃ r, Ev (fun f => Tr.stmt E f dep n) r /\ Says StV1 w w' rb tv E dep r e := by
 have hb0 : Below w.heap.size w (w.alloc (.cells #[.int .i64 0, .int .i64 0, .string ⟨#[]⟩, .pointer none, .pointer none, .slice none 0 0, .slice none 0 0, .slice none 0 0] 49)) := ((Keeps.refl (fun _ => False) w).alloc _).below (Nat.le_refl _) (fun _ _ e => e.elim)
 have hrv0 : Blk (w.alloc (.cells #[.int .i64 0, .int .i64 0, .string ⟨#[]⟩, .pointer none, .pointer none, .slice none 0 0, .slice none 0 0, .slice none 0 0] 49)) w.heap.size (st0 0) := Blk.new' w (st0 0) _ rfl
 have hp0 := peek_any _ (h.fresh hb0)
 have HPP : Hid (∀ W, Below w.heap.size w W -> Calls Tryz.prog 88 #[.pointer (some ⟨rb, 0, none⟩)] W fun e w' => e = .returned (tokV (pk E n)) /\ Below W.heap.size W w') := zz fun W hb => peek_any W (h.fresh hb)
 have HN := zz (pk_lt ht (by decide))
 have HEV : Hid (∀ r, Ev (fun f => bracketed E f 0 (n + 1)) r -> Ev (fun f => Tr.stmt E f dep n) (r.bind fun x m => .ok (stz 4 (pk E n).at_ [] .nil x) m)) := zz fun r hr => Ev.step (h := fun f => (bracketed E f 0 (n + 1)).bind fun x m => .ok (stz 4 (pk E n).at_ [] .nil x) m) (fun f => by rw [stmt_eq, ht]; rfl) (Ev.map _ (fun _ _ e => by cases e) hr)
 have H0 := zz h
 have HE := zz hE
 have HLT := zz h.lt
 have HB0 := zz hb0
 have HRV0 := zz hrv0
 unfold tokV at hp0 HPP
 have hTT : (pk E n).text = tClose := ht
 obtain ⟨T, hT⟩ : ∃ T, T = mkT tClose := ⟨_, rfl⟩
 have hT' : T = mkT (pk E n).text := by rw [hTT]; exact hT
 have b0 : (T.toList == [99, 108, 111, 115, 101]) = true := by rw [hT, Lib.toList_data]; rfl
 rw [<- hT'] at hp0 HPP
 have HP0 := zz hp0
 clear h hE hb0 hrv0 hp0 hT' ht hTT hT
 have hf := tok_field2
 have hf1 := tok_field1
 go_enter Tryz.func150, Tryz.ntmps150
 go_wp2_with fail
 refine HP0.out.mono ?_
 rintro e w1 ⟨rfl, hb1⟩
 have hb01 : Below w.heap.size w w1 := HB0.out.trans (hb1.mono HB0.out.size)
 have hrv1 := HRV0.out.fresh hb1
 obtain ⟨sb, hsb⟩ : ∃ sb, sb = w1.heap.size := ⟨_, rfl⟩
 have hsbn : w.heap.size < sb := by rw [hsb]; exact hrv1.lt
 have HSB := zz hsbn
 have hB1 : Blk (w1.alloc (.cells #[.int .i64 0, .int .i64 ((pk E n).at_ : Nat), .string ⟨#[]⟩, .pointer none, .pointer none, .slice none 0 0, .slice none 0 0, .slice none 0 0] 49)) sb (st0 (pk E n).at_) := Blk.new' w1 (st0 (pk E n).at_) _ hsb
 have hb2 : Below w.heap.size w (w1.alloc (.cells #[.int .i64 0, .int .i64 ((pk E n).at_ : Nat), .string ⟨#[]⟩, .pointer none, .pointer none, .slice none 0 0, .slice none 0 0, .slice none 0 0] 49)) := hb01.alloc hb01.size _
 have hrv2 : Blk (w1.alloc (.cells #[.int .i64 0, .int .i64 ((pk E n).at_ : Nat), .string ⟨#[]⟩, .pointer none, .pointer none, .slice none 0 0, .slice none 0 0, .slice none 0 0] 49)) w.heap.size (st0 0) := hrv1.keeps (S := fun _ => False) ((Keeps.refl _ w1).alloc _) id
 have HP1 := zz (HPP.out _ hb2)
 have HB1 := zz hB1
 have HB2 := zz hb2
 have HRV2 := zz hrv2
 clear hB1 hb2 hrv2 hrv1 hb01 hb1 hsbn HPP HP0
 go_wp2_with fail
 rw [<- hsb]
 clear hsb
 refine HP1.out.mono ?_
 rintro e w2 ⟨rfl, hb3⟩
 have HBs := zz (HB1.out.fresh hb3)
 have HRVs := zz (HRV2.out.fresh hb3)
 have HBW : Hid (Below w.heap.size w w2) := zz (HB2.out.trans (hb3.mono HB2.out.size))
 clear hb3 HB1 HRV2 HB2 HP1
 have hn := HN.out
 go_wp2_with fail
 refine (skip_tok w2 (H0.out.fresh HBW.out) hn).mono ?_
 rintro e w3 ⟨rfl, hr3, hk3⟩
 clear hn
 have hne3 : ¬ sb = rb := by have := HSB.out; have := HLT.out; omega
 have hne4 : ¬ w.heap.size = rb := by have := HLT.out; omega
 have HBt0 := zz (HBs.out.keeps hk3 hne3)
 have HRVt0 := zz (HRVs.out.keeps hk3 hne4)
 have HR3 := zz hr3
 have HK3 : Hid (Keeps (fun b => b = rb) w w3) := zz ((Keeps.of_new HBW.out).trans hk3)
 have HN3 := zz hne3
 have HN4 := zz hne4
 have HE3 := zz (HE.out.own HK3.out)
 clear hr3 hk3 hne3 hne4
 unfold tokV
 generalize mkT (pk E n).text = TT
 have HXP := zz (bracketed_any (dd := 0) (RExpr (by decide)) (by decide) w3 HR3.out HE3.out)
 go_wp2_with fail
 refine HXP.out.mono ?_
 rintro e w4 ⟨r, hev, hsay⟩
 have hev2 := zz (HEV.out r hev)
 cases r with
 | out => exact hsay.elim
 | bad k a =>
  have hsay' : Threw w3 w4 rb k a e := hsay
  obtain ⟨b, rfl⟩ := threw_panic hsay'
  exact ⟨rfl, _, hev2.out, hsay'.own HLT.out HK3.out⟩
 | ok x m =>
  obtain ⟨v, rfl, hx, hr4, hk4⟩ := hsay
  obtain ⟨o, rfl⟩ := ex_ptr hx
  have HBt := zz (HBt0.out.keeps hk4 HN3.out)
  have HRV := zz (HRVt0.out.keeps hk4 HN4.out)
  have HRt := zz hr4
  have HKt := zz (HK3.out.trans hk4)
  have HEVt : Hid (Ev (fun f => Tr.stmt E f dep n) (.ok (stz 4 (pk E n).at_ [] .nil x) m)) := hev2
  have HSC : Hid (StC w4 (fun b => sb < b) (st1 4 (pk E n).at_ [] none o) (stz 4 (pk E n).at_ [] .nil x)) := zz (stC_one rfl (ExIn.mono (fun b _ e => by have h1 : w3.heap.size <= b := e; have := HBt0.out.lt; show sb < b; omega) _ _ hx))
  clear hx hr4 hk4 hev hev2
  have c0 := HBt.out.at_ 0 _ rfl
  have c1 := HBt.out.at_ 1 _ rfl
  have c2 := HBt.out.at_ 2 _ rfl
  have c3 := HBt.out.at_ 3 _ rfl
  have c4 := HBt.out.at_ 4 _ rfl
  have c5 := HBt.out.at_ 5 _ rfl
  have c6 := HBt.out.at_ 6 _ rfl
  have c7 := HBt.out.at_ 7 _ rfl
  have z0 := HBt.out.free 0
  have z4 := HBt.out.free 4
  have r0 := HRV.out.at_ 0 _ rfl
  have y0 := HRV.out.free 0
  have r1 := HRV.out.at_ 1 _ rfl
  have y1 := HRV.out.free 1
  have r2 := HRV.out.at_ 2 _ rfl
  have y2 := HRV.out.free 2
  have r3 := HRV.out.at_ 3 _ rfl
  have y3 := HRV.out.free 3
  have r4 := HRV.out.at_ 4 _ rfl
  have y4 := HRV.out.free 4
  have r5 := HRV.out.at_ 5 _ rfl
  have y5 := HRV.out.free 5
  have r6 := HRV.out.at_ 6 _ rfl
  have y6 := HRV.out.free 6
  have r7 := HRV.out.at_ 7 _ rfl
  have y7 := HRV.out.free 7
  have hne : w.heap.size ≠ sb := by have := HSB.out; omega
  have hne2 : sb ≠ w.heap.size := fun e => hne e.symm
  have HSB2 := zz hne
  go_wp2_with fail
  have hks : Keeps (fun b => b = sb \/ b = w.heap.size) w4 ((((((((((w4.setCell ⟨sb, 0, none⟩ (.int .i64 4)).setCell ⟨sb, 4, none⟩ (.pointer o)).setCell ⟨w.heap.size, 0, none⟩ (.int .i64 4)).setCell ⟨w.heap.size, 1, none⟩ (.int .i64 ((pk E n).at_ : Nat))).setCell ⟨w.heap.size, 2, none⟩ (.string (mkT []))).setCell ⟨w.heap.size, 3, none⟩ (.pointer none)).setCell ⟨w.heap.size, 4, none⟩ (.pointer o)).setCell ⟨w.heap.size, 5, none⟩ (.slice none 0 0)).setCell ⟨w.heap.size, 6, none⟩ (.slice none 0 0)).setCell ⟨w.heap.size, 7, none⟩ (.slice none 0 0)) := ((((((((((Keeps.refl (fun b => b = sb \/ b = w.heap.size) w4).setCell (S := fun b => b = sb \/ b = w.heap.size) (p := ⟨sb, 0, none⟩) (Or.inl (Or.inl rfl)) (.int .i64 4)).setCell (S := fun b => b = sb \/ b = w.heap.size) (p := ⟨sb, 4, none⟩) (Or.inl (Or.inl rfl)) (.pointer o)).setCell (S := fun b => b = sb \/ b = w.heap.size) (p := ⟨w.heap.size, 0, none⟩) (Or.inl (Or.inr rfl)) (.int .i64 4)).setCell (S := fun b => b = sb \/ b = w.heap.size) (p := ⟨w.heap.size, 1, none⟩) (Or.inl (Or.inr rfl)) (.int .i64 ((pk E n).at_ : Nat))).setCell (S := fun b => b = sb \/ b = w.heap.size) (p := ⟨w.heap.size, 2, none⟩) (Or.inl (Or.inr rfl)) (.string (mkT []))).setCell (S := fun b => b = sb \/ b = w.heap.size) (p := ⟨w.heap.size, 3, none⟩) (Or.inl (Or.inr rfl)) (.pointer none)).setCell (S := fun b => b = sb \/ b = w.heap.size) (p := ⟨w.heap.size, 4, none⟩) (Or.inl (Or.inr rfl)) (.pointer o)).setCell (S := fun b => b = sb \/ b = w.heap.size) (p := ⟨w.heap.size, 5, none⟩) (Or.inl (Or.inr rfl)) (.slice none 0 0)).setCell (S := fun b => b = sb \/ b = w.heap.size) (p := ⟨w.heap.size, 6, none⟩) (Or.inl (Or.inr rfl)) (.slice none 0 0)).setCell (S := fun b => b = sb \/ b = w.heap.size) (p := ⟨w.heap.size, 7, none⟩) (Or.inl (Or.inr rfl)) (.slice none 0 0)
  have hfin := st_final HSC.out HRt.out HKt.out hks HSB.out HLT.out
  refine bodyPost_ret (v := .agg #[.int .i64 4, .int .i64 ((pk E n).at_ : Nat), .string (mkT []), .pointer none, .pointer o, .slice none 0 0, .slice none 0 0, .slice none 0 0]) (by simp [results, Tryz.results150, go_sem, r0, r1, r2, r3, r4, r5, r6, r7]) rfl ⟨.ok (stz 4 (pk E n).at_ [] .nil x) _, HEVt.out, _, rfl, ⟨_, rfl, hfin.1⟩, hfin.2.1, hfin.2.2⟩
theorem stmt_print_any {dep : Nat} (w : World) (h : RdAt w rb tv E n dep) (hE : TEnv rb E w) (ht : (pk E n).text = tPrint) : Calls Tryz.prog 150 #[.pointer (some ⟨rb, 0, none⟩)] w fun e w' => ∃ r, Ev (fun f => Tr.stmt E f dep n) r /\ Says StV1 w w' rb tv E dep r e := by
 have hb0 : Below w.heap.size w (w.alloc (.cells #[.int .i64 0, .int .i64 0, .string ⟨#[]⟩, .pointer none, .pointer none, .slice none 0 0, .slice none 0 0, .slice none 0 0] 49)) := ((Keeps.refl (fun _ => False) w).alloc _).below (Nat.le_refl _) (fun _ _ e => e.elim)
 have hrv0 : Blk (w.alloc (.cells #[.int .i64 0, .int .i64 0, .string ⟨#[]⟩, .pointer none, .pointer none, .slice none 0 0, .slice none 0 0, .slice none 0 0] 49)) w.heap.size (st0 0) := Blk.new' w (st0 0) _ rfl
 have hp0 := peek_any _ (h.fresh hb0)
 have HPP : Hid (∀ W, Below w.heap.size w W -> Calls Tryz.prog 88 #[.pointer (some ⟨rb, 0, none⟩)] W fun e w' => e = .returned (tokV (pk E n)) /\ Below W.heap.size W w') := zz fun W hb => peek_any W (h.fresh hb)
 have HN := zz (pk_lt ht (by decide))
 have HEV : Hid (∀ r, Ev (fun f => expr E f 0 (n + 1)) r -> Ev (fun f => Tr.stmt E f dep n) (r.bind fun x m => .ok (stz 5 (pk E n).at_ [] .nil x) m)) := zz fun r hr => Ev.step (h := fun f => (expr E f 0 (n + 1)).bind fun x m => .ok (stz 5 (pk E n).at_ [] .nil x) m) (fun f => by rw [stmt_eq, ht]; rfl) (Ev.map _ (fun _ _ e => by cases e) hr)
 have H0 := zz h
 have HE := zz hE
 have HLT := zz h.lt
 have HB0 := zz hb0
 have HRV0 := zz hrv0
 unfold tokV at hp0 HPP
 have hTT : (pk E n).text = tPrint := ht
 obtain ⟨T, hT⟩ : ∃ T, T = mkT tPrint := ⟨_, rfl⟩
 have hT' : T = mkT (pk E n).text := by rw [hTT]; exact hT
 have b0 : (T.toList == [99, 108, 111, 115, 101]) = false := by rw [hT, Lib.toList_data]; rfl
 have b1 : (T.toList == [112, 114, 105, 110, 116]) = true := by rw [hT, Lib.toList_data]; rfl
 rw [<- hT'] at hp0 HPP
 have HP0 := zz hp0
 clear h hE hb0 hrv0 hp0 hT' ht hTT hT
 have hf := tok_field2
 have hf1 := tok_field1
 go_enter Tryz.func150, Tryz.ntmps150
 go_wp2_with fail
 refine HP0.out.mono ?_
 rintro e w1 ⟨rfl, hb1⟩
 have hb01 : Below w.heap.size w w1 := HB0.out.trans (hb1.mono HB0.out.size)
 have hrv1 := HRV0.out.fresh hb1
 obtain ⟨sb, hsb⟩ : ∃ sb, sb = w1.heap.size := ⟨_, rfl⟩
 have hsbn : w.heap.size < sb := by rw [hsb]; exact hrv1.lt
 have HSB := zz hsbn
 have hB1 : Blk (w1.alloc (.cells #[.int .i64 0, .int .i64 ((pk E n).at_ : Nat), .string ⟨#[]⟩, .pointer none, .pointer none, .slice none 0 0, .slice none 0 0, .slice none 0 0] 49)) sb (st0 (pk E n).at_) := Blk.new' w1 (st0 (pk E n).at_) _ hsb
 have hb2 : Below w.heap.size w (w1.alloc (.cells #[.int .i64 0, .int .i64 ((pk E n).at_ : Nat), .string ⟨#[]⟩, .pointer none, .pointer none, .slice none 0 0, .slice none 0 0, .slice none 0 0] 49)) := hb01.alloc hb01.size _
 have hrv2 : Blk (w1.alloc (.cells #[.int .i64 0, .int .i64 ((pk E n).at_ : Nat), .string ⟨#[]⟩, .pointer none, .pointer none, .slice none 0 0, .slice none 0 0, .slice none 0 0] 49)) w.heap.size (st0 0) := hrv1.keeps (S := fun _ => False) ((Keeps.refl _ w1).alloc _) id
 have HP1 := zz (HPP.out _ hb2)
 have HB1 := zz hB1
 have HB2 := zz hb2
 have HRV2 := zz hrv2
 clear hB1 hb2 hrv2 hrv1 hb01 hb1 hsbn HPP HP0
 go_wp2_with fail
 rw [<- hsb]
 clear hsb
 refine HP1.out.mono ?_
 rintro e w2 ⟨rfl, hb3⟩
 have HBs := zz (HB1.out.fresh hb3)
 have HRVs := zz (HRV2.out.fresh hb3)
 have HBW : Hid (Below w.heap.size w w2) := zz (HB2.out.trans (hb3.mono HB2.out.size))
 clear hb3 HB1 HRV2 HB2 HP1
 have hn := HN.out
 go_wp2_with fail
 refine (skip_tok w2 (H0.out.fresh HBW.out) hn).mono ?_
 rintro e w3 ⟨rfl, hr3, hk3⟩
 clear hn
 have hne3 : ¬ sb = rb := by have := HSB.out; have := HLT.out; omega
 have hne4 : ¬ w.heap.size = rb := by have := HLT.out; omega
 have HBt0 := zz (HBs.out.keeps hk3 hne3)
 have HRVt0 := zz (HRVs.out.keeps hk3 hne4)
 have HR3 := zz hr3
 have HK3 : Hid (Keeps (fun b => b = rb) w w3) := zz ((Keeps.of_new HBW.out).trans hk3)
 have HN3 := zz hne3
 have HN4 := zz hne4
 have HE3 := zz (HE.out.own HK3.out)
 clear hr3 hk3 hne3 hne4
 unfold tokV
 generalize mkT (pk E n).text = TT
 have HXP := zz (RExpr (dd := 0) (Nat.zero_le _) (n + 1) w3 HR3.out HE3.out)
 go_wp2_with fail
 refine HXP.out.mono ?_
 rintro e w4 ⟨r, hev, hsay⟩
 have hev2 := zz (HEV.out r hev)
 cases r with
 | out => exact hsay.elim
 | bad k a =>
  have hsay' : Threw w3 w4 rb k a e := hsay
  obtain ⟨b, rfl⟩ := threw_panic hsay'
  exact ⟨rfl, _, hev2.out, hsay'.own HLT.out HK3.out⟩
 | ok x m =>
  obtain ⟨v, rfl, hx, hr4, hk4⟩ := hsay
  obtain ⟨o, rfl⟩ := ex_ptr hx
  have HBt := zz (HBt0.out.keeps hk4 HN3.out)
  have HRV := zz (HRVt0.out.keeps hk4 HN4.out)
  have HRt := zz hr4
  have HKt := zz (HK3.out.trans hk4)
  have HEVt : Hid (Ev (fun f => Tr.stmt E f dep n) (.ok (stz 5 (pk E n).at_ [] .nil x) m)) := hev2
  have HSC : Hid (StC w4 (fun b => sb < b) (st1 5 (pk E n).at_ [] none o) (stz 5 (pk E n).at_ [] .nil x)) := zz (stC_one rfl (ExIn.mono (fun b _ e => by have h1 : w3.heap.size <= b := e; have := HBt0.out.lt; show sb < b; omega) _ _ hx))
  clear hx hr4 hk4 hev hev2
  have c0 := HBt.out.at_ 0 _ rfl
  have c1 := HBt.out.at_ 1 _ rfl
  have c2 := HBt.out.at_ 2 _ rfl
  have c3 := HBt.out.at_ 3 _ rfl
  have c4 := HBt.out.at_ 4 _ rfl
  have c5 := HBt.out.at_ 5 _ rfl
  have c6 := HBt.out.at_ 6 _ rfl
  have c7 := HBt.out.at_ 7 _ rfl
  have z0 := HBt.out.free 0
  have z4 := HBt.out.free 4
  have r0 := HRV.out.at_ 0 _ rfl
  have y0 := HRV.out.free 0
  have r1 := HRV.out.at_ 1 _ rfl
  have y1 := HRV.out.free 1
  have r2 := HRV.out.at_ 2 _ rfl
  have y2 := HRV.out.free 2
  have r3 := HRV.out.at_ 3 _ rfl
  have y3 := HRV.out.free 3
  have r4 := HRV.out.at_ 4 _ rfl
  have y4 := HRV.out.free 4
  have r5 := HRV.out.at_ 5 _ rfl
  have y5 := HRV.out.free 5
  have r6 := HRV.out.at_ 6 _ rfl
  have y6 := HRV.out.free 6
  have r7 := HRV.out.at_ 7 _ rfl
  have y7 := HRV.out.free 7
  have hne : w.heap.size ≠ sb := by have := HSB.out; omega
  have hne2 : sb ≠ w.heap.size := fun e => hne e.symm
  have HSB2 := zz hne
  go_wp2_with fail
  have hks : Keeps (fun b => b = sb \/ b = w.heap.size) w4 ((((((((((w4.setCell ⟨sb, 0, none⟩ (.int .i64 5)).setCell ⟨sb, 4, none⟩ (.pointer o)).setCell ⟨w.heap.size, 0, none⟩ (.int .i64 5)).setCell ⟨w.heap.size, 1, none⟩ (.int .i64 ((pk E n).at_ : Nat))).setCell ⟨w.heap.size, 2, none⟩ (.string (mkT []))).setCell ⟨w.heap.size, 3, none⟩ (.pointer none)).setCell ⟨w.heap.size, 4, none⟩ (.pointer o)).setCell ⟨w.heap.size, 5, none⟩ (.slice none 0 0)).setCell ⟨w.heap.size, 6, none⟩ (.slice none 0 0)).setCell ⟨w.heap.size, 7, none⟩ (.slice none 0 0)) := ((((((((((Keeps.refl (fun b => b = sb \/ b = w.heap.size) w4).setCell (S := fun b => b = sb \/ b = w.heap.size) (p := ⟨sb, 0, none⟩) (Or.inl (Or.inl rfl)) (.int .i64 5)).setCell (S := fun b => b = sb \/ b = w.heap.size) (p := ⟨sb, 4, none⟩) (Or.inl (Or.inl rfl)) (.pointer o)).setCell (S := fun b => b = sb \/ b = w.heap.size) (p := ⟨w.heap.size, 0, none⟩) (Or.inl (Or.inr rfl)) (.int .i64 5)).setCell (S := fun b => b = sb \/ b = w.heap.size) (p := ⟨w.heap.size, 1, none⟩) (Or.inl (Or.inr rfl)) (.int .i64 ((pk E n).at_ : Nat))).setCell (S := fun b => b = sb \/ b = w.heap.size) (p := ⟨w.heap.size, 2, none⟩) (Or.inl (Or.inr rfl)) (.string (mkT []))).setCell (S := fun b => b = sb \/ b = w.heap.size) (p := ⟨w.heap.size, 3, none⟩) (Or.inl (Or.inr rfl)) (.pointer none)).setCell (S := fun b => b = sb \/ b = w.heap.size) (p := ⟨w.heap.size, 4, none⟩) (Or.inl (Or.inr rfl)) (.pointer o)).setCell (S := fun b => b = sb \/ b = w.heap.size) (p := ⟨w.heap.size, 5, none⟩) (Or.inl (Or.inr rfl)) (.slice none 0 0)).setCell (S := fun b => b = sb \/ b = w.heap.size) (p := ⟨w.heap.size, 6, none⟩) (Or.inl (Or.inr rfl)) (.slice none 0 0)).setCell (S := fun b => b = sb \/ b = w.heap.size) (p := ⟨w.heap.size, 7, none⟩) (Or.inl (Or.inr rfl)) (.slice none 0 0)
  have hfin := st_final HSC.out HRt.out HKt.out hks HSB.out HLT.out
  refine bodyPost_ret (v := .agg #[.int .i64 5, .int .i64 ((pk E n).at_ : Nat), .string (mkT []), .pointer none, .pointer o, .slice none 0 0, .slice none 0 0, .slice none 0 0]) (by simp [results, Tryz.results150, go_sem, r0, r1, r2, r3, r4, r5, r6, r7]) rfl ⟨.ok (stz 5 (pk E n).at_ [] .nil x) _, HEVt.out, _, rfl, ⟨_, rfl, hfin.1⟩, hfin.2.1, hfin.2.2⟩
theorem stmt_sleep_any {dep : Nat} (w : World) (h : RdAt w rb tv E n dep) (hE : TEnv rb E w) (ht : (pk E n).text = tSleep) : Calls Tryz.prog 150 #[.pointer (some ⟨rb, 0, none⟩)] w fun e w' => ∃ r, Ev (fun f => Tr.stmt E f dep n) r /\ Says StV1 w w' rb tv E dep r e := by
 have hb0 : Below w.heap.size w (w.alloc (.cells #[.int .i64 0, .int .i64 0, .string ⟨#[]⟩, .pointer none, .pointer none, .slice none 0 0, .slice none 0 0, .slice none 0 0] 49)) := ((Keeps.refl (fun _ => False) w).alloc _).below (Nat.le_refl _) (fun _ _ e => e.elim)
 have hrv0 : Blk (w.alloc (.cells #[.int .i64 0, .int .i64 0, .string ⟨#[]⟩, .pointer none, .pointer none, .slice none 0 0, .slice none 0 0, .slice none 0 0] 49)) w.heap.size (st0 0) := Blk.new' w (st0 0) _ rfl
 have hp0 := peek_any _ (h.fresh hb0)
 have HPP : Hid (∀ W, Below w.heap.size w W -> Calls Tryz.prog 88 #[.pointer (some ⟨rb, 0, none⟩)] W fun e w' => e = .returned (tokV (pk E n)) /\ Below W.heap.size W w') := zz fun W hb => peek_any W (h.fresh hb)
 have HN := zz (pk_lt ht (by decide))
 have HEV : Hid (∀ r, Ev (fun f => expr E f 0 (n + 1)) r -> Ev (fun f => Tr.stmt E f dep n) (r.bind fun x m => .ok (stz 6 (pk E n).at_ [] .nil x) m)) := zz fun r hr => Ev.step (h := fun f => (expr E f 0 (n + 1)).bind fun x m => .ok (stz 6 (pk E n).at_ [] .nil x) m) (fun f => by rw [stmt_eq, ht]; rfl) (Ev.map _ (fun _ _ e => by cases e) hr)
 have H0 := zz h
 have HE := zz hE
 have HLT := zz h.lt
 have HB0 := zz hb0
 have HRV0 := zz hrv0
 unfold tokV at hp0 HPP
 have hTT : (pk E n).text = tSleep := ht
 obtain ⟨T, hT⟩ : ∃ T, T = mkT tSleep := ⟨_, rfl⟩
 have hT' : T = mkT (pk E n).text := by rw [hTT]; exact hT
 have b0 : (T.toList == [99, 108, 111, 115, 101]) = false := by rw [hT, Lib.toList_data]; rfl
 have b1 : (T.toList == [112, 114, 105, 110, 116]) = false := by rw [hT, Lib.toList_data]; rfl
 have b2 : (T.toList == [115, 108, 101, 101, 112]) = true := by rw [hT, Lib.toList_data]; rfl
 rw [<- hT'] at hp0 HPP
 have HP0 := zz hp0
 clear h hE hb0 hrv0 hp0 hT' ht hTT hT
 have hf := tok_field2
 have hf1 := tok_field1
 go_enter Tryz.func150, Tryz.ntmps150
 go_wp2_with fail
 refine HP0.out.mono ?_
 rintro e w1 ⟨rfl, hb1⟩
 have hb01 : Below w.heap.size w w1 := HB0.out.trans (hb1.mono HB0.out.size)
 have hrv1 := HRV0.out.fresh hb1
 obtain ⟨sb, hsb⟩ : ∃ sb, sb = w1.heap.size := ⟨_, rfl⟩
 have hsbn : w.heap.size < sb := by rw [hsb]; exact hrv1.lt
 have HSB := zz hsbn
 have hB1 : Blk (w1.alloc (.cells #[.int .i64 0, .int .i64 ((pk E n).at_ : Nat), .string ⟨#[]⟩, .pointer none, .pointer none, .slice none 0 0, .slice none 0 0, .slice none 0 0] 49)) sb (st0 (pk E n).at_) := Blk.new' w1 (st0 (pk E n).at_) _ hsb
 have hb2 : Below w.heap.size w (w1.alloc (.cells #[.int .i64 0, .int .i64 ((pk E n).at_ : Nat), .string ⟨#[]⟩, .pointer none, .pointer none, .slice none 0 0, .slice none 0 0, .slice none 0 0] 49)) := hb01.alloc hb01.size _
 have hrv2 : Blk (w1.alloc (.cells #[.int .i64 0, .int .i64 ((pk E n).at_ : Nat), .string ⟨#[]⟩, .pointer none, .pointer none, .slice none 0 0, .slice none 0 0, .slice none 0 0] 49)) w.heap.size (st0 0) := hrv1.keeps (S := fun _ => False) ((Keeps.refl _ w1).alloc _) id
 have HP1 := zz (HPP.out _ hb2)
 have HB1 := zz hB1
 have HB2 := zz hb2
 have HRV2 := zz hrv2
 clear hB1 hb2 hrv2 hrv1 hb01 hb1 hsbn HPP HP0
 go_wp2_with fail
 rw [<- hsb]
 clear hsb
 refine HP1.out.mono ?_
 rintro e w2 ⟨rfl, hb3⟩
 have HBs := zz (HB1.out.fresh hb3)
 have HRVs := zz (HRV2.out.fresh hb3)
 have HBW : Hid (Below w.heap.size w w2) := zz (HB2.out.trans (hb3.mono HB2.out.size))
 clear hb3 HB1 HRV2 HB2 HP1
 have hn := HN.out
 go_wp2_with fail
 refine (skip_tok w2 (H0.out.fresh HBW.out) hn).mono ?_
 rintro e w3 ⟨rfl, hr3, hk3⟩
 clear hn
 have hne3 : ¬ sb = rb := by have := HSB.out; have := HLT.out; omega
 have hne4 : ¬ w.heap.size = rb := by have := HLT.out; omega
 have HBt0 := zz (HBs.out.keeps hk3 hne3)
 have HRVt0 := zz (HRVs.out.keeps hk3 hne4)
 have HR3 := zz hr3
 have HK3 : Hid (Keeps (fun b => b = rb) w w3) := zz ((Keeps.of_new HBW.out).trans hk3)
 have HN3 := zz hne3
 have HN4 := zz hne4
 have HE3 := zz (HE.out.own HK3.out)
 clear hr3 hk3 hne3 hne4
 unfold tokV
 generalize mkT (pk E n).text = TT
 have HXP := zz (RExpr (dd := 0) (Nat.zero_le _) (n + 1) w3 HR3.out HE3.out)
 go_wp2_with fail
 refine HXP.out.mono ?_
 rintro e w4 ⟨r, hev, hsay⟩
 have hev2 := zz (HEV.out r hev)
 cases r with
 | out => exact hsay.elim
 | bad k a =>
  have hsay' : Threw w3 w4 rb k a e := hsay
  obtain ⟨b, rfl⟩ := threw_panic hsay'
  exact ⟨rfl, _, hev2.out, hsay'.own HLT.out HK3.out⟩
 | ok x m =>
  obtain ⟨v, rfl, hx, hr4, hk4⟩ := hsay
  obtain ⟨o, rfl⟩ := ex_ptr hx
  have HBt := zz (HBt0.out.keeps hk4 HN3.out)
  have HRV := zz (HRVt0.out.keeps hk4 HN4.out)
  have HRt := zz hr4
  have HKt := zz (HK3.out.trans hk4)
  have HEVt : Hid (Ev (fun f => Tr.stmt E f dep n) (.ok (stz 6 (pk E n).at_ [] .nil x) m)) := hev2
  have HSC : Hid (StC w4 (fun b => sb < b) (st1 6 (pk E n).at_ [] none o) (stz 6 (pk E n).at_ [] .nil x)) := zz (stC_one rfl (ExIn.mono (fun b _ e => by have h1 : w3.heap.size <= b := e; have := HBt0.out.lt; show sb < b; omega) _ _ hx))
  clear hx hr4 hk4 hev hev2
  have c0 := HBt.out.at_ 0 _ rfl
  have c1 := HBt.out.at_ 1 _ rfl
  have c2 := HBt.out.at_ 2 _ rfl
  have c3 := HBt.out.at_ 3 _ rfl
  have c4 := HBt.out.at_ 4 _ rfl
  have c5 := HBt.out.at_ 5 _ rfl
  have c6 := HBt.out.at_ 6 _ rfl
  have c7 := HBt.out.at_ 7 _ rfl
  have z0 := HBt.out.free 0
  have z4 := HBt.out.free 4
  have r0 := HRV.out.at_ 0 _ rfl
  have y0 := HRV.out.free 0
  have r1 := HRV.out.at_ 1 _ rfl
  have y1 := HRV.out.free 1
  have r2 := HRV.out.at_ 2 _ rfl
  have y2 := HRV.out.free 2
  have r3 := HRV.out.at_ 3 _ rfl
  have y3 := HRV.out.free 3
  have r4 := HRV.out.at_ 4 _ rfl
  have y4 := HRV.out.free 4
  have r5 := HRV.out.at_ 5 _ rfl
  have y5 := HRV.out.free 5
  have r6 := HRV.out.at_ 6 _ rfl
  have y6 := HRV.out.free 6
  have r7 := HRV.out.at_ 7 _ rfl
  have y7 := HRV.out.free 7
  have hne : w.heap.size ≠ sb := by have := HSB.out; omega
  have hne2 : sb ≠ w.heap.size := fun e => hne e.symm
  have HSB2 := zz hne
  go_wp2_with fail
  have hks : Keeps (fun b => b = sb \/ b = w.heap.size) w4 ((((((((((w4.setCell ⟨sb, 0, none⟩ (.int .i64 6)).setCell ⟨sb, 4, none⟩ (.pointer o)).setCell ⟨w.heap.size, 0, none⟩ (.int .i64 6)).setCell ⟨w.heap.size, 1, none⟩ (.int .i64 ((pk E n).at_ : Nat))).setCell ⟨w.heap.size, 2, none⟩ (.string (mkT []))).setCell ⟨w.heap.size, 3, none⟩ (.pointer none)).setCell ⟨w.heap.size, 4, none⟩ (.pointer o)).setCell ⟨w.heap.size, 5, none⟩ (.slice none 0 0)).setCell ⟨w.heap.size, 6, none⟩ (.slice none 0 0)).setCell ⟨w.heap.size, 7, none⟩ (.slice none 0 0)) := ((((((((((Keeps.refl (fun b => b = sb \/ b = w.heap.size) w4).setCell (S := fun b => b = sb \/ b = w.heap.size) (p := ⟨sb, 0, none⟩) (Or.inl (Or.inl rfl)) (.int .i64 6)).setCell (S := fun b => b = sb \/ b = w.heap.size) (p := ⟨sb, 4, none⟩) (Or.inl (Or.inl rfl)) (.pointer o)).setCell (S := fun b => b = sb \/ b = w.heap.size) (p := ⟨w.heap.size, 0, none⟩) (Or.inl (Or.inr rfl)) (.int .i64 6)).setCell (S := fun b => b = sb \/ b = w.heap.size) (p := ⟨w.heap.size, 1, none⟩) (Or.inl (Or.inr rfl)) (.int .i64 ((pk E n).at_ : Nat))).setCell (S := fun b => b = sb \/ b = w.heap.size) (p := ⟨w.heap.size, 2, none⟩) (Or.inl (Or.inr rfl)) (.string (mkT []))).setCell (S := fun b => b = sb \/ b = w.heap.size) (p := ⟨w.heap.size, 3, none⟩) (Or.inl (Or.inr rfl)) (.pointer none)).setCell (S := fun b => b = sb \/ b = w.heap.size) (p := ⟨w.heap.size, 4, none⟩) (Or.inl (Or.inr rfl)) (.pointer o)).setCell (S := fun b => b = sb \/ b = w.heap.size) (p := ⟨w.heap.size, 5, none⟩) (Or.inl (Or.inr rfl)) (.slice none 0 0)).setCell (S := fun b => b = sb \/ b = w.heap.size) (p := ⟨w.heap.size, 6, none⟩) (Or.inl (Or.inr rfl)) (.slice none 0 0)).setCell (S := fun b => b = sb \/ b = w.heap.size) (p := ⟨w.heap.size, 7, none⟩) (Or.inl (Or.inr rfl)) (.slice none 0 0)
  have hfin := st_final HSC.out HRt.out HKt.out hks HSB.out HLT.out
  refine bodyPost_ret (v := .agg #[.int .i64 6, .int .i64 ((pk E n).at_ : Nat), .string (mkT []), .pointer none, .pointer o, .slice none 0 0, .slice none 0 0, .slice none 0 0]) (by simp [results, Tryz.results150, go_sem, r0, r1, r2, r3, r4, r5, r6, r7]) rfl ⟨.ok (stz 6 (pk E n).at_ [] .nil x) _, HEVt.out, _, rfl, ⟨_, rfl, hfin.1⟩, hfin.2.1, hfin.2.2⟩
theorem stmt_go_any {dep : Nat} (w : World) (h : RdAt w rb tv E n dep) (hE : TEnv rb E w) (ht : (pk E n).text = tGo) : Calls Tryz.prog 150 #[.pointer (some ⟨rb, 0, none⟩)] w fun e w' => ∃ r, Ev (fun f => Tr.stmt E f dep n) r /\ Says StV1 w w' rb tv E dep r e := by
 have hb0 : Below w.heap.size w (w.alloc (.cells #[.int .i64 0, .int .i64 0, .string ⟨#[]⟩, .pointer none, .pointer none, .slice none 0 0, .slice none 0 0, .slice none 0 0] 49)) := ((Keeps.refl (fun _ => False) w).alloc _).below (Nat.le_refl _) (fun _ _ e => e.elim)
 have hrv0 : Blk (w.alloc (.cells #[.int .i64 0, .int .i64 0, .string ⟨#[]⟩, .pointer none, .pointer none, .slice none 0 0, .slice none 0 0, .slice none 0 0] 49)) w.heap.size (st0 0) := Blk.new' w (st0 0) _ rfl
 have hp0 := peek_any _ (h.fresh hb0)
 have HPP : Hid (∀ W, Below w.heap.size w W -> Calls Tryz.prog 88 #[.pointer (some ⟨rb, 0, none⟩)] W fun e w' => e = .returned (tokV (pk E n)) /\ Below W.heap.size W w') := zz fun W hb => peek_any W (h.fresh hb)
 have HN := zz (pk_lt ht (by decide))
 have HEV : Hid (∀ r, Ev (fun f => (takeKind E 1 (n + 1)).bind fun t m => (Tr.call E f 0 t m).bind fun x m2 => .ok (stz 7 (pk E n).at_ [] .nil x) m2) r -> Ev (fun f => Tr.stmt E f dep n) r) := zz fun r hr => Ev.step (h := fun f => (takeKind E 1 (n + 1)).bind fun t m => (Tr.call E f 0 t m).bind fun x m2 => .ok (stz 7 (pk E n).at_ [] .nil x) m2) (fun f => by rw [stmt_eq, ht]; rfl) hr
 have H0 := zz h
 have HE := zz hE
 have HLT := zz h.lt
 have HB0 := zz hb0
 have HRV0 := zz hrv0
 unfold tokV at hp0 HPP
 have hTT : (pk E n).text = tGo := ht
 obtain ⟨T, hT⟩ : ∃ T, T = mkT tGo := ⟨_, rfl⟩
 have hT' : T = mkT (pk E n).text := by rw [hTT]; exact hT
 have b0 : (T.toList == [99, 108, 111, 115, 101]) = false := by rw [hT, Lib.toList_data]; rfl
 have b1 : (T.toList == [112, 114, 105, 110, 116]) = false := by rw [hT, Lib.toList_data]; rfl
 have b2 : (T.toList == [115, 108, 101, 101, 112]) = false := by rw [hT, Lib.toList_data]; rfl
 have b3 : (T.toList == [103, 111]) = true := by rw [hT, Lib.toList_data]; rfl
 rw [<- hT'] at hp0 HPP
 have HP0 := zz hp0
 clear h hE hb0 hrv0 hp0 hT' ht hTT hT
 have hf := tok_field2
 have hf1 := tok_field1
 go_enter Tryz.func150, Tryz.ntmps150
 go_wp2_with fail
 refine HP0.out.mono ?_
 rintro e w1 ⟨rfl, hb1⟩
 have hb01 : Below w.heap.size w w1 := HB0.out.trans (hb1.mono HB0.out.size)
 have hrv1 := HRV0.out.fresh hb1
 obtain ⟨sb, hsb⟩ : ∃ sb, sb = w1.heap.size := ⟨_, rfl⟩
 have hsbn : w.heap.size < sb := by rw [hsb]; exact hrv1.lt
 have HSB := zz hsbn
 have hB1 : Blk (w1.alloc (.cells #[.int .i64 0, .int .i64 ((pk E n).at_ : Nat), .string ⟨#[]⟩, .pointer none, .pointer none, .slice none 0 0, .slice none 0 0, .slice none 0 0] 49)) sb (st0 (pk E n).at_) := Blk.new' w1 (st0 (pk E n).at_) _ hsb
 have hb2 : Below w.heap.size w (w1.alloc (.cells #[.int .i64 0, .int .i64 ((pk E n).at_ : Nat), .string ⟨#[]⟩, .pointer none, .pointer none, .slice none 0 0, .slice none 0 0, .slice none 0 0] 49)) := hb01.alloc hb01.size _
 have hrv2 : Blk (w1.alloc (.cells #[.int .i64 0, .int .i64 ((pk E n).at_ : Nat), .string ⟨#[]⟩, .pointer none, .pointer none, .slice none 0 0, .slice none 0 0, .slice none 0 0] 49)) w.heap.size (st0 0) := hrv1.keeps (S := fun _ => False) ((Keeps.refl _ w1).alloc _) id
 have HP1 := zz (HPP.out _ hb2)
 have HB1 := zz hB1
 have HB2 := zz hb2
 have HRV2 := zz hrv2
 clear hB1 hb2 hrv2 hrv1 hb01 hb1 hsbn HPP HP0
 go_wp2_with fail
 rw [<- hsb]
 clear hsb
 refine HP1.out.mono ?_
 rintro e w2 ⟨rfl, hb3⟩
 have HBs := zz (HB1.out.fresh hb3)
 have HRVs := zz (HRV2.out.fresh hb3)
 have HBW : Hid (Below w.heap.size w w2) := zz (HB2.out.trans (hb3.mono HB2.out.size))
 clear hb3 HB1 HRV2 HB2 HP1
 have hn := HN.out
 go_wp2_with fail
 refine (skip_tok w2 (H0.out.fresh HBW.out) hn).mono ?_
 rintro e w3 ⟨rfl, hr3, hk3⟩
 clear hn
 have hne3 : ¬ sb = rb := by have := HSB.out; have := HLT.out; omega
 have hne4 : ¬ w.heap.size = rb := by have := HLT.out; omega
 have HBt0 := zz (HBs.out.keeps hk3 hne3)
 have HRVt0 := zz (HRVs.out.keeps hk3 hne4)
 have HR3 := zz hr3
 have HK3 : Hid (Keeps (fun b => b = rb) w w3) := zz ((Keeps.of_new HBW.out).trans hk3)
 have HN3 := zz hne3
 have HN4 := zz hne4
 have HE3 := zz (HE.out.own HK3.out)
 clear hr3 hk3 hne3 hne4
 unfold tokV
 generalize mkT (pk E n).text = TT
 have HTK := zz (takeKind_tok 1 (by decide) w3 HR3.out)
 go_wp2_with fail
 cases ht1 : takeKind E 1 (n + 1) with
 | out => exact absurd ht1 (takeKind_ne E _ _)
 | bad k a =>
  rw [ht1] at HTK
  refine HTK.out.mono ?_
  rintro e w4 hth
  have hth2 := Threw.own hth HLT.out HK3.out
  obtain ⟨b, rfl⟩ := threw_panic hth
  exact ⟨rfl, .bad k a, HEV.out _ (by rw [ht1]; exact Ev.pure (fun e => by cases e) fun _ => rfl), hth2⟩
 | ok t1 m1 =>
  rw [ht1] at HTK
  have HTT := zz ht1
  clear ht1
  refine HTK.out.mono ?_
  rintro e w4 ⟨v4, rfl, rfl, hr4, hk4⟩
  have HB4 := zz (HBt0.out.keeps hk4 HN3.out)
  have HRV4 := zz (HRVt0.out.keeps hk4 HN4.out)
  have HK4 := zz (HK3.out.trans hk4)
  have HXP := zz (RCall (dd := 0) (by decide) t1 m1 w4 hr4 (HE3.out.own hk4))
  clear hr4 hk4
  go_wp2_with fail
  refine HXP.out.mono ?_
  rintro e w5 ⟨r, hev, hsay⟩
  have hev2 : Hid (Ev (fun f => Tr.stmt E f dep n) (r.bind fun x m2 => .ok (stz 7 (pk E n).at_ [] .nil x) m2)) := zz (HEV.out _ (by rw [HTT.out]; exact Ev.map _ (fun _ _ e => by cases e) hev))
  cases r with
  | out => exact hsay.elim
  | bad k a =>
   have hsay' : Threw w4 w5 rb k a e := hsay
   obtain ⟨b, rfl⟩ := threw_panic hsay'
   exact ⟨rfl, _, hev2.out, hsay'.own HLT.out HK4.out⟩
  | ok x m =>
   obtain ⟨v, rfl, hx, hr5, hk5⟩ := hsay
   obtain ⟨o, rfl⟩ := ex_ptr hx
   have HBt := zz (HB4.out.keeps hk5 HN3.out)
   have HRV := zz (HRV4.out.keeps hk5 HN4.out)
   have HRt := zz hr5
   have HKt := zz (HK4.out.trans hk5)
   have HEVt : Hid (Ev (fun f => Tr.stmt E f dep n) (.ok (stz 7 (pk E n).at_ [] .nil x) m)) := hev2
   have HSC : Hid (StC w5 (fun b => sb < b) (st1 7 (pk E n).at_ [] none o) (stz 7 (pk E n).at_ [] .nil x)) := zz (stC_one rfl (ExIn.mono (fun b _ e => by have h1 : w4.heap.size <= b := e; have := HB4.out.lt; show sb < b; omega) _ _ hx))
   clear hx hr5 hk5 hev hev2
   have c0 := HBt.out.at_ 0 _ rfl
   have c1 := HBt.out.at_ 1 _ rfl
   have c2 := HBt.out.at_ 2 _ rfl
   have c3 := HBt.out.at_ 3 _ rfl
   have c4 := HBt.out.at_ 4 _ rfl
   have c5 := HBt.out.at_ 5 _ rfl
   have c6 := HBt.out.at_ 6 _ rfl
   have c7 := HBt.out.at_ 7 _ rfl
   have z0 := HBt.out.free 0
   have z4 := HBt.out.free 4
   have r0 := HRV.out.at_ 0 _ rfl
   have y0 := HRV.out.free 0
   have r1 := HRV.out.at_ 1 _ rfl
   have y1 := HRV.out.free 1
   have r2 := HRV.out.at_ 2 _ rfl
   have y2 := HRV.out.free 2
   have r3 := HRV.out.at_ 3 _ rfl
   have y3 := HRV.out.free 3
   have r4 := HRV.out.at_ 4 _ rfl
   have y4 := HRV.out.free 4
   have r5 := HRV.out.at_ 5 _ rfl
   have y5 := HRV.out.free 5
   have r6 := HRV.out.at_ 6 _ rfl
   have y6 := HRV.out.free 6
   have r7 := HRV.out.at_ 7 _ rfl
   have y7 := HRV.out.free 7
   have hne : w.heap.size ≠ sb := by have := HSB.out; omega
   have hne2 : sb ≠ w.heap.size := fun e => hne e.symm
   have HSB2 := zz hne
   go_wp2_with fail
   have hks : Keeps (fun b => b = sb \/ b = w.heap.size) w5 ((((((((((w5.setCell ⟨sb, 0, none⟩ (.int .i64 7)).setCell ⟨sb, 4, none⟩ (.pointer o)).setCell ⟨w.heap.size, 0, none⟩ (.int .i64 7)).setCell ⟨w.heap.size, 1, none⟩ (.int .i64 ((pk E n).at_ : Nat))).setCell ⟨w.heap.size, 2, none⟩ (.string (mkT []))).setCell ⟨w.heap.size, 3, none⟩ (.pointer none)).setCell ⟨w.heap.size, 4, none⟩ (.pointer o)).setCell ⟨w.heap.size, 5, none⟩ (.slice none 0 0)).setCell ⟨w.heap.size, 6, none⟩ (.slice none 0 0)).setCell ⟨w.heap.size, 7, none⟩ (.slice none 0 0)) := ((((((((((Keeps.refl (fun b => b = sb \/ b = w.heap.size) w5).setCell (S := fun b => b = sb \/ b = w.heap.size) (p := ⟨sb, 0, none⟩) (Or.inl (Or.inl rfl)) (.int .i64 7)).setCell (S := fun b => b = sb \/ b = w.heap.size) (p := ⟨sb, 4, none⟩) (Or.inl (Or.inl rfl)) (.pointer o)).setCell (S := fun b => b = sb \/ b = w.heap.size) (p := ⟨w.heap.size, 0, none⟩) (Or.inl (Or.inr rfl)) (.int .i64 7)).setCell (S := fun b => b = sb \/ b = w.heap.size) (p := ⟨w.heap.size, 1, none⟩) (Or.inl (Or.inr rfl)) (.int .i64 ((pk E n).at_ : Nat))).setCell (S := fun b => b = sb \/ b = w.heap.size) (p := ⟨w.heap.size, 2, none⟩) (Or.inl (Or.inr rfl)) (.string (mkT []))).setCell (S := fun b => b = sb \/ b = w.heap.size) (p := ⟨w.heap.size, 3, none⟩) (Or.inl (Or.inr rfl)) (.pointer none)).setCell (S := fun b => b = sb \/ b = w.heap.size) (p := ⟨w.heap.size, 4, none⟩) (Or.inl (Or.inr rfl)) (.pointer o)).setCell (S := fun b => b = sb \/ b = w.heap.size) (p := ⟨w.heap.size, 5, none⟩) (Or.inl (Or.inr rfl)) (.slice none 0 0)).setCell (S := fun b => b = sb \/ b = w.heap.size) (p := ⟨w.heap.size, 6, none⟩) (Or.inl (Or.inr rfl)) (.slice none 0 0)).setCell (S := fun b => b = sb \/ b = w.heap.size) (p := ⟨w.heap.size, 7, none⟩) (Or.inl (Or.inr rfl)) (.slice none 0 0)
   have hfin := st_final HSC.out HRt.out HKt.out hks HSB.out HLT.out
   refine bodyPost_ret (v := .agg #[.int .i64 7, .int .i64 ((pk E n).at_ : Nat), .string (mkT []), .pointer none, .pointer o, .slice none 0 0, .slice none 0 0, .slice none 0 0]) (by simp [results, Tryz.results150, go_sem, r0, r1, r2, r3, r4, r5, r6, r7]) rfl ⟨.ok (stz 7 (pk E n).at_ [] .nil x) _, HEVt.out, _, rfl, ⟨_, rfl, hfin.1⟩, hfin.2.1, hfin.2.2⟩
theorem stmt_return_any {dep : Nat} (w : World) (h : RdAt w rb tv E n dep) (hE : TEnv rb E w) (ht : (pk E n).text = tReturn) : Calls Tryz.prog 150 #[.pointer (some ⟨rb, 0, none⟩)] w fun e w' => ∃ r, Ev (fun f => Tr.stmt E f dep n) r /\ Says StV1 w w' rb tv E dep r e := by
 have hb0 : Below w.heap.size w (w.alloc (.cells #[.int .i64 0, .int .i64 0, .string ⟨#[]⟩, .pointer none, .pointer none, .slice none 0 0, .slice none 0 0, .slice none 0 0] 49)) := ((Keeps.refl (fun _ => False) w).alloc _).below (Nat.le_refl _) (fun _ _ e => e.elim)
 have hrv0 : Blk (w.alloc (.cells #[.int .i64 0, .int .i64 0, .string ⟨#[]⟩, .pointer none, .pointer none, .slice none 0 0, .slice none 0 0, .slice none 0 0] 49)) w.heap.size (st0 0) := Blk.new' w (st0 0) _ rfl
 have hp0 := peek_any _ (h.fresh hb0)
 have HPP : Hid (∀ W, Below w.heap.size w W -> Calls Tryz.prog 88 #[.pointer (some ⟨rb, 0, none⟩)] W fun e w' => e = .returned (tokV (pk E n)) /\ Below W.heap.size W w') := zz fun W hb => peek_any W (h.fresh hb)
 have HEV : Hid (∀ r, Ev (fun f => retV E f n) r -> Ev (fun f => Tr.stmt E f dep n) r) := zz fun r hr => Ev.step (h := fun f => retV E f n) (fun f => by rw [stmt_eq, ht]; rfl) hr
 have HTX := zz ht
 have H0 := zz h
 have HE := zz hE
 have HLT := zz h.lt
 have HB0 := zz hb0
 have HRV0 := zz hrv0
 unfold tokV at hp0 HPP
 have hTT : (pk E n).text = tReturn := ht
 obtain ⟨T, hT⟩ : ∃ T, T = mkT tReturn := ⟨_, rfl⟩
 have hT' : T = mkT (pk E n).text := by rw [hTT]; exact hT
 have b0 : (T.toList == [99, 108, 111, 115, 101]) = false := by rw [hT, Lib.toList_data]; rfl
 have b1 : (T.toList == [112, 114, 105, 110, 116]) = false := by rw [hT, Lib.toList_data]; rfl
 have b2 : (T.toList == [115, 108, 101, 101, 112]) = false := by rw [hT, Lib.toList_data]; rfl
 have b3 : (T.toList == [103, 111]) = false := by rw [hT, Lib.toList_data]; rfl
 have b4 : (T.toList == [114, 101, 116, 117, 114, 110]) = true := by rw [hT, Lib.toList_data]; rfl
 rw [<- hT'] at hp0 HPP
 have HP0 := zz hp0
 clear h hE hb0 hrv0 hp0 hT' ht hTT hT
 have hf := tok_field2
 have hf1 := tok_field1
 go_enter Tryz.func150, Tryz.ntmps150
 go_wp2_with fail
 refine HP0.out.mono ?_
 rintro e w1 ⟨rfl, hb1⟩
 have hb01 : Below w.heap.size w w1 := HB0.out.trans (hb1.mono HB0.out.size)
 have hrv1 := HRV0.out.fresh hb1
 obtain ⟨sb, hsb⟩ : ∃ sb, sb = w1.heap.size := ⟨_, rfl⟩
 have hsbn : w.heap.size < sb := by rw [hsb]; exact hrv1.lt
 have HSB := zz hsbn
 have hB1 : Blk (w1.alloc (.cells #[.int .i64 0, .int .i64 ((pk E n).at_ : Nat), .string ⟨#[]⟩, .pointer none, .pointer none, .slice none 0 0, .slice none 0 0, .slice none 0 0] 49)) sb (st0 (pk E n).at_) := Blk.new' w1 (st0 (pk E n).at_) _ hsb
 have hb2 : Below w.heap.size w (w1.alloc (.cells #[.int .i64 0, .int .i64 ((pk E n).at_ : Nat), .string ⟨#[]⟩, .pointer none, .pointer none, .slice none 0 0, .slice none 0 0, .slice none 0 0] 49)) := hb01.alloc hb01.size _
 have hrv2 : Blk (w1.alloc (.cells #[.int .i64 0, .int .i64 ((pk E n).at_ : Nat), .string ⟨#[]⟩, .pointer none, .pointer none, .slice none 0 0, .slice none 0 0, .slice none 0 0] 49)) w.heap.size (st0 0) := hrv1.keeps (S := fun _ => False) ((Keeps.refl _ w1).alloc _) id
 have HP1 := zz (HPP.out _ hb2)
 have HB1 := zz hB1
 have HB2 := zz hb2
 have HRV2 := zz hrv2
 clear hB1 hb2 hrv2 hrv1 hb01 hb1 hsbn HPP HP0
 go_wp2_with fail
 rw [<- hsb]
 clear hsb
 refine HP1.out.mono ?_
 rintro e w2 ⟨rfl, hb3⟩
 have HBs := zz (HB1.out.fresh hb3)
 have HRVs := zz (HRV2.out.fresh hb3)
 have HBW : Hid (Below w.heap.size w w2) := zz (HB2.out.trans (hb3.mono HB2.out.size))
 clear hb3 HB1 HRV2 HB2 HP1
 have hrs : rb < sb := by have := HSB.out; have := HLT.out; omega
 have HXP := zz (giveBack_any w2 (H0.out.fresh HBW.out) (HE.out.fresh HBW.out) HBs.out hrs HTX.out)
 have HRS := zz hrs
 clear hrs
 go_wp2_with fail
 refine HXP.out.mono ?_
 rintro e w3 ⟨r, hev, hsay⟩
 cases r with
 | out => exact hsay.elim
 | bad k a =>
  have hsay' : Threw w2 w3 rb k a e := hsay
  obtain ⟨b, rfl⟩ := threw_panic hsay'
  exact ⟨rfl, _, HEV.out _ hev, hsay'.own HLT.out (Keeps.of_new HBW.out)⟩
 | ok s m =>
  obtain ⟨rfl, ⟨vs, hb3, hc3⟩, hr3, hk3⟩ := hsay
  cases s with
  | mk code at_ name dst val thn els css =>
  have hc3' := hc3
  obtain ⟨tv2, vv2, nv2, ev2, cv2, e2, hx1, hx2, hx3, _, hx5, _, hx7, _⟩ := hc3'
  obtain ⟨o1, rfl⟩ := ex_ptr hx1
  obtain ⟨o2, rfl⟩ := ex_ptr hx2
  obtain ⟨a3, l3, k3, rfl⟩ := hx3.form
  obtain ⟨a5, l5, k5, rfl⟩ := hx5.form
  obtain ⟨a7, l7, k7, rfl⟩ := hx7.form
  subst e2
  have HBt := zz hb3
  have HRV := zz (HRVs.out.keeps hk3 (fun e => by have := HSB.out; have := HLT.out; omega))
  have HRt := zz hr3
  have HKt : Hid (Keeps (fun b => b = rb) w w3) := zz ((Keeps.of_new (S := fun b => b = rb) HBW.out).trans' hk3 (fun i hi e => by have := HSB.out; omega))
  have HEVt := zz (HEV.out _ hev)
  have HSC := zz (StC.mono (G := fun b => sb < b) (fun b _ e => by have h1 : w2.heap.size <= b := e; have := HBs.out.lt; omega) hc3)
  clear hx1 hx2 hx3 hx5 hx7 hb3 hc3 hr3 hk3 hev
  have c0 := HBt.out.at_ 0 _ rfl
  have c1 := HBt.out.at_ 1 _ rfl
  have c2 := HBt.out.at_ 2 _ rfl
  have c3 := HBt.out.at_ 3 _ rfl
  have c4 := HBt.out.at_ 4 _ rfl
  have c5 := HBt.out.at_ 5 _ rfl
  have c6 := HBt.out.at_ 6 _ rfl
  have c7 := HBt.out.at_ 7 _ rfl
  have r0 := HRV.out.at_ 0 _ rfl
  have y0 := HRV.out.free 0
  have r1 := HRV.out.at_ 1 _ rfl
  have y1 := HRV.out.free 1
  have r2 := HRV.out.at_ 2 _ rfl
  have y2 := HRV.out.free 2
  have r3 := HRV.out.at_ 3 _ rfl
  have y3 := HRV.out.free 3
  have r4 := HRV.out.at_ 4 _ rfl
  have y4 := HRV.out.free 4
  have r5 := HRV.out.at_ 5 _ rfl
  have y5 := HRV.out.free 5
  have r6 := HRV.out.at_ 6 _ rfl
  have y6 := HRV.out.free 6
  have r7 := HRV.out.at_ 7 _ rfl
  have y7 := HRV.out.free 7
  have hne : w.heap.size ≠ sb := by have := HSB.out; omega
  have hne2 : sb ≠ w.heap.size := fun e => hne e.symm
  have HSB2 := zz hne
  go_wp2_with fail
  have hks : Keeps (fun b => b = sb \/ b = w.heap.size) w3 ((((((((w3.setCell ⟨w.heap.size, 0, none⟩ (.int .i64 (code : Nat))).setCell ⟨w.heap.size, 1, none⟩ (.int .i64 (at_ : Nat))).setCell ⟨w.heap.size, 2, none⟩ (.string (mkT name))).setCell ⟨w.heap.size, 3, none⟩ (.pointer o1)).setCell ⟨w.heap.size, 4, none⟩ (.pointer o2)).setCell ⟨w.heap.size, 5, none⟩ (.slice a3 l3 k3)).setCell ⟨w.heap.size, 6, none⟩ (.slice a5 l5 k5)).setCell ⟨w.heap.size, 7, none⟩ (.slice a7 l7 k7)) := ((((((((Keeps.refl (fun b => b = sb \/ b = w.heap.size) w3).setCell (S := fun b => b = sb \/ b = w.heap.size) (p := ⟨w.heap.size, 0, none⟩) (Or.inl (Or.inr rfl)) (.int .i64 (code : Nat))).setCell (S := fun b => b = sb \/ b = w.heap.size) (p := ⟨w.heap.size, 1, none⟩) (Or.inl (Or.inr rfl)) (.int .i64 (at_ : Nat))).setCell (S := fun b => b = sb \/ b = w.heap.size) (p := ⟨w.heap.size, 2, none⟩) (Or.inl (Or.inr rfl)) (.string (mkT name))).setCell (S := fun b => b = sb \/ b = w.heap.size) (p := ⟨w.heap.size, 3, none⟩) (Or.inl (Or.inr rfl)) (.pointer o1)).setCell (S := fun b => b = sb \/ b = w.heap.size) (p := ⟨w.heap.size, 4, none⟩) (Or.inl (Or.inr rfl)) (.pointer o2)).setCell (S := fun b => b = sb \/ b = w.heap.size) (p := ⟨w.heap.size, 5, none⟩) (Or.inl (Or.inr rfl)) (.slice a3 l3 k3)).setCell (S := fun b => b = sb \/ b = w.heap.size) (p := ⟨w.heap.size, 6, none⟩) (Or.inl (Or.inr rfl)) (.slice a5 l5 k5)).setCell (S := fun b => b = sb \/ b = w.heap.size) (p := ⟨w.heap.size, 7, none⟩) (Or.inl (Or.inr rfl)) (.slice a7 l7 k7)
  have hfin := st_final HSC.out HRt.out HKt.out hks HSB.out HLT.out
  refine bodyPost_ret (v := .agg #[.int .i64 (code : Nat), .int .i64 (at_ : Nat), .string (mkT name), .pointer o1, .pointer o2, .slice a3 l3 k3, .slice a5 l5 k5, .slice a7 l7 k7]) (by simp [results, Tryz.results150, go_sem, r0, r1, r2, r3, r4, r5, r6, r7]) rfl ⟨.ok (.mk code at_ name dst val thn els css) _, HEVt.out, _, rfl, ⟨_, rfl, hfin.1⟩, hfin.2.1, hfin.2.2⟩
theorem stmt_if_any {dep : Nat} (hK : BlockC rb tv E dep) (w : World) (h : RdAt w rb tv E n dep) (hE : TEnv rb E w) (ht : (pk E n).text = tIf) : Calls Tryz.prog 150 #[.pointer (some ⟨rb, 0, none⟩)] w fun e w' => ∃ r, Ev (fun f => Tr.stmt E f dep n) r /\ Says StV1 w w' rb tv E dep r e := by
 have hb0 : Below w.heap.size w (w.alloc (.cells #[.int .i64 0, .int .i64 0, .string ⟨#[]⟩, .pointer none, .pointer none, .slice none 0 0, .slice none 0 0, .slice none 0 0] 49)) := ((Keeps.refl (fun _ => False) w).alloc _).below (Nat.le_refl _) (fun _ _ e => e.elim)
 have hrv0 : Blk (w.alloc (.cells #[.int .i64 0, .int .i64 0, .string ⟨#[]⟩, .pointer none, .pointer none, .slice none 0 0, .slice none 0 0, .slice none 0 0] 49)) w.heap.size (st0 0) := Blk.new' w (st0 0) _ rfl
 have hp0 := peek_any _ (h.fresh hb0)
 have HPP : Hid (∀ W, Below w.heap.size w W -> Calls Tryz.prog 88 #[.pointer (some ⟨rb, 0, none⟩)] W fun e w' => e = .returned (tokV (pk E n)) /\ Below W.heap.size W w') := zz fun W hb => peek_any W (h.fresh hb)
 have HKB := zz hK
 have HEV : Hid (∀ r, Ev (fun f => ifV E f dep n) r -> Ev (fun f => Tr.stmt E f dep n) r) := zz fun r hr => Ev.step (h := fun f => ifV E f dep n) (fun f => by rw [stmt_eq, ht]; rfl) hr
 have HTX := zz ht
 have H0 := zz h
 have HE := zz hE
 have HLT := zz h.lt
 have HB0 := zz hb0
 have HRV0 := zz hrv0
 unfold tokV at hp0 HPP
 have hTT : (pk E n).text = tIf := ht
 obtain ⟨T, hT⟩ : ∃ T, T = mkT tIf := ⟨_, rfl⟩
 have hT' : T = mkT (pk E n).text := by rw [hTT]; exact hT
 have b0 : (T.toList == [99, 108, 111, 115, 101]) = false := by rw [hT, Lib.toList_data]; rfl
 have b1 : (T.toList == [112, 114, 105, 110, 116]) = false := by rw [hT, Lib.toList_data]; rfl
 have b2 : (T.toList == [115, 108, 101, 101, 112]) = false := by rw [hT, Lib.toList_data]; rfl
 have b3 : (T.toList == [103, 111]) = false := by rw [hT, Lib.toList_data]; rfl
 have b4 : (T.toList == [114, 101, 116, 117, 114, 110]) = false := by rw [hT, Lib.toList_data]; rfl
 have b5 : (T.toList == [98, 114, 101, 97, 107]) = false := by rw [hT, Lib.toList_data]; rfl
 have b6 : (T.toList == [99, 111, 110, 116, 105, 110, 117, 101]) = false := by rw [hT, Lib.toList_data]; rfl
 have b7 : (T.toList == [105, 102]) = true := by rw [hT, Lib.toList_data]; rfl
 rw [<- hT'] at hp0 HPP
 have HP0 := zz hp0
 clear h hE hb0 hrv0 hp0 hT' ht hTT hT
 have hf := tok_field2
 have hf1 := tok_field1
 go_enter Tryz.func150, Tryz.ntmps150
 go_wp2_with fail
 refine HP0.out.mono ?_
 rintro e w1 ⟨rfl, hb1⟩
 have hb01 : Below w.heap.size w w1 := HB0.out.trans (hb1.mono HB0.out.size)
 have hrv1 := HRV0.out.fresh hb1
 obtain ⟨sb, hsb⟩ : ∃ sb, sb = w1.heap.size := ⟨_, rfl⟩
 have hsbn : w.heap.size < sb := by rw [hsb]; exact hrv1.lt
 have HSB := zz hsbn
 have hB1 : Blk (w1.alloc (.cells #[.int .i64 0, .int .i64 ((pk E n).at_ : Nat), .string ⟨#[]⟩, .pointer none, .pointer none, .slice none 0 0, .slice none 0 0, .slice none 0 0] 49)) sb (st0 (pk E n).at_) := Blk.new' w1 (st0 (pk E n).at_) _ hsb
 have hb2 : Below w.heap.size w (w1.alloc (.cells #[.int .i64 0, .int .i64 ((pk E n).at_ : Nat), .string ⟨#[]⟩, .pointer none, .pointer none, .slice none 0 0, .slice none 0 0, .slice none 0 0] 49)) := hb01.alloc hb01.size _
 have hrv2 : Blk (w1.alloc (.cells #[.int .i64 0, .int .i64 ((pk E n).at_ : Nat), .string ⟨#[]⟩, .pointer none, .pointer none, .slice none 0 0, .slice none 0 0, .slice none 0 0] 49)) w.heap.size (st0 0) := hrv1.keeps (S := fun _ => False) ((Keeps.refl _ w1).alloc _) id
 have HP1 := zz (HPP.out _ hb2)
 have HB1 := zz hB1
 have HB2 := zz hb2
 have HRV2 := zz hrv2
 clear hB1 hb2 hrv2 hrv1 hb01 hb1 hsbn HPP HP0
 go_wp2_with fail
 rw [<- hsb]
 clear hsb
 refine HP1.out.mono ?_
 rintro e w2 ⟨rfl, hb3⟩
 have HBs := zz (HB1.out.fresh hb3)
 have HRVs := zz (HRV2.out.fresh hb3)
 have HBW : Hid (Below w.heap.size w w2) := zz (HB2.out.trans (hb3.mono HB2.out.size))
 clear hb3 HB1 HRV2 HB2 HP1
 have hrs : rb < sb := by have := HSB.out; have := HLT.out; omega
 have HXP := zz (choice_any HKB.out w2 (H0.out.fresh HBW.out) (HE.out.fresh HBW.out) HBs.out hrs HTX.out)
 have HRS := zz hrs
 clear hrs
 go_wp2_with fail
 refine HXP.out.mono ?_
 rintro e w3 ⟨r, hev, hsay⟩
 cases r with
 | out => exact hsay.elim
 | bad k a =>
  have hsay' : Threw w2 w3 rb k a e := hsay
  obtain ⟨b, rfl⟩ := threw_panic hsay'
  exact ⟨rfl, _, HEV.out _ hev, hsay'.own HLT.out (Keeps.of_new HBW.out)⟩
 | ok s m =>
  obtain ⟨rfl, ⟨vs, hb3, hc3⟩, hr3, hk3⟩ := hsay
  cases s with
  | mk code at_ name dst val thn els css =>
  have hc3' := hc3
  obtain ⟨tv2, vv2, nv2, ev2, cv2, e2, hx1, hx2, hx3, _, hx5, _, hx7, _⟩ := hc3'
  obtain ⟨o1, rfl⟩ := ex_ptr hx1
  obtain ⟨o2, rfl⟩ := ex_ptr hx2
  obtain ⟨a3, l3, k3, rfl⟩ := hx3.form
  obtain ⟨a5, l5, k5, rfl⟩ := hx5.form
  obtain ⟨a7, l7, k7, rfl⟩ := hx7.form
  subst e2
  have HBt := zz hb3
  have HRV := zz (HRVs.out.keeps hk3 (fun e => by have := HSB.out; have := HLT.out; omega))
  have HRt := zz hr3
  have HKt : Hid (Keeps (fun b => b = rb) w w3) := zz ((Keeps.of_new (S := fun b => b = rb) HBW.out).trans' hk3 (fun i hi e => by have := HSB.out; omega))
  have HEVt := zz (HEV.out _ hev)
  have HSC := zz (StC.mono (G := fun b => sb < b) (fun b _ e => by have h1 : w2.heap.size <= b := e; have := HBs.out.lt; omega) hc3)
  clear hx1 hx2 hx3 hx5 hx7 hb3 hc3 hr3 hk3 hev
  have c0 := HBt.out.at_ 0 _ rfl
  have c1 := HBt.out.at_ 1 _ rfl
  have c2 := HBt.out.at_ 2 _ rfl
  have c3 := HBt.out.at_ 3 _ rfl
  have c4 := HBt.out.at_ 4 _ rfl
  have c5 := HBt.out.at_ 5 _ rfl
  have c6 := HBt.out.at_ 6 _ rfl
  have c7 := HBt.out.at_ 7 _ rfl
  have r0 := HRV.out.at_ 0 _ rfl
  have y0 := HRV.out.free 0
  have r1 := HRV.out.at_ 1 _ rfl
  have y1 := HRV.out.free 1
  have r2 := HRV.out.at_ 2 _ rfl
  have y2 := HRV.out.free 2
  have r3 := HRV.out.at_ 3 _ rfl
  have y3 := HRV.out.free 3
  have r4 := HRV.out.at_ 4 _ rfl
  have y4 := HRV.out.free 4
  have r5 := HRV.out.at_ 5 _ rfl
  have y5 := HRV.out.free 5
  have r6 := HRV.out.at_ 6 _ rfl
  have y6 := HRV.out.free 6
  have r7 := HRV.out.at_ 7 _ rfl
  have y7 := HRV.out.free 7
  have hne : w.heap.size ≠ sb := by have := HSB.out; omega
  have hne2 : sb ≠ w.heap.size := fun e => hne e.symm
  have HSB2 := zz hne
  go_wp2_with fail
  have hks : Keeps (fun b => b = sb \/ b = w.heap.size) w3 ((((((((w3.setCell ⟨w.heap.size, 0, none⟩ (.int .i64 (code : Nat))).setCell ⟨w.heap.size, 1, none⟩ (.int .i64 (at_ : Nat))).setCell ⟨w.heap.size, 2, none⟩ (.string (mkT name))).setCell ⟨w.heap.size, 3, none⟩ (.pointer o1)).setCell ⟨w.heap.size, 4, none⟩ (.pointer o2)).setCell ⟨w.heap.size, 5, none⟩ (.slice a3 l3 k3)).setCell ⟨w.heap.size, 6, none⟩ (.slice a5 l5 k5)).setCell ⟨w.heap.size, 7, none⟩ (.slice a7 l7 k7)) := ((((((((Keeps.refl (fun b => b = sb \/ b = w.heap.size) w3).setCell (S := fun b => b = sb \/ b = w.heap.size) (p := ⟨w.heap.size, 0, none⟩) (Or.inl (Or.inr rfl)) (.int .i64 (code : Nat))).setCell (S := fun b => b = sb \/ b = w.heap.size) (p := ⟨w.heap.size, 1, none⟩) (Or.inl (Or.inr rfl)) (.int .i64 (at_ : Nat))).setCell (S := fun b => b = sb \/ b = w.heap.size) (p := ⟨w.heap.size, 2, none⟩) (Or.inl (Or.inr rfl)) (.string (mkT name))).setCell (S := fun b => b = sb \/ b = w.heap.size) (p := ⟨w.heap.size, 3, none⟩) (Or.inl (Or.inr rfl)) (.pointer o1)).setCell (S := fun b => b = sb \/ b = w.heap.size) (p := ⟨w.heap.size, 4, none⟩) (Or.inl (Or.inr rfl)) (.pointer o2)).setCell (S := fun b => b = sb \/ b = w.heap.size) (p := ⟨w.heap.size, 5, none⟩) (Or.inl (Or.inr rfl)) (.slice a3 l3 k3)).setCell (S := fun b => b = sb \/ b = w.heap.size) (p := ⟨w.heap.size, 6, none⟩) (Or.inl (Or.inr rfl)) (.slice a5 l5 k5)).setCell (S := fun b => b = sb \/ b = w.heap.size) (p := ⟨w.heap.size, 7, none⟩) (Or.inl (Or.inr rfl)) (.slice a7 l7 k7)
  have hfin := st_final HSC.out HRt.out HKt.out hks HSB.out HLT.out
  refine bodyPost_ret (v := .agg #[.int .i64 (code : Nat), .int .i64 (at_ : Nat), .string (mkT name), .pointer o1, .pointer o2, .slice a3 l3 k3, .slice a5 l5 k5, .slice a7 l7 k7]) (by simp [results, Tryz.results150, go_sem, r0, r1, r2, r3, r4, r5, r6, r7]) rfl ⟨.ok (.mk code at_ name dst val thn els css) _, HEVt.out, _, rfl, ⟨_, rfl, hfin.1⟩, hfin.2.1, hfin.2.2⟩
theorem stmt_select_any {dep : Nat} (hC : dep < 12 -> CaseC rb tv E (dep + 1)) (w : World) (h : RdAt w rb tv E n dep) (hE : TEnv rb E w) (ht : (pk E n).text = tSelect) : Calls Tryz.prog 150 #[.pointer (some ⟨rb, 0, none⟩)] w fun e w' => ∃ r, Ev (fun f => Tr.stmt E f dep n) r /\ Says StV1 w w' rb tv E dep r e := by
 have hb0 : Below w.heap.size w (w.alloc (.cells #[.int .i64 0, .int .i64 0, .string ⟨#[]⟩, .pointer none, .pointer none, .slice none 0 0, .slice none 0 0, .slice none 0 0] 49)) := ((Keeps.refl (fun _ => False) w).alloc _).below (Nat.le_refl _) (fun _ _ e => e.elim)
 have hrv0 : Blk (w.alloc (.cells #[.int .i64 0, .int .i64 0, .string ⟨#[]⟩, .pointer none, .pointer none, .slice none 0 0, .slice none 0 0, .slice none 0 0] 49)) w.heap.size (st0 0) := Blk.new' w (st0 0) _ rfl
 have hp0 := peek_any _ (h.fresh hb0)
 have HPP : Hid (∀ W, Below w.heap.size w W -> Calls Tryz.prog 88 #[.pointer (some ⟨rb, 0, none⟩)] W fun e w' => e = .returned (tokV (pk E n)) /\ Below W.heap.size W w') := zz fun W hb => peek_any W (h.fresh hb)
 have HCC := zz hC
 have HEV : Hid (∀ r, Ev (fun f => selV E f dep n) r -> Ev (fun f => Tr.stmt E f dep n) r) := zz fun r hr => Ev.step (h := fun f => selV E f dep n) (fun f => by rw [stmt_eq, ht]; rfl) hr
 have HTX := zz ht
 have H0 := zz h
 have HE := zz hE
 have HLT := zz h.lt
 have HB0 := zz hb0
 have HRV0 := zz hrv0
 unfold tokV at hp0 HPP
 have hTT : (pk E n).text = tSelect := ht
 obtain ⟨T, hT⟩ : ∃ T, T = mkT tSelect := ⟨_, rfl⟩
 have hT' : T = mkT (pk E n).text := by rw [hTT]; exact hT
 have b0 : (T.toList == [99, 108, 111, 115, 101]) = false := by rw [hT, Lib.toList_data]; rfl
 have b1 : (T.toList == [112, 114, 105, 110, 116]) = false := by rw [hT, Lib.toList_data]; rfl
 have b2 : (T.toList == [115, 108, 101, 101, 112]) = false := by rw [hT, Lib.toList_data]; rfl
 have b3 : (T.toList == [103, 111]) = false := by rw [hT, Lib.toList_data]; rfl
 have b4 : (T.toList == [114, 101, 116, 117, 114, 110]) = false := by rw [hT, Lib.toList_data]; rfl
 have b5 : (T.toList == [98, 114, 101, 97, 107]) = false := by rw [hT, Lib.toList_data]; rfl
 have b6 : (T.toList == [99, 111, 110, 116, 105, 110, 117, 101]) = false := by rw [hT, Lib.toList_data]; rfl
 have b7 : (T.toList == [105, 102]) = false := by rw [hT, Lib.toList_data]; rfl
 have b8 : (T.toList == [102, 111, 114]) = false := by rw [hT, Lib.toList_data]; rfl
 have b9 : (T.toList == [115, 101, 108, 101, 99, 116]) = true := by rw [hT, Lib.toList_data]; rfl
 rw [<- hT'] at hp0 HPP
 have HP0 := zz hp0
 clear h hE hb0 hrv0 hp0 hT' ht hTT hT
 have hf := tok_field2
 have hf1 := tok_field1
 go_enter Tryz.func150, Tryz.ntmps150
 go_wp2_with fail
 refine HP0.out.mono ?_
 rintro e w1 ⟨rfl, hb1⟩
 have hb01 : Below w.heap.size w w1 := HB0.out.trans (hb1.mono HB0.out.size)
 have hrv1 := HRV0.out.fresh hb1
 obtain ⟨sb, hsb⟩ : ∃ sb, sb = w1.heap.size := ⟨_, rfl⟩
 have hsbn : w.heap.size < sb := by rw [hsb]; exact hrv1.lt
 have HSB := zz hsbn
 have hB1 : Blk (w1.alloc (.cells #[.int .i64 0, .int .i64 ((pk E n).at_ : Nat), .string ⟨#[]⟩, .pointer none, .pointer none, .slice none 0 0, .slice none 0 0, .slice none 0 0] 49)) sb (st0 (pk E n).at_) := Blk.new' w1 (st0 (pk E n).at_) _ hsb
 have hb2 : Below w.heap.size w (w1.alloc (.cells #[.int .i64 0, .int .i64 ((pk E n).at_ : Nat), .string ⟨#[]⟩, .pointer none, .pointer none, .slice none 0 0, .slice none 0 0, .slice none 0 0] 49)) := hb01.alloc hb01.size _
 have hrv2 : Blk (w1.alloc (.cells #[.int .i64 0, .int .i64 ((pk E n).at_ : Nat), .string ⟨#[]⟩, .pointer none, .pointer none, .slice none 0 0, .slice none 0 0, .slice none 0 0] 49)) w.heap.size (st0 0) := hrv1.keeps (S := fun _ => False) ((Keeps.refl _ w1).alloc _) id
 have HP1 := zz (HPP.out _ hb2)
 have HB1 := zz hB1
 have HB2 := zz hb2
 have HRV2 := zz hrv2
 clear hB1 hb2 hrv2 hrv1 hb01 hb1 hsbn HPP HP0
 go_wp2_with fail
 rw [<- hsb]
 clear hsb
 refine HP1.out.mono ?_
 rintro e w2 ⟨rfl, hb3⟩
 have HBs := zz (HB1.out.fresh hb3)
 have HRVs := zz (HRV2.out.fresh hb3)
 have HBW : Hid (Below w.heap.size w w2) := zz (HB2.out.trans (hb3.mono HB2.out.size))
 clear hb3 HB1 HRV2 HB2 HP1
 have hrs : rb < sb := by have := HSB.out; have := HLT.out; omega
 have HXP := zz (choose_any HCC.out w2 (H0.out.fresh HBW.out) (HE.out.fresh HBW.out) HBs.out hrs HTX.out)
 have HRS := zz hrs
 clear hrs
 go_wp2_with fail
 refine HXP.out.mono ?_
 rintro e w3 ⟨r, hev, hsay⟩
 cases r with
 | out => exact hsay.elim
 | bad k a =>
  have hsay' : Threw w2 w3 rb k a e := hsay
  obtain ⟨b, rfl⟩ := threw_panic hsay'
  exact ⟨rfl, _, HEV.out _ hev, hsay'.own HLT.out (Keeps.of_new HBW.out)⟩
 | ok s m =>
  obtain ⟨rfl, ⟨vs, hb3, hc3⟩, hr3, hk3⟩ := hsay
  cases s with
  | mk code at_ name dst val thn els css =>
  have hc3' := hc3
  obtain ⟨tv2, vv2, nv2, ev2, cv2, e2, hx1, hx2, hx3, _, hx5, _, hx7, _⟩ := hc3'
  obtain ⟨o1, rfl⟩ := ex_ptr hx1
  obtain ⟨o2, rfl⟩ := ex_ptr hx2
  obtain ⟨a3, l3, k3, rfl⟩ := hx3.form
  obtain ⟨a5, l5, k5, rfl⟩ := hx5.form
  obtain ⟨a7, l7, k7, rfl⟩ := hx7.form
  subst e2
  have HBt := zz hb3
  have HRV := zz (HRVs.out.keeps hk3 (fun e => by have := HSB.out; have := HLT.out; omega))
  have HRt := zz hr3
  have HKt : Hid (Keeps (fun b => b = rb) w w3) := zz ((Keeps.of_new (S := fun b => b = rb) HBW.out).trans' hk3 (fun i hi e => by have := HSB.out; omega))
  have HEVt := zz (HEV.out _ hev)
  have HSC := zz (StC.mono (G := fun b => sb < b) (fun b _ e => by have h1 : w2.heap.size <= b := e; have := HBs.out.lt; omega) hc3)
  clear hx1 hx2 hx3 hx5 hx7 hb3 hc3 hr3 hk3 hev
  have c0 := HBt.out.at_ 0 _ rfl
  have c1 := HBt.out.at_ 1 _ rfl
  have c2 := HBt.out.at_ 2 _ rfl
  have c3 := HBt.out.at_ 3 _ rfl
  have c4 := HBt.out.at_ 4 _ rfl
  have c5 := HBt.out.at_ 5 _ rfl
  have c6 := HBt.out.at_ 6 _ rfl
  have c7 := HBt.out.at_ 7 _ rfl
  have r0 := HRV.out.at_ 0 _ rfl
  have y0 := HRV.out.free 0
  have r1 := HRV.out.at_ 1 _ rfl
  have y1 := HRV.out.free 1
  have r2 := HRV.out.at_ 2 _ rfl
  have y2 := HRV.out.free 2
  have r3 := HRV.out.at_ 3 _ rfl
  have y3 := HRV.out.free 3
  have r4 := HRV.out.at_ 4 _ rfl
  have y4 := HRV.out.free 4
  have r5 := HRV.out.at_ 5 _ rfl
  have y5 := HRV.out.free 5
  have r6 := HRV.out.at_ 6 _ rfl
  have y6 := HRV.out.free 6
  have r7 := HRV.out.at_ 7 _ rfl
  have y7 := HRV.out.free 7
  have hne : w.heap.size ≠ sb := by have := HSB.out; omega
  have hne2 : sb ≠ w.heap.size := fun e => hne e.symm
  have HSB2 := zz hne
  go_wp2_with fail
  have hks : Keeps (fun b => b = sb \/ b = w.heap.size) w3 ((((((((w3.setCell ⟨w.heap.size, 0, none⟩ (.int .i64 (code : Nat))).setCell ⟨w.heap.size, 1, none⟩ (.int .i64 (at_ : Nat))).setCell ⟨w.heap.size, 2, none⟩ (.string (mkT name))).setCell ⟨w.heap.size, 3, none⟩ (.pointer o1)).setCell ⟨w.heap.size, 4, none⟩ (.pointer o2)).setCell ⟨w.heap.size, 5, none⟩ (.slice a3 l3 k3)).setCell ⟨w.heap.size, 6, none⟩ (.slice a5 l5 k5)).setCell ⟨w.heap.size, 7, none⟩ (.slice a7 l7 k7)) := ((((((((Keeps.refl (fun b => b = sb \/ b = w.heap.size) w3).setCell (S := fun b => b = sb \/ b = w.heap.size) (p := ⟨w.heap.size, 0, none⟩) (Or.inl (Or.inr rfl)) (.int .i64 (code : Nat))).setCell (S := fun b => b = sb \/ b = w.heap.size) (p := ⟨w.heap.size, 1, none⟩) (Or.inl (Or.inr rfl)) (.int .i64 (at_ : Nat))).setCell (S := fun b => b = sb \/ b = w.heap.size) (p := ⟨w.heap.size, 2, none⟩) (Or.inl (Or.inr rfl)) (.string (mkT name))).setCell (S := fun b => b = sb \/ b = w.heap.size) (p := ⟨w.heap.size, 3, none⟩) (Or.inl (Or.inr rfl)) (.pointer o1)).setCell (S := fun b => b = sb \/ b = w.heap.size) (p := ⟨w.heap.size, 4, none⟩) (Or.inl (Or.inr rfl)) (.pointer o2)).setCell (S := fun b => b = sb \/ b = w.heap.size) (p := ⟨w.heap.size, 5, none⟩) (Or.inl (Or.inr rfl)) (.slice a3 l3 k3)).setCell (S := fun b => b = sb \/ b = w.heap.size) (p := ⟨w.heap.size, 6, none⟩) (Or.inl (Or.inr rfl)) (.slice a5 l5 k5)).setCell (S := fun b => b = sb \/ b = w.heap.size) (p := ⟨w.heap.size, 7, none⟩) (Or.inl (Or.inr rfl)) (.slice a7 l7 k7)
  have hfin := st_final HSC.out HRt.out HKt.out hks HSB.out HLT.out
  refine bodyPost_ret (v := .agg #[.int .i64 (code : Nat), .int .i64 (at_ : Nat), .string (mkT name), .pointer o1, .pointer o2, .slice a3 l3 k3, .slice a5 l5 k5, .slice a7 l7 k7]) (by simp [results, Tryz.results150, go_sem, r0, r1, r2, r3, r4, r5, r6, r7]) rfl ⟨.ok (.mk code at_ name dst val thn els css) _, HEVt.out, _, rfl, ⟨_, rfl, hfin.1⟩, hfin.2.1, hfin.2.2⟩
theorem stmt_plain_any {dep : Nat} (w : World) (h : RdAt w rb tv E n dep) (hE : TEnv rb E w) (q0 : (pk E n).text ≠ tClose) (q1 : (pk E n).text ≠ tPrint) (q2 : (pk E n).text ≠ tSleep) (q3 : (pk E n).text ≠ tGo) (q4 : (pk E n).text ≠ tReturn) (q5 : (pk E n).text ≠ tBreak) (q6 : (pk E n).text ≠ tContinue) (q7 : (pk E n).text ≠ tIf) (q8 : (pk E n).text ≠ tFor) (q9 : (pk E n).text ≠ tSelect)  : Calls Tryz.prog 150 #[.pointer (some ⟨rb, 0, none⟩)] w fun e w' => ∃ r, Ev (fun f => Tr.stmt E f dep n) r /\ Says StV1 w w' rb tv E dep r e := by
 have hb0 : Below w.heap.size w (w.alloc (.cells #[.int .i64 0, .int .i64 0, .string ⟨#[]⟩, .pointer none, .pointer none, .slice none 0 0, .slice none 0 0, .slice none 0 0] 49)) := ((Keeps.refl (fun _ => False) w).alloc _).below (Nat.le_refl _) (fun _ _ e => e.elim)
 have hrv0 : Blk (w.alloc (.cells #[.int .i64 0, .int .i64 0, .string ⟨#[]⟩, .pointer none, .pointer none, .slice none 0 0, .slice none 0 0, .slice none 0 0] 49)) w.heap.size (st0 0) := Blk.new' w (st0 0) _ rfl
 have hp0 := peek_any _ (h.fresh hb0)
 have HPP : Hid (∀ W, Below w.heap.size w W -> Calls Tryz.prog 88 #[.pointer (some ⟨rb, 0, none⟩)] W fun e w' => e = .returned (tokV (pk E n)) /\ Below W.heap.size W w') := zz fun W hb => peek_any W (h.fresh hb)
 have HEV : Hid (∀ r, Ev (fun f => plain E f n) r -> Ev (fun f => Tr.stmt E f dep n) r) := zz fun r hr => Ev.step (h := fun f => plain E f n) (fun f => by rw [stmt_eq, if_neg q0, if_neg q1, if_neg q2, if_neg q3, if_neg q4, if_neg q5, if_neg q6, if_neg q7, if_neg q8, if_neg q9]) hr
 have H0 := zz h
 have HE := zz hE
 have HLT := zz h.lt
 have HB0 := zz hb0
 have HRV0 := zz hrv0
 unfold tokV at hp0 HPP
 obtain ⟨T, hT'⟩ : ∃ T, T = mkT (pk E n).text := ⟨_, rfl⟩
 have b0 : (T.toList == [99, 108, 111, 115, 101]) = false := by rw [hT', text_is]; exact decide_eq_false q0
 have b1 : (T.toList == [112, 114, 105, 110, 116]) = false := by rw [hT', text_is]; exact decide_eq_false q1
 have b2 : (T.toList == [115, 108, 101, 101, 112]) = false := by rw [hT', text_is]; exact decide_eq_false q2
 have b3 : (T.toList == [103, 111]) = false := by rw [hT', text_is]; exact decide_eq_false q3
 have b4 : (T.toList == [114, 101, 116, 117, 114, 110]) = false := by rw [hT', text_is]; exact decide_eq_false q4
 have b5 : (T.toList == [98, 114, 101, 97, 107]) = false := by rw [hT', text_is]; exact decide_eq_false q5
 have b6 : (T.toList == [99, 111, 110, 116, 105, 110, 117, 101]) = false := by rw [hT', text_is]; exact decide_eq_false q6
 have b7 : (T.toList == [105, 102]) = false := by rw [hT', text_is]; exact decide_eq_false q7
 have b8 : (T.toList == [102, 111, 114]) = false := by rw [hT', text_is]; exact decide_eq_false q8
 have b9 : (T.toList == [115, 101, 108, 101, 99, 116]) = false := by rw [hT', text_is]; exact decide_eq_false q9
 rw [<- hT'] at hp0 HPP
 have HP0 := zz hp0
 clear h hE hb0 hrv0 hp0 hT' q0 q1 q2 q3 q4 q5 q6 q7 q8 q9
 have hf := tok_field2
 have hf1 := tok_field1
 go_enter Tryz.func150, Tryz.ntmps150
 go_wp2_with fail
 refine HP0.out.mono ?_
 rintro e w1 ⟨rfl, hb1⟩
 have hb01 : Below w.heap.size w w1 := HB0.out.trans (hb1.mono HB0.out.size)
 have hrv1 := HRV0.out.fresh hb1
 obtain ⟨sb, hsb⟩ : ∃ sb, sb = w1.heap.size := ⟨_, rfl⟩
 have hsbn : w.heap.size < sb := by rw [hsb]; exact hrv1.lt
 have HSB := zz hsbn
 have hB1 : Blk (w1.alloc (.cells #[.int .i64 0, .int .i64 ((pk E n).at_ : Nat), .string ⟨#[]⟩, .pointer none, .pointer none, .slice none 0 0, .slice none 0 0, .slice none 0 0] 49)) sb (st0 (pk E n).at_) := Blk.new' w1 (st0 (pk E n).at_) _ hsb
 have hb2 : Below w.heap.size w (w1.alloc (.cells #[.int .i64 0, .int .i64 ((pk E n).at_ : Nat), .string ⟨#[]⟩, .pointer none, .pointer none, .slice none 0 0, .slice none 0 0, .slice none 0 0] 49)) := hb01.alloc hb01.size _
 have hrv2 : Blk (w1.alloc (.cells #[.int .i64 0, .int .i64 ((pk E n).at_ : Nat), .string ⟨#[]⟩, .pointer none, .pointer none, .slice none 0 0, .slice none 0 0, .slice none 0 0] 49)) w.heap.size (st0 0) := hrv1.keeps (S := fun _ => False) ((Keeps.refl _ w1).alloc _) id
 have HP1 := zz (HPP.out _ hb2)
 have HB1 := zz hB1
 have HB2 := zz hb2
 have HRV2 := zz hrv2
 clear hB1 hb2 hrv2 hrv1 hb01 hb1 hsbn HPP HP0
 go_wp2_with fail
 rw [<- hsb]
 clear hsb
 refine HP1.out.mono ?_
 rintro e w2 ⟨rfl, hb3⟩
 have HBs := zz (HB1.out.fresh hb3)
 have HRVs := zz (HRV2.out.fresh hb3)
 have HBW : Hid (Below w.heap.size w w2) := zz (HB2.out.trans (hb3.mono HB2.out.size))
 clear hb3 HB1 HRV2 HB2 HP1
 have hrs : rb < sb := by have := HSB.out; have := HLT.out; omega
 have HXP := zz (plain_any w2 (H0.out.fresh HBW.out) (HE.out.fresh HBW.out) HBs.out hrs)
 have HRS := zz hrs
 clear hrs
 go_wp2_with fail
 refine HXP.out.mono ?_
 rintro e w3 ⟨r, hev, hsay⟩
 cases r with
 | out => exact hsay.elim
 | bad k a =>
  have hsay' : Threw w2 w3 rb k a e := hsay
  obtain ⟨b, rfl⟩ := threw_panic hsay'
  exact ⟨rfl, _, HEV.out _ hev, hsay'.own HLT.out (Keeps.of_new HBW.out)⟩
 | ok s m =>
  obtain ⟨rfl, ⟨vs, hb3, hc3⟩, hr3, hk3⟩ := hsay
  cases s with
  | mk code at_ name dst val thn els css =>
  have hc3' := hc3
  obtain ⟨tv2, vv2, nv2, ev2, cv2, e2, hx1, hx2, hx3, _, hx5, _, hx7, _⟩ := hc3'
  obtain ⟨o1, rfl⟩ := ex_ptr hx1
  obtain ⟨o2, rfl⟩ := ex_ptr hx2
  obtain ⟨a3, l3, k3, rfl⟩ := hx3.form
  obtain ⟨a5, l5, k5, rfl⟩ := hx5.form
  obtain ⟨a7, l7, k7, rfl⟩ := hx7.form
  subst e2
  have HBt := zz hb3
  have HRV := zz (HRVs.out.keeps hk3 (fun e => by have := HSB.out; have := HLT.out; omega))
  have HRt := zz hr3
  have HKt : Hid (Keeps (fun b => b = rb) w w3) := zz ((Keeps.of_new (S := fun b => b = rb) HBW.out).trans' hk3 (fun i hi e => by have := HSB.out; omega))
  have HEVt := zz (HEV.out _ hev)
  have HSC := zz (StC.mono (G := fun b => sb < b) (fun b _ e => by have h1 : w2.heap.size <= b := e; have := HBs.out.lt; omega) hc3)
  clear hx1 hx2 hx3 hx5 hx7 hb3 hc3 hr3 hk3 hev
  have c0 := HBt.out.at_ 0 _ rfl
  have c1 := HBt.out.at_ 1 _ rfl
  have c2 := HBt.out.at_ 2 _ rfl
  have c3 := HBt.out.at_ 3 _ rfl
  have c4 := HBt.out.at_ 4 _ rfl
  have c5 := HBt.out.at_ 5 _ rfl
  have c6 := HBt.out.at_ 6 _ rfl
  have c7 := HBt.out.at_ 7 _ rfl
  have r0 := HRV.out.at_ 0 _ rfl
  have y0 := HRV.out.free 0
  have r1 := HRV.out.at_ 1 _ rfl
  have y1 := HRV.out.free 1
  have r2 := HRV.out.at_ 2 _ rfl
  have y2 := HRV.out.free 2
  have r3 := HRV.out.at_ 3 _ rfl
  have y3 := HRV.out.free 3
  have r4 := HRV.out.at_ 4 _ rfl
  have y4 := HRV.out.free 4
  have r5 := HRV.out.at_ 5 _ rfl
  have y5 := HRV.out.free 5
  have r6 := HRV.out.at_ 6 _ rfl
  have y6 := HRV.out.free 6
  have r7 := HRV.out.at_ 7 _ rfl
  have y7 := HRV.out.free 7
  have hne : w.heap.size ≠ sb := by have := HSB.out; omega
  have hne2 : sb ≠ w.heap.size := fun e => hne e.symm
  have HSB2 := zz hne
  go_wp2_with fail
  have hks : Keeps (fun b => b = sb \/ b = w.heap.size) w3 ((((((((w3.setCell ⟨w.heap.size, 0, none⟩ (.int .i64 (code : Nat))).setCell ⟨w.heap.size, 1, none⟩ (.int .i64 (at_ : Nat))).setCell ⟨w.heap.size, 2, none⟩ (.string (mkT name))).setCell ⟨w.heap.size, 3, none⟩ (.pointer o1)).setCell ⟨w.heap.size, 4, none⟩ (.pointer o2)).setCell ⟨w.heap.size, 5, none⟩ (.slice a3 l3 k3)).setCell ⟨w.heap.size, 6, none⟩ (.slice a5 l5 k5)).setCell ⟨w.heap.size, 7, none⟩ (.slice a7 l7 k7)) := ((((((((Keeps.refl (fun b => b = sb \/ b = w.heap.size) w3).setCell (S := fun b => b = sb \/ b = w.heap.size) (p := ⟨w.heap.size, 0, none⟩) (Or.inl (Or.inr rfl)) (.int .i64 (code : Nat))).setCell (S := fun b => b = sb \/ b = w.heap.size) (p := ⟨w.heap.size, 1, none⟩) (Or.inl (Or.inr rfl)) (.int .i64 (at_ : Nat))).setCell (S := fun b => b = sb \/ b = w.heap.size) (p := ⟨w.heap.size, 2, none⟩) (Or.inl (Or.inr rfl)) (.string (mkT name))).setCell (S := fun b => b = sb \/ b = w.heap.size) (p := ⟨w.heap.size, 3, none⟩) (Or.inl (Or.inr rfl)) (.pointer o1)).setCell (S := fun b => b = sb \/ b = w.heap.size) (p := ⟨w.heap.size, 4, none⟩) (Or.inl (Or.inr rfl)) (.pointer o2)).setCell (S := fun b => b = sb \/ b = w.heap.size) (p := ⟨w.heap.size, 5, none⟩) (Or.inl (Or.inr rfl)) (.slice a3 l3 k3)).setCell (S := fun b => b = sb \/ b = w.heap.size) (p := ⟨w.heap.size, 6, none⟩) (Or.inl (Or.inr rfl)) (.slice a5 l5 k5)).setCell (S := fun b => b = sb \/ b = w.heap.size) (p := ⟨w.heap.size, 7, none⟩) (Or.inl (Or.inr rfl)) (.slice a7 l7 k7)
  have hfin := st_final HSC.out HRt.out HKt.out hks HSB.out HLT.out
  refine bodyPost_ret (v := .agg #[.int .i64 (code : Nat), .int .i64 (at_ : Nat), .string (mkT name), .pointer o1, .pointer o2, .slice a3 l3 k3, .slice a5 l5 k5, .slice a7 l7 k7]) (by simp [results, Tryz.results150, go_sem, r0, r1, r2, r3, r4, r5, r6, r7]) rfl ⟨.ok (.mk code at_ name dst val thn els css) _, HEVt.out, _, rfl, ⟨_, rfl, hfin.1⟩, hfin.2.1, hfin.2.2⟩
theorem stmt_for_any {dep : Nat} (hK : BlockC rb tv E dep) (w : World) (h : RdAt w rb tv E n dep) (hE : TEnv rb E w) (ht : (pk E n).text = tFor) : Calls Tryz.prog 150 #[.pointer (some ⟨rb, 0, none⟩)] w fun e w' => ∃ r, Ev (fun f => Tr.stmt E f dep n) r /\ Says StV1 w w' rb tv E dep r e := by
 have hb0 : Below w.heap.size w (w.alloc (.cells #[.int .i64 0, .int .i64 0, .string ⟨#[]⟩, .pointer none, .pointer none, .slice none 0 0, .slice none 0 0, .slice none 0 0] 49)) := ((Keeps.refl (fun _ => False) w).alloc _).below (Nat.le_refl _) (fun _ _ e => e.elim)
 have hrv0 : Blk (w.alloc (.cells #[.int .i64 0, .int .i64 0, .string ⟨#[]⟩, .pointer none, .pointer none, .slice none 0 0, .slice none 0 0, .slice none 0 0] 49)) w.heap.size (st0 0) := Blk.new' w (st0 0) _ rfl
 have hp0 := peek_any _ (h.fresh hb0)
 have HPP : Hid (∀ W, Below w.heap.size w W -> Calls Tryz.prog 88 #[.pointer (some ⟨rb, 0, none⟩)] W fun e w' => e = .returned (tokV (pk E n)) /\ Below W.heap.size W w') := zz fun W hb => peek_any W (h.fresh hb)
 have HKB := zz hK
 have HN := zz (pk_lt ht (by decide))
 have HEV : Hid (∀ r, Ev (fun f => (expr E f 0 (n + 1)).bind fun x m => (Tr.block E f dep m).bind fun a m2 => .ok (.mk 13 (pk E n).at_ [] .nil x a .nil .nil) m2) r -> Ev (fun f => Tr.stmt E f dep n) r) := zz fun r hr => Ev.step (h := fun f => (expr E f 0 (n + 1)).bind fun x m => (Tr.block E f dep m).bind fun a m2 => .ok (.mk 13 (pk E n).at_ [] .nil x a .nil .nil) m2) (fun f => by rw [stmt_eq, ht]; rfl) hr
 have H0 := zz h
 have HE := zz hE
 have HLT := zz h.lt
 have HB0 := zz hb0
 have HRV0 := zz hrv0
 unfold tokV at hp0 HPP
 have hTT : (pk E n).text = tFor := ht
 obtain ⟨T, hT⟩ : ∃ T, T = mkT tFor := ⟨_, rfl⟩
 have hT' : T = mkT (pk E n).text := by rw [hTT]; exact hT
 have b0 : (T.toList == [99, 108, 111, 115, 101]) = false := by rw [hT, Lib.toList_data]; rfl
 have b1 : (T.toList == [112, 114, 105, 110, 116]) = false := by rw [hT, Lib.toList_data]; rfl
 have b2 : (T.toList == [115, 108, 101, 101, 112]) = false := by rw [hT, Lib.toList_data]; rfl
 have b3 : (T.toList == [103, 111]) = false := by rw [hT, Lib.toList_data]; rfl
 have b4 : (T.toList == [114, 101, 116, 117, 114, 110]) = false := by rw [hT, Lib.toList_data]; rfl
 have b5 : (T.toList == [98, 114, 101, 97, 107]) = false := by rw [hT, Lib.toList_data]; rfl
 have b6 : (T.toList == [99, 111, 110, 116, 105, 110, 117, 101]) = false := by rw [hT, Lib.toList_data]; rfl
 have b7 : (T.toList == [105, 102]) = false := by rw [hT, Lib.toList_data]; rfl
 have b8 : (T.toList == [102, 111, 114]) = true := by rw [hT, Lib.toList_data]; rfl
 rw [<- hT'] at hp0 HPP
 have HP0 := zz hp0
 clear h hE hb0 hrv0 hp0 hT' ht hTT hT hK
 have hf := tok_field2
 have hf1 := tok_field1
 go_enter Tryz.func150, Tryz.ntmps150
 go_wp2_with fail
 refine HP0.out.mono ?_
 rintro e w1 ⟨rfl, hb1⟩
 have hb01 : Below w.heap.size w w1 := HB0.out.trans (hb1.mono HB0.out.size)
 have hrv1 := HRV0.out.fresh hb1
 obtain ⟨sb, hsb⟩ : ∃ sb, sb = w1.heap.size := ⟨_, rfl⟩
 have hsbn : w.heap.size < sb := by rw [hsb]; exact hrv1.lt
 have HSB := zz hsbn
 have hB1 : Blk (w1.alloc (.cells #[.int .i64 0, .int .i64 ((pk E n).at_ : Nat), .string ⟨#[]⟩, .pointer none, .pointer none, .slice none 0 0, .slice none 0 0, .slice none 0 0] 49)) sb (st0 (pk E n).at_) := Blk.new' w1 (st0 (pk E n).at_) _ hsb
 have hb2 : Below w.heap.size w (w1.alloc (.cells #[.int .i64 0, .int .i64 ((pk E n).at_ : Nat), .string ⟨#[]⟩, .pointer none, .pointer none, .slice none 0 0, .slice none 0 0, .slice none 0 0] 49)) := hb01.alloc hb01.size _
 have hrv2 : Blk (w1.alloc (.cells #[.int .i64 0, .int .i64 ((pk E n).at_ : Nat), .string ⟨#[]⟩, .pointer none, .pointer none, .slice none 0 0, .slice none 0 0, .slice none 0 0] 49)) w.heap.size (st0 0) := hrv1.keeps (S := fun _ => False) ((Keeps.refl _ w1).alloc _) id
 have HP1 := zz (HPP.out _ hb2)
 have HB1 := zz hB1
 have HB2 := zz hb2
 have HRV2 := zz hrv2
 clear hB1 hb2 hrv2 hrv1 hb01 hb1 hsbn HPP HP0
 go_wp2_with fail
 rw [<- hsb]
 clear hsb
 refine HP1.out.mono ?_
 rintro e w2 ⟨rfl, hb3⟩
 have HBs := zz (HB1.out.fresh hb3)
 have HRVs := zz (HRV2.out.fresh hb3)
 have HBW : Hid (Below w.heap.size w w2) := zz (HB2.out.trans (hb3.mono HB2.out.size))
 clear hb3 HB1 HRV2 HB2 HP1
 have hn := HN.out
 go_wp2_with fail
 refine (skip_tok w2 (H0.out.fresh HBW.out) hn).mono ?_
 rintro e w3 ⟨rfl, hr3, hk3⟩
 clear hn
 have hne3 : ¬ sb = rb := by have := HSB.out; have := HLT.out; omega
 have hne4 : ¬ w.heap.size = rb := by have := HLT.out; omega
 have HBt0 := zz (HBs.out.keeps hk3 hne3)
 have HRVt0 := zz (HRVs.out.keeps hk3 hne4)
 have HR3 := zz hr3
 have HK3 : Hid (Keeps (fun b => b = rb) w w3) := zz ((Keeps.of_new HBW.out).trans hk3)
 have HN3 := zz hne3
 have HN4 := zz hne4
 have HE3 := zz (HE.out.own HK3.out)
 clear hr3 hk3 hne3 hne4
 unfold tokV
 generalize mkT (pk E n).text = TT
 have HXP := zz (RExpr (dd := 0) (Nat.zero_le _) (n + 1) w3 HR3.out HE3.out)
 go_wp2_with fail
 refine HXP.out.mono ?_
 rintro e w4 ⟨r, hev, hsay⟩
 cases r with
 | out => exact hsay.elim
 | bad k a =>
  have hsay' : Threw w3 w4 rb k a e := hsay
  obtain ⟨b, rfl⟩ := threw_panic hsay'
  exact ⟨rfl, .bad k a, HEV.out _ (Ev.bad hev), hsay'.own HLT.out HK3.out⟩
 | ok x m =>
  obtain ⟨v, rfl, hx, hr4, hk4⟩ := hsay
  obtain ⟨o, rfl⟩ := ex_ptr hx
  have hB4 := HBt0.out.keeps hk4 HN3.out
  have c0 := hB4.at_ 0 _ rfl
  have c4 := hB4.at_ 4 _ rfl
  have z0 := hB4.free 0
  have z4 := hB4.free 4
  have hks : Keeps (fun b => b = sb) w4 ((w4.setCell ⟨sb, 0, none⟩ (.int .i64 13)).setCell ⟨sb, 4, none⟩ (.pointer o)) := own2
  have hB5 : Blk ((w4.setCell ⟨sb, 0, none⟩ (.int .i64 13)).setCell ⟨sb, 4, none⟩ (.pointer o)) sb (st1 13 (pk E n).at_ [] none o) := (hB4.set 0 (.int .i64 (13 : Nat)) (by simp [st0])).set 4 (.pointer o) (by simp [st0])
  have hsb := HSB.out
  have hlt0 := HLT.out
  have hk5 : Keeps (fun b => b = rb) w ((w4.setCell ⟨sb, 0, none⟩ (.int .i64 13)).setCell ⟨sb, 4, none⟩ (.pointer o)) := (HK3.out.trans hk4).trans' hks (fun i hi e => by omega)
  have HB5 := zz hB5
  have HK5 := zz hk5
  have HRV5 := zz ((HRVt0.out.keeps hk4 HN4.out).keeps hks (fun e => by omega))
  have HX5 : Hid (ExIn ((w4.setCell ⟨sb, 0, none⟩ (.int .i64 13)).setCell ⟨sb, 4, none⟩ (.pointer o)) (fun b => sb < b) (.pointer o) x) := zz ((ExIn.mono (fun b _ e => by have h1 : w3.heap.size <= b := e; have := HBt0.out.lt; show sb < b; omega) _ _ hx).of_two hks (fun b hb => by have h1 : sb < b := hb; omega))
  have HBL := zz (HKB.out m _ (hr4.two hks (by omega)) (HE.out.own hk5))
  have HEV4 := zz hev
  clear hB4 hB5 hks hsb hlt0 hk5 hx hr4 hk4 hev
  go_wp2_with fail
  refine HBL.out.mono ?_
  rintro e w6 ⟨r, hev, hsay⟩
  clear c0 c4 z0 z4
  cases r with
  | out => exact hsay.elim
  | bad k a =>
   have hsay' : Threw _ w6 rb k a e := hsay
   obtain ⟨b, rfl⟩ := threw_panic hsay'
   exact ⟨rfl, .bad k a, HEV.out _ (Ev.then HEV4.out (Ev.bad hev)), hsay'.own HLT.out HK5.out⟩
  | ok l m2 =>
   obtain ⟨v6, rfl, hl6, hr6, hk6⟩ := hsay
   obtain ⟨la, ll, lc, rfl⟩ := hl6.1.form
   have HBt := zz (HB5.out.keeps hk6 HN3.out)
   have HRV := zz (HRV5.out.keeps hk6 HN4.out)
   have HRt := zz hr6
   have HKt := zz (HK5.out.trans hk6)
   have HEVt : Hid (Ev (fun f => Tr.stmt E f dep n) (.ok (.mk 13 (pk E n).at_ [] .nil x l .nil .nil) m2)) := zz (HEV.out _ (Ev.then HEV4.out (Ev.map _ (fun _ _ e => by cases e) hev)))
   have hl7 : StsF w6 (fun b => sb < b) l (.slice la ll lc) := StsF.mono (fun b e => by have h1 := HB5.out.lt; have h2 : _ <= b := e; show sb < b; omega) hl6
   have HSC : Hid (StC w6 (fun b => sb < b) [.int .i64 (13 : Nat), .int .i64 ((pk E n).at_ : Nat), .string (mkT []), .pointer none, .pointer o, .slice la ll lc, .slice none 0 0, .slice none 0 0] (.mk 13 (pk E n).at_ [] .nil x l .nil .nil)) := zz ⟨_, _, _, _, _, rfl, rfl, ExIn.keeps HX5.out hk6 (fun b hb e => by have h1 : sb < b := hb; have h2 : b = rb := e; have := HSB.out; have := HLT.out; omega), hl7.1, hl7.2, Or.inl ⟨rfl, rfl⟩, fun g n cap e => (by cases e), Or.inl ⟨rfl, rfl⟩, fun g n cap e => (by cases e)⟩
   clear hl6 hl7 hr6 hk6 hev
   have c0 := HBt.out.at_ 0 _ rfl
   have c1 := HBt.out.at_ 1 _ rfl
   have c2 := HBt.out.at_ 2 _ rfl
   have c3 := HBt.out.at_ 3 _ rfl
   have c4 := HBt.out.at_ 4 _ rfl
   have c5 := HBt.out.at_ 5 _ rfl
   have c6 := HBt.out.at_ 6 _ rfl
   have c7 := HBt.out.at_ 7 _ rfl
   have z5 := HBt.out.free 5
   have r0 := HRV.out.at_ 0 _ rfl
   have y0 := HRV.out.free 0
   have r1 := HRV.out.at_ 1 _ rfl
   have y1 := HRV.out.free 1
   have r2 := HRV.out.at_ 2 _ rfl
   have y2 := HRV.out.free 2
   have r3 := HRV.out.at_ 3 _ rfl
   have y3 := HRV.out.free 3
   have r4 := HRV.out.at_ 4 _ rfl
   have y4 := HRV.out.free 4
   have r5 := HRV.out.at_ 5 _ rfl
   have y5 := HRV.out.free 5
   have r6 := HRV.out.at_ 6 _ rfl
   have y6 := HRV.out.free 6
   have r7 := HRV.out.at_ 7 _ rfl
   have y7 := HRV.out.free 7
   have hne : w.heap.size ≠ sb := by have := HSB.out; omega
   have hne2 : sb ≠ w.heap.size := fun e => hne e.symm
   have HSB2 := zz hne
   go_wp2_with fail
   have hks : Keeps (fun b => b = sb \/ b = w.heap.size) w6 (((((((((w6.setCell ⟨sb, 5, none⟩ (.slice la ll lc)).setCell ⟨w.heap.size, 0, none⟩ (.int .i64 13)).setCell ⟨w.heap.size, 1, none⟩ (.int .i64 ((pk E n).at_ : Nat))).setCell ⟨w.heap.size, 2, none⟩ (.string (mkT []))).setCell ⟨w.heap.size, 3, none⟩ (.pointer none)).setCell ⟨w.heap.size, 4, none⟩ (.pointer o)).setCell ⟨w.heap.size, 5, none⟩ (.slice la ll lc)).setCell ⟨w.heap.size, 6, none⟩ (.slice none 0 0)).setCell ⟨w.heap.size, 7, none⟩ (.slice none 0 0)) := (((((((((Keeps.refl (fun b => b = sb \/ b = w.heap.size) w6).setCell (S := fun b => b = sb \/ b = w.heap.size) (p := ⟨sb, 5, none⟩) (Or.inl (Or.inl rfl)) (.slice la ll lc)).setCell (S := fun b => b = sb \/ b = w.heap.size) (p := ⟨w.heap.size, 0, none⟩) (Or.inl (Or.inr rfl)) (.int .i64 13)).setCell (S := fun b => b = sb \/ b = w.heap.size) (p := ⟨w.heap.size, 1, none⟩) (Or.inl (Or.inr rfl)) (.int .i64 ((pk E n).at_ : Nat))).setCell (S := fun b => b = sb \/ b = w.heap.size) (p := ⟨w.heap.size, 2, none⟩) (Or.inl (Or.inr rfl)) (.string (mkT []))).setCell (S := fun b => b = sb \/ b = w.heap.size) (p := ⟨w.heap.size, 3, none⟩) (Or.inl (Or.inr rfl)) (.pointer none)).setCell (S := fun b => b = sb \/ b = w.heap.size) (p := ⟨w.heap.size, 4, none⟩) (Or.inl (Or.inr rfl)) (.pointer o)).setCell (S := fun b => b = sb \/ b = w.heap.size) (p := ⟨w.heap.size, 5, none⟩) (Or.inl (Or.inr rfl)) (.slice la ll lc)).setCell (S := fun b => b = sb \/ b = w.heap.size) (p := ⟨w.heap.size, 6, none⟩) (Or.inl (Or.inr rfl)) (.slice none 0 0)).setCell (S := fun b => b = sb \/ b = w.heap.size) (p := ⟨w.heap.size, 7, none⟩) (Or.inl (Or.inr rfl)) (.slice none 0 0)
   have hfin := st_final HSC.out HRt.out HKt.out hks HSB.out HLT.out
   refine bodyPost_ret (v := .agg #[.int .i64 13, .int .i64 ((pk E n).at_ : Nat), .string (mkT []), .pointer none, .pointer o, .slice la ll lc, .slice none 0 0, .slice none 0 0]) (by simp [results, Tryz.results150, go_sem, r0, r1, r2, r3, r4, r5, r6, r7]) rfl ⟨.ok (.mk 13 (pk E n).at_ [] .nil x l .nil .nil) _, HEVt.out, _, rfl, ⟨_, rfl, hfin.1⟩, hfin.2.1, hfin.2.2⟩
theorem stmt_any {dep : Nat} (hK : BlockC rb tv E dep) (hC : dep < 12 -> CaseC rb tv E (dep + 1)) : StmtC rb tv E dep := by
 intro n w h hE
 by_cases q0 : (pk E n).text = tClose
 ·exact stmt_close_any w h hE q0
 by_cases q1 : (pk E n).text = tPrint
 ·exact stmt_print_any w h hE q1
 by_cases q2 : (pk E n).text = tSleep
 ·exact stmt_sleep_any w h hE q2
 by_cases q3 : (pk E n).text = tGo
 ·exact stmt_go_any w h hE q3
 by_cases q4 : (pk E n).text = tReturn
 ·exact stmt_return_any w h hE q4
 by_cases q5 : (pk E n).text = tBreak
 ·exact stmt_break_any w h hE q5
 by_cases q6 : (pk E n).text = tContinue
 ·exact stmt_continue_any w h hE q6
 by_cases q7 : (pk E n).text = tIf
 ·exact stmt_if_any hK w h hE q7
 by_cases q8 : (pk E n).text = tFor
 ·exact stmt_for_any hK w h hE q8
 by_cases q9 : (pk E n).text = tSelect
 ·exact stmt_select_any hC w h hE q9
 exact stmt_plain_any w h hE q0 q1 q2 q3 q4 q5 q6 q7 q8 q9
theorem all_st : ∀ (q dep : Nat), 12 <= dep + q -> dep <= 12 -> StmtC rb tv E dep /\ BlockC rb tv E dep
 | 0, dep, h1, h2 => by
  have hK : BlockC rb tv E dep := block_any (fun h => by omega)
  exact ⟨stmt_any hK (fun h => by omega), hK⟩
 | q + 1, dep, h1, h2 => by
  have hK : BlockC rb tv E dep := block_any (fun h => (all_st q (dep + 1) (by omega) (by omega)).1)
  exact ⟨stmt_any hK (fun h => oneCase_any (all_st q (dep + 1) (by omega) (by omega)).1), hK⟩
theorem RBlock {dep : Nat} (h : dep <= 12) : BlockC rb tv E dep := (all_st 12 dep (by omega) h).2
theorem params_eq (f : Nat) (acc : List Pa) (n : Nat) : params E (f + 1) acc n = (takeKind E 1 n).bind fun t m => if kindV (pk E m).text = 0 then fail E 3 m else
   if (pk E (m + 1)).text = tComma then params E f (acc ++ [⟨t.text, kindV (pk E m).text, t.at_⟩]) (m + 2) else (take E tRp (m + 1)).bind fun _ m2 => .ok (acc ++ [⟨t.text, kindV (pk E m).text, t.at_⟩]) m2 := by rw [params]
def paCells : List Pa -> List Value
 | [] => []
 | p :: ps => [.string (mkT p.name), .int .i64 (p.kind : Nat), .int .i64 (p.at_ : Nat)] ++ paCells ps
theorem paCells_snoc : ∀ (l : List Pa) (p : Pa), paCells (l ++ [p]) = paCells l ++ [.string (mkT p.name), .int .i64 (p.kind : Nat), .int .i64 (p.at_ : Nat)]
 | [], _ => rfl
 | q :: l, p => by show _ ++ paCells (l ++ [p]) = _; rw [paCells_snoc l p]; rfl
theorem paCells_at : ∀ (l : List Pa) (i : Nat) (p : Pa), l[i]? = some p -> (paCells l)[i * 3]? = some (.string (mkT p.name)) /\ (paCells l)[i * 3 + 1]? = some (.int .i64 (p.kind : Nat)) /\ (paCells l)[i * 3 + 2]? = some (.int .i64 (p.at_ : Nat))
 | [], _, _, h => by cases h
 | q :: l, 0, p, h => by cases h; exact ⟨rfl, rfl, rfl⟩
 | q :: l, i + 1, p, h => by
  obtain ⟨h1, h2, h3⟩ := paCells_at l i p h
  rw [show (i + 1) * 3 = i * 3 + 3 by omega]
  exact ⟨h1, h2, h3⟩
theorem info_param : (Tryz.prog.info? 85).map (fun i => (i.zero, i.size, i.bytes)) = some (some (.agg #[.string ByteArray.empty, .int .i64 0, .int .i64 0]), 3, 32) := by kernel_rfl
def PaRow (w : World) (F : Nat -> Prop) (v : Value) (l : List Pa) : Prop :=
 (v = .slice none 0 0 /\ l = []) \/ ∃ g cap, v = .slice (some ⟨g, 0, none⟩) l.length cap /\ l.length <= cap /\ cap <= maxLen /\ F g /\ 0 < l.length /\ ∀ i p, l[i]? = some p -> w.cell? ⟨g, i * 3, none⟩ = some (.string (mkT p.name)) /\ w.cell? ⟨g, i * 3 + 1, none⟩ = some (.int .i64 (p.kind : Nat)) /\ w.cell? ⟨g, i * 3 + 2, none⟩ = some (.int .i64 (p.at_ : Nat))
theorem PaRow.keeps {F S : Nat -> Prop} {v : Value} {l : List Pa} (h : PaRow w F v l) (hk : Keeps S w w') (hF : ∀ b, F b -> ¬ S b) : PaRow w' F v l := by
 rcases h with h | ⟨g, cap, h1, h2, h3, h4, h5, h6⟩
 ·exact Or.inl h
 ·exact Or.inr ⟨g, cap, h1, h2, h3, h4, h5, fun i p hi => ⟨hk.cell_of (h6 i p hi).1 (hF g h4), hk.cell_of (h6 i p hi).2.1 (hF g h4), hk.cell_of (h6 i p hi).2.2 (hF g h4)⟩⟩
theorem PaRow.mono {F G : Nat -> Prop} (hF : ∀ b, b < w.heap.size -> F b -> G b) {v : Value} {l : List Pa} (h : PaRow w F v l) : PaRow w G v l := by
 rcases h with h | ⟨g, cap, h1, h2, h3, h4, h5, h6⟩
 ·exact Or.inl h
 ·exact Or.inr ⟨g, cap, h1, h2, h3, hF g (block_lt_of_cell (h6 0 _ (List.getElem?_eq_getElem h5)).1) h4, h5, h6⟩
def fu1 (name : B) (A : Nat) (pv : Value) (kind : Nat) (bv : Value) : List Value := [.string (mkT name), .int .i64 (A : Nat), pv, .int .i64 (kind : Nat), bv]
structure FunJ (w0 : World) (rb : Nat) (tv : Value) (E : Env) (dep rv fb : Nat) (wl : World) (A : Nat) (name : B) (W : World) (m : Nat) (acc : List Pa) : Prop where
 rd : RdAt W rb tv E m dep
 env : TEnv rb E W
 kp : Keeps (fun b => b = rb) w0 W
 cr : W.cell? ⟨rv, 0, none⟩ = some (.pointer (some ⟨rb, 0, none⟩))
 row : ∃ v, Blk W fb (fu1 name A v 0 (.slice none 0 0)) /\ W.ownsRow wl.heap.size 85 3 v acc.length (paCells acc) /\ (acc = [] -> v = .slice none 0 0)
 al : acc.length <= m
 lo : rb < w0.heap.size /\ w0.heap.size <= rv /\ rv < fb /\ fb < wl.heap.size /\ wl.heap.size <= W.heap.size
 kl : Keeps (fun b => b = rb \/ b = fb) wl W
theorem FunJ.on {w0 wl W W2 : World} {dep rv fb A m m2 : Nat} {name : B} {acc : List Pa} (h : FunJ w0 rb tv E dep rv fb wl A name W m acc) (hm : m <= m2) (hk : Keeps (fun b => b = rb) W W2) (hr : RdAt W2 rb tv E m2 dep) : FunJ w0 rb tv E dep rv fb wl A name W2 m2 acc := by
 obtain ⟨v, h1, h2, h3⟩ := h.row
 have hlo := h.lo
 exact ⟨hr, h.env.own hk, h.kp.trans hk, hk.cell_of h.cr (fun e => by have : rv = rb := e; omega), ⟨v, h1.keeps hk (fun e => by have : fb = rb := e; omega), hk.row h2 (fun b e e2 => by have := (own_ge h2 b e).1; have : b = rb := e2; omega), h3⟩, Nat.le_trans h.al hm, ⟨hlo.1, hlo.2.1, hlo.2.2.1, hlo.2.2.2.1, Nat.le_trans hlo.2.2.2.2 hk.size⟩, h.kl.trans (hk.mono (fun _ _ e => Or.inl e))⟩
theorem FunJ.next {w0 wl W W2 W5 : World} {dep rv fb A m m1 cap5 : Nat} {ao5 : Option Addr} {name : B} {acc : List Pa} {v : Value} {p : Pa} {o : Obj} (h : FunJ w0 rb tv E dep rv fb wl A name W m acc) (hm : acc.length + 1 <= m1) (hk : Keeps (fun b => b = rb) W W2) (hr : RdAt W2 rb tv E m1 dep)
  (hb1 : Blk W fb (fu1 name A v 0 (.slice none 0 0))) (ho1 : W.ownsRow wl.heap.size 85 3 v acc.length (paCells acc)) (hg : (W2.alloc o).grownBy W5 v.ownBlock)
  (ho : W5.ownsRow wl.heap.size 85 3 (.slice ao5 (acc.length + 1) cap5) (acc.length + 1) (paCells acc ++ [.string (mkT p.name), .int .i64 (p.kind : Nat), .int .i64 (p.at_ : Nat)])) (hnew : (Value.slice ao5 (acc.length + 1) cap5).ownBlock = v.ownBlock \/ (Value.slice ao5 (acc.length + 1) cap5).ownBlock = some (W2.heap.size + 1)) :
  FunJ w0 rb tv E dep rv fb wl A name (W5.setCell ⟨fb, 2, none⟩ (.slice ao5 (acc.length + 1) cap5)) m1 (acc ++ [p]) := by
 have hlo := h.lo
 have hw2 := hk.size
 have hk5 : Keeps (fun b => v.ownBlock = some b) W2 W5 := ((Keeps.refl (fun b => v.ownBlock = some b) W2).alloc o).trans' (Keeps.of_grownBy hg (fun k _ e => e)) (fun _ _ e => e)
 have hks : Keeps (fun b => b = fb) W5 (W5.setCell ⟨fb, 2, none⟩ (.slice ao5 (acc.length + 1) cap5)) := own1
 have hge := own_ge ho1
 have hb2 : Blk W2 fb (fu1 name A v 0 (.slice none 0 0)) := hb1.keeps hk (fun e => by have : fb = rb := e; omega)
 have hb5 : Blk W5 fb (fu1 name A v 0 (.slice none 0 0)) := hb2.keeps hk5 (fun e => by have := (hge fb e).1; omega)
 have hgn : ∀ b, (Value.slice ao5 (acc.length + 1) cap5).ownBlock = some b -> wl.heap.size <= b := fun b e => by
  rcases hnew with h3 | h3
  ·exact (hge b (h3 ▸ e)).1
  ·rw [h3] at e; have := Option.some.inj e; omega
 have hs5 := hk5.size
 have hss := hks.size
 refine ⟨(hr.keeps hk5 (fun b e => by have := (hge b e).1; omega)).keeps hks (fun b e => by have : b = fb := e; omega), ((h.env.own hk).keeps hk5 (fun b e => by have := (hge b e).1; omega)).keeps hks (fun b e => by have : b = fb := e; omega), ((h.kp.trans hk).trans' hk5 (fun i hi e => by have := (hge i e).1; omega)).trans' hks (fun i hi e => by have : i = fb := e; omega), hks.cell_of (hk5.cell_of (hk.cell_of h.cr (fun e => by have : rv = rb := e; omega)) (fun e => by have := (hge rv e).1; omega)) (fun e => by have : rv = fb := e; omega), ⟨_, hb5.set 2 (.slice ao5 (acc.length + 1) cap5) (by simp [fu1]), ?_, fun e => absurd e (by simp)⟩, by rw [List.length_append]; exact hm, ⟨hlo.1, hlo.2.1, hlo.2.2.1, hlo.2.2.2.1, by omega⟩, ((h.kl.trans (hk.mono (fun _ _ e => Or.inl e))).trans' hk5 (fun i hi e => by have := (hge i e).1; omega)).trans (hks.mono (fun _ _ e => Or.inr e))⟩
 rw [List.length_append, paCells_snoc]
 exact hks.row ho (fun b e e2 => by have := hgn b e; have : b = fb := e2; omega)
theorem FunJ.pas {w0 wl W : World} {dep rv fb A m : Nat} {name : B} {acc : List Pa} (h : FunJ w0 rb tv E dep rv fb wl A name W m acc) : ∃ v, Blk W fb (fu1 name A v 0 (.slice none 0 0)) /\ PaRow W (fun b => wl.heap.size <= b) v acc := by
 obtain ⟨v, h1, h2, h3⟩ := h.row
 refine ⟨v, h1, ?_⟩
 by_cases hz : acc = []
 ·exact Or.inl ⟨h3 hz, hz⟩
 ·have hpos : 0 < acc.length := List.length_pos_iff.2 hz
  rcases h2.2 with ⟨_, e⟩ | ⟨g, cap, cur, e1, e2, _, e3, e4, _⟩
  ·omega
  ·refine Or.inr ⟨g, cap, e1, e3, e4, e2, hpos, fun i p hi => ?_⟩
   obtain ⟨a1, a2, a3⟩ := paCells_at acc i p hi
   have hin := (List.getElem?_eq_some_iff.1 hi).1
   subst e1
   rw [World.ownsRow.cellAt h2 (i * 3) (by omega), World.ownsRow.cellAt h2 (i * 3 + 1) (by omega), World.ownsRow.cellAt h2 (i * 3 + 2) (by omega)]
   exact ⟨a1, a2, a3⟩
theorem funItem_any {w0 wl W : World} {dep rv fb A m : Nat} {name : B} {acc : List Pa} (hJ : FunJ w0 rb tv E dep rv fb wl A name W m acc) :
  Calls Tryz.prog 91 #[.pointer (some ⟨rv, 0, none⟩), .pointer (some ⟨fb, 0, none⟩)] W fun e W' =>
   (∃ k a, Ev (fun f => params E f acc m) (.bad k a) /\ Threw W W' rb k a e) \/ (∃ acc' m', m < m' /\ e = .returned (.tuple #[]) /\ FunJ w0 rb tv E dep rv fb wl A name W' m' acc' /\ ∀ r, AfterItem E (fun acc m r => Ev (fun f => params E f acc m) r) acc' m' r -> Ev (fun f => params E f acc m) r) := by
 have HJ := zz hJ
 have HLT := zz hJ.rd.lt
 have cr := hJ.cr
 have HTK := zz (takeKind_tok 1 (by decide) W hJ.rd)
 clear hJ
 cases ht : takeKind E 1 m with
 | out => exact absurd ht (takeKind_ne E _ _)
 | bad k a =>
  rw [ht] at HTK
  have HT := zz ht
  clear ht
  go_enter Tryz.func91, Tryz.ntmps91
  go_wp2_with fail
  refine HTK.out.mono ?_
  rintro e w1 hth
  have hth' : Threw W w1 rb k a e := hth
  obtain ⟨b, rfl⟩ := threw_panic hth'
  exact ⟨rfl, Or.inl ⟨k, a, Ev.now (fun e => by cases e) fun f => (by rw [params_eq, HT.out]; rfl), hth'⟩⟩
 | ok t m1 =>
  rw [ht] at HTK
  have HT := zz ht
  have HM1 := zz (takeKind_on ht)
  clear ht
  unfold Says TokIs tokV at HTK
  simp only at HTK
  generalize hTT : mkT t.text = T at *
  go_enter Tryz.func91, Tryz.ntmps91
  go_wp2_with fail
  refine HTK.out.mono ?_
  rintro e w1 ⟨v, rfl, rfl, hr1, hk1⟩
  have hj1 := HJ.out.on (Nat.le_of_lt HM1.out) hk1 hr1
  have HJ1 := zz hj1
  have HK1 := zz hk1
  have hb2 : Below w1.heap.size w1 (w1.alloc (.cells #[.int .i64 (t.kind : Nat), .string T, .int .i64 (t.at_ : Nat)] 100)) := ((Keeps.refl (fun _ => False) w1).alloc _).below (Nat.le_refl _) (fun _ _ e => e.elim)
  have cr2 : (w1.alloc (.cells #[.int .i64 (t.kind : Nat), .string T, .int .i64 (t.at_ : Nat)] 100)).cell? ⟨rv, 0, none⟩ = some (.pointer (some ⟨rb, 0, none⟩)) := cell_more hj1.cr
  have hE2 := hj1.env.fresh hb2
  have HKD := zz (kind_tok _ (hr1.fresh hb2) hE2.kinds (by have := hE2.b2; have := HLT.out; have := hk1.size; have := hb2.size; omega))
  have HTC := zz (tokC_new w1 t.kind t.at_ T 100)
  have HB2 := zz hb2
  clear hj1 hr1 hk1 hb2 hE2 cr
  have crx : w1.cell? ⟨rv, 0, none⟩ = some (.pointer (some ⟨rb, 0, none⟩)) := HJ1.out.cr
  go_wp2_with fail
  refine HKD.out.mono ?_
  rintro e w3 ⟨rfl, hr3, hk3⟩
  clear crx cr2
  by_cases hz : kindV (pk E m1).text = 0
  ·rw [if_pos hz] at hr3
   have e0 : (((kindV (pk E m1).text : Nat) : Int) == 0) = true := by rw [hz]; rfl
   have HZ := zz hz
   have HK3 := zz hk3
   have crw : w3.cell? ⟨rv, 0, none⟩ = some (.pointer (some ⟨rb, 0, none⟩)) := hk3.cell_of (cell_more HJ1.out.cr) (fun e => by have := HJ.out.lo; have : rv = rb := e; omega)
   have HF := zz (fail_any 3 w3 hr3)
   clear hz hr3 hk3
   go_wp2_with fail
   refine HF.out.mono ?_
   rintro e w4 hth
   have hth2 : Threw W w4 rb 3 (pk E m1).at_ e := hth.own HLT.out ((HK1.out.trans (Keeps.of_new HB2.out)).trans HK3.out)
   obtain ⟨b, rfl⟩ := threw_panic hth
   exact ⟨rfl, Or.inl ⟨3, _, Ev.now (fun e => by cases e) fun f => (by rw [params_eq, HT.out]; show (if _ then _ else _) = _; rw [if_pos HZ.out]; rfl), hth2⟩⟩
  ·rw [if_neg hz] at hr3
   have hk13 : Keeps (fun b => b = rb) w1 w3 := (Keeps.of_new HB2.out).trans hk3
   have hj3 := HJ1.out.on (Nat.le_succ _) hk13 hr3
   obtain ⟨av, hblk, hown, hzero⟩ := hj3.row
   have hform : ∃ ao cap, av = .slice ao acc.length cap := by
    rcases hown.2 with ⟨e1, e2⟩ | ⟨g, cap, cur, e1, _⟩
    ·exact ⟨none, 0, by rw [e1, e2]⟩
    ·exact ⟨_, _, e1⟩
   obtain ⟨ao0, cap0, rfl⟩ := hform
   obtain ⟨i0, hi, hz0, hz1, hz2⟩ := tinfo info_param
   have e0 : (((kindV (pk E m1).text : Nat) : Int) == 0) = false := beq_eq_false_iff_ne.2 (by omega)
   have htc := HTC.out.keeps hk3 (fun e => by have h1 := HK1.out.size; have h2 := HLT.out; omega)
   have p1 := htc.c1
   have p2 := htc.c2
   have crw := hj3.cr
   have c2 := hblk.at_ 2 _ rfl
   have z2 := hblk.free 2
   have hlo := hj3.lo
   have hal := hj3.al
   have hn := hj3.rd.hn
   have hl := hj3.rd.hl
   have HML : Hid (acc.length + 1 <= maxLen) := zz (by unfold maxLen; omega)
   have HBY : Hid ((acc.length + 1) * 32 <= 140737488355328) := zz (by omega)
   have HZ := zz hz
   have HJ3 := zz hj3
   have HBK := zz hblk
   have HOW := zz hown
   have HK13 := zz hk13
   have HCN := zz (cells_new w3 [.string T, .int .i64 (kindV (pk E m1).text : Nat), .int .i64 (t.at_ : Nat)] 85)
   have HH1 : Hid (∀ x ∈ [Value.string T, .int .i64 (kindV (pk E m1).text : Nat), .int .i64 (t.at_ : Nat)], x.oneCell' = true) := zz (fun x hx => by simp at hx; rcases hx with rfl | rfl | rfl <;> rfl)
   have HHB : Hid (wl.heap.size <= w3.heap.size /\ fb < wl.heap.size) := zz ⟨hlo.2.2.2.2, hlo.2.2.2.1⟩
   have hfl : fb < w3.heap.size := by omega
   clear hz hr3 hk3 hk13 hj3 hblk hown hzero htc hlo hal hn hl
   go_wp2_with (at_builtin; refine wpList_append_own_at _ rfl _ _ 42 rfl wl.heap.size 85 i0 (.agg #[.string ByteArray.empty, .int .i64 0, .int .i64 0]) 3 32 Tryz.underlying42 hi hz0 hz1 hz2 rfl (by decide) _ _ _ rfl (World.ownsRow.alloc HOW.out _) ⟨w3.heap.size, 0, none⟩ 1 1 [.string T, .int .i64 (kindV (pk E m1).text : Nat), .int .i64 (t.at_ : Nat)] rfl rfl HCN.out HH1.out HML.out HBY.out (by have := HHB.out; simp; omega) ?_)
   intro v5 w5 hown5 hgrow _ hnew
   have hv5 : ∃ ao cap, v5 = .slice ao (acc.length + 1) cap := by
    rcases hown5.2 with ⟨_, h0⟩ | ⟨g, cap, cur, e, _⟩
    ·omega
    ·exact ⟨_, _, e⟩
   obtain ⟨ao5, cap5, rfl⟩ := hv5
   have hk5 : Keeps (fun b => (Value.slice ao0 acc.length cap0).ownBlock = some b) w3 w5 := ((Keeps.refl (fun b => (Value.slice ao0 acc.length cap0).ownBlock = some b) w3).alloc _).trans' (Keeps.of_grownBy hgrow (fun k _ e => e)) (fun _ _ e => e)
   have hnb : ¬ (Value.slice ao0 acc.length cap0).ownBlock = some fb := fun e => by have := (own_ge HOW.out fb e).1; have := HHB.out; omega
   have c25 : w5.cell? ⟨fb, 2, none⟩ = some (.slice ao0 acc.length cap0) := hk5.cell_of c2 hnb
   have z25 : w5.frozen? ⟨fb, 2, none⟩ = false := by rw [hk5.frozen (p := ⟨fb, 2, none⟩) hfl hnb]; exact z2
   have HO5 := zz hown5
   have HG5 := zz hgrow
   have HN5 := zz hnew
   clear hown5 hgrow hnew hk5 hnb p1 p2 c2 z2 crw
   go_wp2_with fail
   go_end0
   have hnx := HJ3.out.next (p := ⟨t.text, kindV (pk E m1).text, t.at_⟩) (Nat.succ_le_succ HJ1.out.al) (Keeps.refl _ _) HJ3.out.rd HBK.out HOW.out HG5.out (by have := HO5.out; rw [<- hTT] at this; exact this) (by simpa using HN5.out)
   refine Or.inr ⟨acc ++ [⟨t.text, kindV (pk E m1).text, t.at_⟩], m1 + 1, by have := HM1.out; omega, rfl, hnx, fun r hr => ?_⟩
   rcases hr with ⟨h4, h5⟩ | ⟨h4, rfl⟩
   ·refine Ev.step (h := fun f => params E f (acc ++ [⟨t.text, kindV (pk E m1).text, t.at_⟩]) (m1 + 2)) (fun f => ?_) h5
    rw [params_eq, HT.out]
    show (if _ then _ else _) = _
    rw [if_neg HZ.out, if_pos h4]
   ·have hne : ((take E tRp (m1 + 1)).bind fun _ m2 => .ok (acc ++ [⟨t.text, kindV (pk E m1).text, t.at_⟩]) m2 : Res (List Pa)) ≠ .out := by
     cases hq : take E tRp (m1 + 1) with
     | out => exact absurd hq (take_ne E _ _)
     | bad k a => intro e; cases e
     | ok t n => intro e; cases e
    refine Ev.now hne fun f => ?_
    rw [params_eq, HT.out]
    show (if _ then _ else _) = _
    rw [if_neg HZ.out, if_neg h4]
def FuC (w : World) (F : Nat -> Prop) (vs : List Value) (g : Fu) : Prop := ∃ pv bv, vs = fu1 g.name g.at_ pv g.kind bv /\ PaRow w F pv g.params /\ StsF w F g.body bv
def FuV (w w' : World) (g : Fu) (v : Value) : Prop := ∃ vs : List Value, v = .agg vs.toArray /\ FuC w' (fun b => w.heap.size <= b) vs g
theorem PaRow.form {F : Nat -> Prop} {v : Value} {l : List Pa} (h : PaRow w F v l) : ∃ a c, v = .slice a l.length c := by
 rcases h with ⟨h, h2⟩ | ⟨g, cap, h, _⟩
 ·exact ⟨none, 0, by rw [h, h2]; rfl⟩
 ·exact ⟨_, _, h⟩
theorem listR_ev {r : Res (List Pa)} (hr : r ≠ .out) (h : ListR E (fun acc m r => Ev (fun f => params E f acc m) r) [] n r) : Ev (fun f => (take E tLp n).bind fun _ n3 => if (pk E n3).text = tRp then .ok [] (n3 + 1) else params E f [] n3) r := by
 rcases h with ⟨k, a, h1, rfl⟩ | ⟨t1, n1, h1, ⟨h2, rfl⟩ | ⟨h2, h3⟩⟩
 ·exact Ev.pure (fun e => by cases e) fun f => by rw [h1]; rfl
 ·exact Ev.pure (fun e => by cases e) fun f => by rw [h1]; show (if _ then _ else _) = _; rw [if_pos h2]
 ·exact ⟨hr, h3.2.imp fun f0 hf f hle => by rw [h1]; show (if _ then _ else _) = _; rw [if_neg h2]; exact hf f hle⟩
theorem funItems {w0 : World} {dep rv fb A : Nat} {name : B} (hk : Keeps (fun b => b = rb) w0 w) (hlt : rb < w0.heap.size) :
  ItemC w rb tv E dep 91 #[.pointer (some ⟨rv, 0, none⟩), .pointer (some ⟨fb, 0, none⟩)]
   (fun W m acc => FunJ w0 rb tv E dep rv fb w A name W m acc) (fun acc m r => Ev (fun f => params E f acc m) r) :=
 ⟨fun _ _ _ h => h.rd, fun _ _ _ _ _ hm h hk2 hr2 => h.on hm hk2 hr2, fun _ _ _ h => below_of_two hk h.kp h.lo.2.2.2.2 (Nat.le_of_lt hlt) (fun b e => Nat.le_of_eq (show rb = b from e.symm)), fun _ _ _ h => funItem_any h⟩
theorem function_any (w : World) (h : RdAt w rb tv E n 0) (hE : TEnv rb E w) : Calls Tryz.prog 61 #[.pointer (some ⟨rb, 0, none⟩)] w fun e w' => ∃ r, Ev (fun f => Tr.function E f n) r /\ Says FuV w w' rb tv E 0 r e := by
 have hb0 : Below w.heap.size w ((w.alloc (.cells #[.pointer (some ⟨rb, 0, none⟩)] 109)).alloc (.cells #[.string ⟨#[]⟩, .int .i64 0, .slice none 0 0, .int .i64 0, .slice none 0 0] 45)) := ((Keeps.refl (fun _ => False) w).alloc _).alloc _ |>.below (Nat.le_refl _) (fun _ _ e => e.elim)
 have cr0 : ((w.alloc (.cells #[.pointer (some ⟨rb, 0, none⟩)] 109)).alloc (.cells #[.string ⟨#[]⟩, .int .i64 0, .slice none 0 0, .int .i64 0, .slice none 0 0] 45)).cell? ⟨w.heap.size, 0, none⟩ = some (.pointer (some ⟨rb, 0, none⟩)) := cell_more (cell_new _ _ _ 0 _ rfl rfl)
 have rv0 : Blk ((w.alloc (.cells #[.pointer (some ⟨rb, 0, none⟩)] 109)).alloc (.cells #[.string ⟨#[]⟩, .int .i64 0, .slice none 0 0, .int .i64 0, .slice none 0 0] 45)) (w.heap.size + 1) (fu1 [] 0 (.slice none 0 0) 0 (.slice none 0 0)) := Blk.new' _ (fu1 [] 0 (.slice none 0 0) 0 (.slice none 0 0)) _ (by simp)
 have htk := take_tok ⟨#[102, 117, 110, 99]⟩ (by decide) _ (h.fresh hb0)
 have e1 : (⟨#[102, 117, 110, 99]⟩ : ByteArray).data.toList = tFunc := rfl
 rw [e1] at htk
 have HT := zz htk
 have HE := zz hE
 have HLT := zz h.lt
 have HB0 := zz hb0
 have HCR0 := zz cr0
 have HRV0 := zz rv0
 clear h hE htk e1 hb0 cr0 rv0
 cases ht : take E tFunc n with
 | out => exact absurd ht (take_ne E _ _)
 | bad k a =>
  rw [ht] at HT
  have HEV : Hid (Ev (fun f => Tr.function E f n) (.bad k a)) := zz (Ev.pure (fun e => by cases e) fun f => by unfold Tr.function; rw [ht]; rfl)
  clear ht
  go_enter Tryz.func61, Tryz.ntmps61
  go_wp2_with fail
  refine HT.out.mono ?_
  rintro e w1 hth
  have hth2 := Threw.with (S := fun _ => False) hth HLT.out (Keeps.of_new HB0.out) (fun b e => e.elim)
  obtain ⟨b, rfl⟩ := threw_panic hth
  exact ⟨rfl, _, HEV.out, hth2⟩
 | ok t0 n1 =>
  rw [ht] at HT
  have HT0 := zz ht
  clear ht
  go_enter Tryz.func61, Tryz.ntmps61
  go_wp2_with fail
  refine HT.out.mono ?_
  rintro e w1 ⟨v1, rfl, _, hr1, hk1⟩
  have hlt0 := HLT.out
  have cr1 : w1.cell? ⟨w.heap.size, 0, none⟩ = some (.pointer (some ⟨rb, 0, none⟩)) := hk1.cell_of HCR0.out (fun e => by have : w.heap.size = rb := e; omega)
  have HRV1 := zz (HRV0.out.keeps hk1 (fun e => by have : w.heap.size + 1 = rb := e; omega))
  have HK1 : Hid (Keeps (fun b => b = rb) w w1) := zz ((Keeps.of_new HB0.out).trans hk1)
  have HTK := zz (takeKind_tok 1 (by decide) w1 hr1)
  clear hr1 hk1 hlt0
  go_wp2_with fail
  cases ht : takeKind E 1 n1 with
  | out => exact absurd ht (takeKind_ne E _ _)
  | bad k a =>
   rw [ht] at HTK
   refine HTK.out.mono ?_
   rintro e w2 hth
   have hth2 := Threw.own hth HLT.out HK1.out
   obtain ⟨b, rfl⟩ := threw_panic hth
   refine ⟨rfl, .bad k a, Ev.pure (fun e => by cases e) fun f => ?_, hth2⟩
   unfold Tr.function; rw [HT0.out]
   show (takeKind E 1 n1).bind _ = _
   rw [ht]; rfl
  | ok t n2 =>
   rw [ht] at HTK
   have HT1 := zz ht
   clear ht
   unfold Says TokIs tokV at HTK
   simp only at HTK
   refine HTK.out.mono ?_
   rintro e w2 ⟨v2, rfl, rfl, hr2, hk2⟩
   have hlt0 := HLT.out
   have hsz1 := HK1.out.size
   have hsz2 := hk2.size
   have hlv1 := HRV1.out.lt
   have cr2 := hk2.cell_of cr1 (fun e => by have : w.heap.size = rb := e; omega)
   have hrv2 := HRV1.out.keeps hk2 (fun e => by have : w.heap.size + 1 = rb := e; omega)
   obtain ⟨fb, hfb⟩ : ∃ fb, fb = w2.heap.size + 1 := ⟨_, rfl⟩
   have hb3 : Below w2.heap.size w2 ((w2.alloc (.cells #[.int .i64 (t.kind : Nat), .string (mkT t.text), .int .i64 (t.at_ : Nat)] 100)).alloc (.cells #[.string (mkT t.text), .int .i64 (t.at_ : Nat), .slice none 0 0, .int .i64 0, .slice none 0 0] 45)) := ((Keeps.refl (fun _ => False) w2).alloc _).alloc _ |>.below (Nat.le_refl _) (fun _ _ e => e.elim)
   have hB3 : Blk ((w2.alloc (.cells #[.int .i64 (t.kind : Nat), .string (mkT t.text), .int .i64 (t.at_ : Nat)] 100)).alloc (.cells #[.string (mkT t.text), .int .i64 (t.at_ : Nat), .slice none 0 0, .int .i64 0, .slice none 0 0] 45)) fb (fu1 t.text t.at_ (.slice none 0 0) 0 (.slice none 0 0)) := Blk.new' _ (fu1 t.text t.at_ (.slice none 0 0) 0 (.slice none 0 0)) _ (by rw [hfb]; simp)
   have hsz3 : ((w2.alloc (.cells #[.int .i64 (t.kind : Nat), .string (mkT t.text), .int .i64 (t.at_ : Nat)] 100)).alloc (.cells #[.string (mkT t.text), .int .i64 (t.at_ : Nat), .slice none 0 0, .int .i64 0, .slice none 0 0] 45)).heap.size = w2.heap.size + 2 := by simp
   have hk3 : Keeps (fun b => b = rb) w ((w2.alloc (.cells #[.int .i64 (t.kind : Nat), .string (mkT t.text), .int .i64 (t.at_ : Nat)] 100)).alloc (.cells #[.string (mkT t.text), .int .i64 (t.at_ : Nat), .slice none 0 0, .int .i64 0, .slice none 0 0] 45)) := (HK1.out.trans hk2).trans (Keeps.of_new hb3)
   have cr3 : ((w2.alloc (.cells #[.int .i64 (t.kind : Nat), .string (mkT t.text), .int .i64 (t.at_ : Nat)] 100)).alloc (.cells #[.string (mkT t.text), .int .i64 (t.at_ : Nat), .slice none 0 0, .int .i64 0, .slice none 0 0] 45)).cell? ⟨w.heap.size, 0, none⟩ = some (.pointer (some ⟨rb, 0, none⟩)) := cell_more (cell_more cr2)
   have hJ : FunJ w rb tv E 0 w.heap.size fb ((w2.alloc (.cells #[.int .i64 (t.kind : Nat), .string (mkT t.text), .int .i64 (t.at_ : Nat)] 100)).alloc (.cells #[.string (mkT t.text), .int .i64 (t.at_ : Nat), .slice none 0 0, .int .i64 0, .slice none 0 0] 45)) t.at_ t.text ((w2.alloc (.cells #[.int .i64 (t.kind : Nat), .string (mkT t.text), .int .i64 (t.at_ : Nat)] 100)).alloc (.cells #[.string (mkT t.text), .int .i64 (t.at_ : Nat), .slice none 0 0, .int .i64 0, .slice none 0 0] 45)) n2 [] :=
    ⟨hr2.fresh hb3, (HE.out.own (HK1.out.trans hk2)).fresh hb3, hk3, cr3, ⟨_, hB3, World.ownsRow_nil _ _ _ _, fun _ => rfl⟩, Nat.zero_le _, ⟨hlt0, Nat.le_refl _, by omega, by rw [hsz3]; omega, Nat.le_refl _⟩, Keeps.refl _ _⟩
   have HLS := zz (list_fn (funItems hk3 hlt0) [] hJ)
   have HRV3 := zz (hrv2.keeps (S := fun _ => False) (Keeps.of_new hb3) id)
   have HK3 := zz hk3
   have HFB := zz hfb
   have HSZ3 := zz (show w.heap.size + 1 < fb by omega)
   clear hr2 hk2 hlt0 hsz1 hsz2 hlv1 hrv2 hb3 hB3 hsz3 hk3 hJ
   go_wp2_with fail
   rw [<- hfb]
   clear hfb
   have HEVF : Hid (∀ r, Ev (fun f => ((take E tLp n2).bind fun _ n3 => if (pk E n3).text = tRp then .ok [] (n3 + 1) else params E f [] n3).bind fun ps n4 => (Tr.block E f 0 (if kindV (pk E n4).text = 0 then n4 else n4 + 1)).bind fun b n5 => .ok ⟨t.text, t.at_, ps, kindV (pk E n4).text, b⟩ n5) r -> Ev (fun f => Tr.function E f n) r) := zz fun r hr => ⟨hr.1, hr.2.imp fun f0 hf f hle => by
    show Tr.function E f n = _
    unfold Tr.function
    rw [HT0.out]
    show (takeKind E 1 n1).bind _ = _
    rw [HT1.out, <- hf f hle]
    simp only [bind_assoc]
    rfl⟩
   refine HLS.out.mono ?_
   rintro e w4 ⟨r, hl, hsay⟩
   cases r with
   | out => exact hsay.elim
   | bad k a =>
    have hsay' : Threw _ w4 rb k a e := hsay
    have HEV := zz (HEVF.out _ (Ev.bad (listR_ev (fun e => by cases e) hl)))
    obtain ⟨b, rfl⟩ := threw_panic hsay'
    exact ⟨rfl, _, HEV.out, hsay'.own HLT.out HK3.out⟩
   | ok ps n4 =>
    obtain ⟨rfl, hj4⟩ := hsay
    have HEVL := zz (listR_ev (fun e => by cases e) hl)
    obtain ⟨pv, hB4, hP4⟩ := hj4.pas
    obtain ⟨pa, pc, rfl⟩ := hP4.form
    have hlo4 := hj4.lo
    have cr4 := hj4.cr
    have HKD := zz (kind_tok w4 hj4.rd hj4.env.kinds (by have := hj4.env.b2; omega))
    have hrv4 := HRV3.out.keeps hj4.kl (fun e => by have := HSZ3.out; rcases e with e | e <;> omega)
    have HB4 := zz hB4
    have HP4 := zz hP4
    have HRV4 := zz hrv4
    have HJ4 := zz hj4
    have HLO := zz (show rb < w.heap.size /\ w.heap.size + 1 < fb from ⟨hlo4.1, HSZ3.out⟩)
    have HWL := zz (show fb < w4.heap.size from hB4.lt)
    have HP4' : Hid (PaRow w4 (fun b => fb < b) (.slice pa ps.length pc) ps) := zz (PaRow.mono (fun b _ e => by have := hlo4.2.2.2.1; omega) hP4)
    clear hl hlo4 hB4 hP4 hrv4 hj4
    go_wp2_with fail
    refine HKD.out.mono ?_
    rintro e w5 ⟨rfl, hr5, hk5⟩
    have hL := HLO.out
    have hB5 := HB4.out.keeps hk5 (fun e => by have : fb = rb := e; omega)
    have cr5 : w5.cell? ⟨w.heap.size, 0, none⟩ = some (.pointer (some ⟨rb, 0, none⟩)) := hk5.cell_of cr4 (fun e => by have : w.heap.size = rb := e; omega)
    have c3 := hB5.at_ 3 _ rfl
    have z3 := hB5.free 3
    have hks : Keeps (fun b => b = fb) w5 (w5.setCell ⟨fb, 3, none⟩ (.int .i64 (kindV (pk E n4).text : Nat))) := own1
    have hB6 : Blk (w5.setCell ⟨fb, 3, none⟩ (.int .i64 (kindV (pk E n4).text : Nat))) fb (fu1 t.text t.at_ (.slice pa ps.length pc) (kindV (pk E n4).text) (.slice none 0 0)) := hB5.set 3 (.int .i64 (kindV (pk E n4).text : Nat)) (by simp [fu1])
    have cr6 : (w5.setCell ⟨fb, 3, none⟩ (.int .i64 (kindV (pk E n4).text : Nat))).cell? ⟨w.heap.size, 0, none⟩ = some (.pointer (some ⟨rb, 0, none⟩)) := hks.cell_of cr5 (fun e => by have : w.heap.size = fb := e; omega)
    have hk6 : Keeps (fun b => b = rb) w (w5.setCell ⟨fb, 3, none⟩ (.int .i64 (kindV (pk E n4).text : Nat))) := (HJ4.out.kp.trans hk5).trans' hks (fun i hi e => by have : i = fb := e; omega)
    have HB6 := zz hB6
    have HP6 : Hid (PaRow (w5.setCell ⟨fb, 3, none⟩ (.int .i64 (kindV (pk E n4).text : Nat))) (fun b => fb < b) (.slice pa ps.length pc) ps) := zz ((HP4'.out.keeps hk5 (fun b e e2 => by have : fb < b := e; have : b = rb := e2; omega)).keeps hks (fun b e e2 => by have : fb < b := e; have : b = fb := e2; omega))
    have HRV6 := zz ((HRV4.out.keeps hk5 (fun e => by have : w.heap.size + 1 = rb := e; omega)).keeps hks (fun e => by have : w.heap.size + 1 = fb := e; omega))
    have HK6 := zz hk6
    have HBL := zz (RBlock (dep := 0) (by decide) (if kindV (pk E n4).text = 0 then n4 else n4 + 1) _ (hr5.two hks (by omega)) (HE.out.own hk6))
    have HNE := zz (show ¬ fb = rb /\ ¬ w.heap.size + 1 = rb by omega)
    clear hL hB5 hks hB6 hr5 hk5 hk6 cr4
    have HEV4 : Hid (∀ r, Ev (fun f => (Tr.block E f 0 (if kindV (pk E n4).text = 0 then n4 else n4 + 1)).bind fun b n5 => .ok ⟨t.text, t.at_, ps, kindV (pk E n4).text, b⟩ n5) r -> Ev (fun f => Tr.function E f n) r) := zz fun r hr => HEVF.out _ (Ev.then HEVL.out hr)
    generalize kindV (pk E n4).text = kk at *
    go_wp2_with fail
    refine HBL.out.mono ?_
    rintro e w7 ⟨r, hev, hsay⟩
    clear c3 z3 cr5 cr6
    have HEV : Hid (Ev (fun f => Tr.function E f n) (r.bind fun b n5 => .ok ⟨t.text, t.at_, ps, kk, b⟩ n5)) := zz (HEV4.out _ (Ev.map _ (fun _ _ e => by cases e) hev))
    cases r with
    | out => exact hsay.elim
    | bad k a =>
     have hsay' : Threw _ w7 rb k a e := hsay
     obtain ⟨b, rfl⟩ := threw_panic hsay'
     exact ⟨rfl, _, HEV.out, hsay'.own HLT.out HK6.out⟩
    | ok l n5 =>
     obtain ⟨v7, rfl, hl7, hr7, hk7⟩ := hsay
     obtain ⟨la, ll, lc, rfl⟩ := hl7.1.form
     have hB7 := HB6.out.keeps hk7 HNE.out.1
     have hV7 := HRV6.out.keeps hk7 HNE.out.2
     have c0 := hB7.at_ 0 _ rfl
     have c1 := hB7.at_ 1 _ rfl
     have c2 := hB7.at_ 2 _ rfl
     have c3 := hB7.at_ 3 _ rfl
     have c4 := hB7.at_ 4 _ rfl
     have z4 := hB7.free 4
     have r0 := hV7.at_ 0 _ rfl
     have r1 := hV7.at_ 1 _ rfl
     have r2 := hV7.at_ 2 _ rfl
     have r3 := hV7.at_ 3 _ rfl
     have r4 := hV7.at_ 4 _ rfl
     have y0 := hV7.free 0
     have y1 := hV7.free 1
     have y2 := hV7.free 2
     have y3 := hV7.free 3
     have y4 := hV7.free 4
     have hne : w.heap.size + 1 ≠ fb := by have := HLO.out; omega
     have hne2 : fb ≠ w.heap.size + 1 := fun e => hne e.symm
     have hsz6 := HK6.out.size
     have HL7 : Hid (StsF w7 (fun b => fb < b) l (.slice la ll lc)) := zz (StsF.mono (fun b e => by have h1 := HB6.out.lt; have h2 : _ <= b := e; show fb < b; omega) hl7)
     have HP7 : Hid (PaRow w7 (fun b => fb < b) (.slice pa ps.length pc) ps) := zz (HP6.out.keeps hk7 (fun b e e2 => by have : fb < b := e; have : b = rb := e2; have := HLO.out; omega))
     have HR7 := zz hr7
     have HK7 := zz (HK6.out.trans hk7)
     have HNN := zz hne
     clear hB7 hV7 hl7 hr7 hk7 hev hsz6
     go_wp2_with fail
     have hks : Keeps (fun b => b = fb \/ b = w.heap.size + 1) w7 ((((((w7.setCell ⟨fb, 4, none⟩ (.slice la ll lc)).setCell ⟨w.heap.size + 1, 0, none⟩ (.string (mkT t.text))).setCell ⟨w.heap.size + 1, 1, none⟩ (.int .i64 (t.at_ : Nat))).setCell ⟨w.heap.size + 1, 2, none⟩ (.slice pa ps.length pc)).setCell ⟨w.heap.size + 1, 3, none⟩ (.int .i64 (kk : Nat))).setCell ⟨w.heap.size + 1, 4, none⟩ (.slice la ll lc)) :=
      (((((((Keeps.refl (fun b => b = fb \/ b = w.heap.size + 1) w7).setCell (S := fun b => b = fb \/ b = w.heap.size + 1) (p := ⟨fb, 4, none⟩) (Or.inl (Or.inl rfl)) _).setCell (S := fun b => b = fb \/ b = w.heap.size + 1) (p := ⟨w.heap.size + 1, 0, none⟩) (Or.inl (Or.inr rfl)) _).setCell (S := fun b => b = fb \/ b = w.heap.size + 1) (p := ⟨w.heap.size + 1, 1, none⟩) (Or.inl (Or.inr rfl)) _).setCell (S := fun b => b = fb \/ b = w.heap.size + 1) (p := ⟨w.heap.size + 1, 2, none⟩) (Or.inl (Or.inr rfl)) _).setCell (S := fun b => b = fb \/ b = w.heap.size + 1) (p := ⟨w.heap.size + 1, 3, none⟩) (Or.inl (Or.inr rfl)) _).setCell (S := fun b => b = fb \/ b = w.heap.size + 1) (p := ⟨w.heap.size + 1, 4, none⟩) (Or.inl (Or.inr rfl)) _)
     have hL := HLO.out
     have hm : ∀ b, fb < b -> w.heap.size <= b := fun b e => by omega
     have hn : ∀ b, fb < b -> ¬ (b = fb \/ b = w.heap.size + 1) := fun b e e2 => by omega
     refine bodyPost_ret (v := .agg #[.string (mkT t.text), .int .i64 (t.at_ : Nat), .slice pa ps.length pc, .int .i64 (kk : Nat), .slice la ll lc]) (by simp [results, Tryz.results61, go_sem, r0, r1, r2, r3, r4]) rfl ⟨_, HEV.out, _, rfl, ⟨[.string (mkT t.text), .int .i64 (t.at_ : Nat), .slice pa ps.length pc, .int .i64 (kk : Nat), .slice la ll lc], rfl, _, _, rfl, PaRow.mono (fun b _ e => hm b e) (HP7.out.keeps hks hn), StsF.mono hm (HL7.out.keeps hks hn)⟩, HR7.out.keeps hks (fun b e => by omega), HK7.out.trans' hks (fun i hi e => by omega)⟩
def GlV (_ _ : World) (g : Gl) (v : Value) : Prop := v = .agg #[.string (mkT g.name), .int .i64 (g.at_ : Nat)]
def globalV (E : Env) (n : Nat) : Res Gl := (takeKind E 1 (n + 1)).bind fun t m => .ok ⟨t.text, t.at_⟩ m
theorem global_any (w : World) (h : RdAt w rb tv E n d) (ht : (pk E n).text = tVar) : Calls Tryz.prog 60 #[.pointer (some ⟨rb, 0, none⟩)] w fun e w' => Says GlV w w' rb tv E d (globalV E n) e := by
 have hb0 : Below w.heap.size w (w.alloc (.cells #[.string ⟨#[]⟩, .int .i64 0] 64)) := ((Keeps.refl (fun _ => False) w).alloc _).below (Nat.le_refl _) (fun _ _ e => e.elim)
 have rv0 : Blk (w.alloc (.cells #[.string ⟨#[]⟩, .int .i64 0] 64)) w.heap.size [.string ⟨#[]⟩, .int .i64 0] := Blk.new' w [.string ⟨#[]⟩, .int .i64 0] _ rfl
 have htk := take_tok ⟨#[118, 97, 114]⟩ (by decide) _ (h.fresh hb0)
 have e1 : (⟨#[118, 97, 114]⟩ : ByteArray).data.toList = tVar := rfl
 have hv : take E tVar n = .ok (pk E n) (n + 1) := by unfold take; rw [if_pos ht]
 rw [e1, hv] at htk
 have HT := zz htk
 have HLT := zz h.lt
 have HB0 := zz hb0
 have HRV0 := zz rv0
 clear h htk e1 hv hb0 rv0 ht
 go_enter Tryz.func60, Tryz.ntmps60
 go_wp2_with fail
 refine HT.out.mono ?_
 rintro e w1 ⟨v1, rfl, _, hr1, hk1⟩
 have HRV1 := zz (HRV0.out.keeps hk1 (fun e => by have := HLT.out; have : w.heap.size = rb := e; omega))
 have HK1 : Hid (Keeps (fun b => b = rb) w w1) := zz ((Keeps.of_new HB0.out).trans hk1)
 have HTK := zz (takeKind_tok 1 (by decide) w1 hr1)
 clear hr1 hk1
 go_wp2_with fail
 cases ht : takeKind E 1 (n + 1) with
 | out => exact absurd ht (takeKind_ne E _ _)
 | bad k a =>
  rw [ht] at HTK
  refine HTK.out.mono ?_
  rintro e w2 hth
  have hth2 := Threw.own hth HLT.out HK1.out
  obtain ⟨b, rfl⟩ := threw_panic hth
  exact ⟨rfl, by rw [show globalV E n = .bad k a by unfold globalV; rw [ht]; rfl]; exact hth2⟩
 | ok t m =>
  rw [ht] at HTK
  unfold Says TokIs tokV at HTK
  simp only at HTK
  refine HTK.out.mono ?_
  rintro e w2 ⟨v2, rfl, rfl, hr2, hk2⟩
  have hrv2 := HRV1.out.keeps hk2 (fun e => by have := HLT.out; have : w.heap.size = rb := e; omega)
  have r0 := hrv2.at_ 0 _ rfl
  have r1 := hrv2.at_ 1 _ rfl
  have y0 := hrv2.free 0
  have y1 := hrv2.free 1
  have hlt2 := hrv2.lt
  have HR2 := zz hr2
  have HK2 := zz (HK1.out.trans hk2)
  have HG : Hid (globalV E n = .ok ⟨t.text, t.at_⟩ m) := zz (by unfold globalV; rw [ht]; rfl)
  clear hrv2 hr2 hk2 ht
  go_wp2_with fail
  have hks : Keeps (fun b => b = w.heap.size) w2 (((w2.setCell ⟨w.heap.size, 0, none⟩ (.string (mkT t.text))).setCell ⟨w.heap.size, 1, none⟩ (.int .i64 (t.at_ : Nat))).alloc (.cells #[.int .i64 (t.kind : Nat), .string (mkT t.text), .int .i64 (t.at_ : Nat)] 100)) := (own2 (w := w2)).alloc _
  have hsz := HK2.out.size
  have hl0 := HLT.out
  refine bodyPost_ret (v := .agg #[.string (mkT t.text), .int .i64 (t.at_ : Nat)]) (by simp [results, Tryz.results60, go_sem, r0, r1, hlt2]) rfl (by rw [HG.out]; exact ⟨_, rfl, rfl, HR2.out.keeps hks (fun b e => by omega), HK2.out.trans' hks (fun i hi e => by omega)⟩)
def glCells : List Gl -> List Value
 | [] => []
 | p :: ps => [.string (mkT p.name), .int .i64 (p.at_ : Nat)] ++ glCells ps
theorem glCells_snoc : ∀ (l : List Gl) (p : Gl), glCells (l ++ [p]) = glCells l ++ [.string (mkT p.name), .int .i64 (p.at_ : Nat)]
 | [], _ => rfl
 | q :: l, p => by show _ ++ glCells (l ++ [p]) = _; rw [glCells_snoc l p]; rfl
theorem glCells_at : ∀ (l : List Gl) (i : Nat) (p : Gl), l[i]? = some p -> (glCells l)[i * 2]? = some (.string (mkT p.name)) /\ (glCells l)[i * 2 + 1]? = some (.int .i64 (p.at_ : Nat))
 | [], _, _, h => by cases h
 | q :: l, 0, p, h => by cases h; exact ⟨rfl, rfl⟩
 | q :: l, i + 1, p, h => by
  obtain ⟨h1, h2⟩ := glCells_at l i p h
  rw [show (i + 1) * 2 = i * 2 + 2 by omega]
  exact ⟨h1, h2⟩
theorem info_global : (Tryz.prog.info? 64).map (fun i => (i.zero, i.size, i.bytes)) = some (some (.agg #[.string ByteArray.empty, .int .i64 0]), 2, 24) := by kernel_rfl
theorem info_func : (Tryz.prog.info? 45).map (fun i => (i.zero, i.size, i.bytes)) = some (some (.agg #[.string ByteArray.empty, .int .i64 0, .slice none 0 0, .int .i64 0, .slice none 0 0]), 5, 80) := by kernel_rfl
def GlRow (w : World) (F : Nat -> Prop) (v : Value) (l : List Gl) : Prop :=
 (v = .slice none 0 0 /\ l = []) \/ ∃ g cap, v = .slice (some ⟨g, 0, none⟩) l.length cap /\ l.length <= cap /\ cap <= maxLen /\ F g /\ 0 < l.length /\ ∀ i p, l[i]? = some p -> w.cell? ⟨g, i * 2, none⟩ = some (.string (mkT p.name)) /\ w.cell? ⟨g, i * 2 + 1, none⟩ = some (.int .i64 (p.at_ : Nat))
def FuAt (w : World) (F : Nat -> Prop) (g o : Nat) (f : Fu) : Prop := ∃ pv bv, w.cell? ⟨g, o, none⟩ = some (.string (mkT f.name)) /\ w.cell? ⟨g, o + 1, none⟩ = some (.int .i64 (f.at_ : Nat)) /\ w.cell? ⟨g, o + 2, none⟩ = some pv /\ w.cell? ⟨g, o + 3, none⟩ = some (.int .i64 (f.kind : Nat)) /\ w.cell? ⟨g, o + 4, none⟩ = some bv /\ PaRow w F pv f.params /\ StsF w F f.body bv
def FuRow (w : World) (F : Nat -> Prop) (v : Value) (l : List Fu) : Prop :=
 (v = .slice none 0 0 /\ l = []) \/ ∃ g cap, v = .slice (some ⟨g, 0, none⟩) l.length cap /\ l.length <= cap /\ cap <= maxLen /\ F g /\ 0 < l.length /\ ∀ i p, l[i]? = some p -> FuAt w F g (i * 5) p
theorem FuC.len {F : Nat -> Prop} {vs : List Value} {g : Fu} (h : FuC w F vs g) : vs.length = 5 := by
 obtain ⟨pv, bv, e, _⟩ := h; rw [e]; rfl
theorem FuC.keeps {F S : Nat -> Prop} {vs : List Value} {g : Fu} (h : FuC w F vs g) (hk : Keeps S w w') (hF : ∀ b, F b -> ¬ S b) : FuC w' F vs g := by
 obtain ⟨pv, bv, e, h1, h2⟩ := h
 exact ⟨pv, bv, e, h1.keeps hk hF, h2.keeps hk hF⟩
theorem FuC.mono {F G : Nat -> Prop} (hF : ∀ b, b < w.heap.size -> F b -> G b) {vs : List Value} {g : Fu} (h : FuC w F vs g) : FuC w G vs g := by
 obtain ⟨pv, bv, e, h1, h2⟩ := h
 exact ⟨pv, bv, e, h1.mono hF, h2.1.monoB hF (fun g n cap e hl => (h2.2 g n cap e).lt hl), fun g n cap e => StsIn.monoB hF g 0 _ (h2.2 g n cap e)⟩
def RowF (W : World) (F : Nat -> Prop) : List Value -> List Fu -> Prop
 | cs, [] => cs = []
 | cs, s :: ss => ∃ vs rest, cs = vs ++ rest /\ FuC W F vs s /\ RowF W F rest ss
theorem RowF.keeps {F S : Nat -> Prop} (hk : Keeps S w w') (hF : ∀ b, F b -> ¬ S b) : ∀ (l : List Fu) (cs : List Value), RowF w F cs l -> RowF w' F cs l
 | [], _, h => h
 | s :: ss, cs, h => by
  obtain ⟨vs, rest, e, h1, h2⟩ := h
  exact ⟨vs, rest, e, h1.keeps hk hF, RowF.keeps hk hF ss rest h2⟩
theorem RowF.mono {F G : Nat -> Prop} (hF : ∀ b, b < w.heap.size -> F b -> G b) : ∀ (l : List Fu) (cs : List Value), RowF w F cs l -> RowF w G cs l
 | [], _, h => h
 | s :: ss, cs, h => by
  obtain ⟨vs, rest, e, h1, h2⟩ := h
  exact ⟨vs, rest, e, h1.mono hF, RowF.mono hF ss rest h2⟩
theorem RowF.snoc {F : Nat -> Prop} {vs : List Value} {s : Fu} (hs : FuC w F vs s) : ∀ (l : List Fu) (cs : List Value), RowF w F cs l -> RowF w F (cs ++ vs) (l ++ [s])
 | [], cs, h => by
  have : cs = [] := h
  subst this
  exact ⟨vs, [], by simp, hs, rfl⟩
 | s :: ss, cs, h => by
  obtain ⟨us, rest, e, h1, h2⟩ := h
  exact ⟨us, rest ++ vs, by rw [e, List.append_assoc], h1, RowF.snoc hs ss rest h2⟩
theorem RowF.lies {F : Nat -> Prop} {g : Nat} : ∀ (l : List Fu) (cs : List Value) (i : Nat), (∀ j v, cs[j]? = some v -> w.cell? ⟨g, i * 5 + j, none⟩ = some v) -> RowF w F cs l -> ∀ j p, l[j]? = some p -> FuAt w F g ((i + j) * 5) p
 | [], _, _, _, _, _, _, h => by cases h
 | s :: ss, cs, i, hc, h, j, p, hj => by
  obtain ⟨us, rest, e, h1, h2⟩ := h
  have hl := h1.len
  cases j with
  | zero =>
   cases hj
   obtain ⟨pv, bv, e2, h3, h4⟩ := h1
   subst e2
   subst e
   exact ⟨pv, bv, hc 0 _ rfl, hc 1 _ rfl, hc 2 _ rfl, hc 3 _ rfl, hc 4 _ rfl, h3, h4⟩
  | succ j =>
   have h4 := RowF.lies ss rest (i + 1) (fun j v hj => by
    have h4 := hc (us.length + j) v (by rw [e, List.getElem?_append_right (by omega)]; simpa using hj)
    rw [hl] at h4
    rw [show (i + 1) * 5 + j = i * 5 + (5 + j) by omega]
    exact h4) h2 j p hj
   rw [show i + (j + 1) = i + 1 + j by omega]
   exact h4
theorem program_eq (f : Nat) (src : Src) (n : Nat) : Tr.program E (f + 1) src n =
  if E.toks.length <= n then .ok src n
  else if (pk E n).text = tVar then (if 8 <= src.globals.length then fail E 4 n else (takeKind E 1 (n + 1)).bind fun t m => (takeKind E 5 m).bind fun _ m2 => Tr.program E f ⟨src.globals ++ [⟨t.text, t.at_⟩], src.funcs⟩ m2)
  else if (pk E n).text = tFunc then (if 12 <= src.funcs.length then fail E 4 n else (Tr.function E f n).bind fun g m => (takeKind E 5 m).bind fun _ m2 => Tr.program E f ⟨src.globals, src.funcs ++ [g]⟩ m2)
  else fail E 3 n := by rw [Tr.program]
structure ProgJ (w wl : World) (rb : Nat) (tv : Value) (E : Env) (sb : Nat) (G : Res Src -> Prop) (wr : World) (m : Nat) (src : Src) : Prop where
 rd : RdAt wr rb tv E m 0
 env : TEnv rb E wr
 kp : Keeps (fun b => b = rb) w wr
 kl : Keeps (fun b => b = rb \/ b = sb) wl wr
 row : ∃ gv fv fvals, Blk wr sb [gv, fv] /\ wr.ownsRow wl.heap.size 64 2 gv src.globals.length (glCells src.globals) /\ wr.ownsRow wl.heap.size 45 5 fv src.funcs.length fvals ∧
  RowF wr (fun b => wl.heap.size <= b /\ some b ≠ gv.ownBlock /\ some b ≠ fv.ownBlock) fvals src.funcs /\ (src.globals = [] -> gv = .slice none 0 0) /\ (src.funcs = [] -> fv = .slice none 0 0) /\ ∀ b, gv.ownBlock = some b -> fv.ownBlock ≠ some b
 lo : rb < w.heap.size /\ w.heap.size <= sb /\ sb < wl.heap.size /\ wl.heap.size <= wr.heap.size
 ev : ∀ r, Ev (fun f => Tr.program E f src m) r -> G r
theorem ProgJ.on {wl wr w2 : World} {sb m m2 : Nat} {G G2 : Res Src -> Prop} {src : Src} (h : ProgJ w wl rb tv E sb G wr m src) (hk : Keeps (fun b => b = rb) wr w2) (hr : RdAt w2 rb tv E m2 0) (hev : ∀ r, Ev (fun f => Tr.program E f src m2) r -> G2 r) : ProgJ w wl rb tv E sb G2 w2 m2 src := by
 obtain ⟨gv, fv, fvals, h1, h2, h3, h4, h5, h6, h7⟩ := h.row
 have hlo := h.lo
 refine ⟨hr, h.env.own hk, h.kp.trans hk, h.kl.trans (hk.mono (fun _ _ e => Or.inl e)), ⟨gv, fv, fvals, h1.keeps hk (fun e => by have : sb = rb := e; omega), hk.row h2 (fun b e e2 => by have := (own_ge h2 b e).1; have : b = rb := e2; omega), hk.row h3 (fun b e e2 => by have := (own_ge h3 b e).1; have : b = rb := e2; omega), RowF.keeps hk (fun b e e2 => by have := e.1; have : b = rb := e2; omega) _ _ h4, h5, h6, h7⟩, ⟨hlo.1, hlo.2.1, hlo.2.2.1, Nat.le_trans hlo.2.2.2 hk.size⟩, hev⟩
theorem ProgJ.nextG {wl wr w2 w5 : World} {sb m m1 cap5 : Nat} {ao5 : Option Addr} {G G2 : Res Src -> Prop} {src : Src} {gv fv : Value} {fvals : List Value} {o : Obj} (g : Gl) (h : ProgJ w wl rb tv E sb G wr m src) (hb : Blk wr sb [gv, fv]) (hg : wr.ownsRow wl.heap.size 64 2 gv src.globals.length (glCells src.globals)) (hf : wr.ownsRow wl.heap.size 45 5 fv src.funcs.length fvals)
  (hR : RowF wr (fun b => wl.heap.size <= b /\ some b ≠ gv.ownBlock /\ some b ≠ fv.ownBlock) fvals src.funcs) (_h5 : src.globals = [] -> gv = .slice none 0 0) (h6 : src.funcs = [] -> fv = .slice none 0 0) (h7 : ∀ b, gv.ownBlock = some b -> fv.ownBlock ≠ some b)
  (hk : Keeps (fun b => b = rb) wr w2) (hr : RdAt w2 rb tv E m1 0) (hgr : (w2.alloc o).grownBy w5 gv.ownBlock) (HO : w5.ownsRow wl.heap.size 64 2 (.slice ao5 (src.globals.length + 1) cap5) (src.globals.length + 1) (glCells src.globals ++ [.string (mkT g.name), .int .i64 (g.at_ : Nat)]))
  (hnew : (Value.slice ao5 (src.globals.length + 1) cap5).ownBlock = gv.ownBlock \/ (Value.slice ao5 (src.globals.length + 1) cap5).ownBlock = some (w2.heap.size + 1)) (hev : ∀ r, Ev (fun f => Tr.program E f ⟨src.globals ++ [g], src.funcs⟩ m1) r -> G2 r) : ProgJ w wl rb tv E sb G2 (w5.setCell ⟨sb, 0, none⟩ (.slice ao5 (src.globals.length + 1) cap5)) m1 ⟨src.globals ++ [g], src.funcs⟩ := by
 have hlo := h.lo
 have hw2 := hk.size
 have hk5 : Keeps (fun b => gv.ownBlock = some b) w2 w5 := ((Keeps.refl (fun b => gv.ownBlock = some b) w2).alloc o).trans' (Keeps.of_grownBy hgr (fun k _ e => e)) (fun _ _ e => e)
 have hks : Keeps (fun b => b = sb) w5 (w5.setCell ⟨sb, 0, none⟩ (.slice ao5 (src.globals.length + 1) cap5)) := own1
 have hgg := own_ge hg
 have hff := own_ge hf
 have hge : ∀ b, gv.ownBlock = some b -> wl.heap.size <= b /\ b < wr.heap.size := hgg
 have hoe : ∀ b, fv.ownBlock = some b -> wl.heap.size <= b /\ b < wr.heap.size := hff
 have hdis : ∀ b, fv.ownBlock = some b -> ¬ gv.ownBlock = some b := fun b e e2 => h7 b e2 e
 have hb5 : Blk w5 sb [gv, fv] := (hb.keeps hk (fun e => by have : sb = rb := e; omega)).keeps hk5 (fun e => by have := (hge sb e).1; omega)
 have hgn : ∀ b, (Value.slice ao5 (src.globals.length + 1) cap5).ownBlock = some b -> wl.heap.size <= b := fun b e => by
  rcases hnew with h3 | h3
  ·exact (hge b (h3 ▸ e)).1
  ·rw [h3] at e; have := Option.some.inj e; omega
 have hnd : ∀ b, (Value.slice ao5 (src.globals.length + 1) cap5).ownBlock = some b -> fv.ownBlock ≠ some b := fun b e e2 => by
  rcases hnew with h3 | h3
  ·exact hdis b e2 (h3 ▸ e)
  ·rw [h3] at e; have := Option.some.inj e; have := (hoe b e2).2; omega
 have hs5 := hk5.size
 have hss := hks.size
 have hother : (w5.setCell ⟨sb, 0, none⟩ (.slice ao5 (src.globals.length + 1) cap5)).ownsRow wl.heap.size 45 5 fv src.funcs.length fvals :=
  hks.row (hk5.row (hk.row hf (fun b e e2 => by have := (hoe b e).1; have : b = rb := e2; omega)) (fun b e => hdis b e)) (fun b e e2 => by have := (hoe b e).1; have : b = sb := e2; omega)
 have hrow2 : RowF w2 (fun b => wl.heap.size <= b /\ some b ≠ gv.ownBlock /\ some b ≠ fv.ownBlock /\ some b ≠ (Value.slice ao5 (src.globals.length + 1) cap5).ownBlock) fvals src.funcs := RowF.mono (fun b hb e => by
  refine ⟨e.1, e.2.1, e.2.2, fun h2 => ?_⟩
  rcases hnew with h3 | h3
  ·exact e.2.1 (by rw [<- h3]; exact h2)
  ·rw [h3] at h2; have := Option.some.inj h2; omega) _ _ (RowF.keeps hk (fun b e e2 => by have := e.1; have : b = rb := e2; omega) _ _ hR)
 have hrow5 : RowF (w5.setCell ⟨sb, 0, none⟩ (.slice ao5 (src.globals.length + 1) cap5)) (fun b => wl.heap.size <= b /\ some b ≠ (Value.slice ao5 (src.globals.length + 1) cap5).ownBlock /\ some b ≠ fv.ownBlock) fvals src.funcs := RowF.mono (fun b _ e => ⟨e.1, e.2.2.2, e.2.2.1⟩) _ _ (RowF.keeps hks (fun b e e2 => by have := e.1; have : b = sb := e2; omega) _ _ (RowF.keeps hk5 (fun b e e2 => e.2.1 e2.symm) _ _ hrow2))
 refine ⟨(hr.keeps hk5 (fun b e => by have := (hge b e).1; omega)).keeps hks (fun b e => by have : b = sb := e; omega), ((h.env.own hk).keeps hk5 (fun b e => by have := (hge b e).1; omega)).keeps hks (fun b e => by have : b = sb := e; omega), ((h.kp.trans hk).trans' hk5 (fun i hi e => by have := (hge i e).1; omega)).trans' hks (fun i hi e => by have : i = sb := e; omega), ((h.kl.trans (hk.mono (fun _ _ e => Or.inl e))).trans' hk5 (fun i hi e => by have := (hge i e).1; omega)).trans (hks.mono (fun _ _ e => Or.inr e)), ⟨_, fv, fvals, hb5.set 0 (.slice ao5 (src.globals.length + 1) cap5) (by simp), ?_, hother, hrow5, fun e => absurd e (by simp), h6, fun b e => hnd b e⟩, ⟨hlo.1, hlo.2.1, hlo.2.2.1, by omega⟩, hev⟩
 have h9 := hks.row HO (fun b e e2 => by have := hgn b e; have : b = sb := e2; omega)
 rw [show (⟨src.globals ++ [g], src.funcs⟩ : Src).globals.length = src.globals.length + 1 by simp, show glCells (⟨src.globals ++ [g], src.funcs⟩ : Src).globals = _ from glCells_snoc src.globals g]
 exact h9
theorem ProgJ.nextF {wl wr w2 w5 : World} {sb m m1 cap5 : Nat} {ao5 : Option Addr} {G G2 : Res Src -> Prop} {src : Src} {gv fv : Value} {fvals : List Value} {vs : List Value} {o : Obj} (g : Fu) (h : ProgJ w wl rb tv E sb G wr m src) (hb : Blk wr sb [gv, fv]) (hg : wr.ownsRow wl.heap.size 64 2 gv src.globals.length (glCells src.globals)) (hf : wr.ownsRow wl.heap.size 45 5 fv src.funcs.length fvals)
  (hR : RowF wr (fun b => wl.heap.size <= b /\ some b ≠ gv.ownBlock /\ some b ≠ fv.ownBlock) fvals src.funcs) (h5 : src.globals = [] -> gv = .slice none 0 0) (_h6 : src.funcs = [] -> fv = .slice none 0 0) (h7 : ∀ b, gv.ownBlock = some b -> fv.ownBlock ≠ some b)
  (hk : Keeps (fun b => b = rb) wr w2) (hr : RdAt w2 rb tv E m1 0) (hs : FuC w2 (fun b => wr.heap.size <= b) vs g) (hgr : (w2.alloc o).grownBy w5 fv.ownBlock) (HO : w5.ownsRow wl.heap.size 45 5 (.slice ao5 (src.funcs.length + 1) cap5) (src.funcs.length + 1) (fvals ++ vs))
  (hnew : (Value.slice ao5 (src.funcs.length + 1) cap5).ownBlock = fv.ownBlock \/ (Value.slice ao5 (src.funcs.length + 1) cap5).ownBlock = some (w2.heap.size + 1)) (hev : ∀ r, Ev (fun f => Tr.program E f ⟨src.globals, src.funcs ++ [g]⟩ m1) r -> G2 r) : ProgJ w wl rb tv E sb G2 (w5.setCell ⟨sb, 1, none⟩ (.slice ao5 (src.funcs.length + 1) cap5)) m1 ⟨src.globals, src.funcs ++ [g]⟩ := by
 have hlo := h.lo
 have hw2 := hk.size
 have hk5 : Keeps (fun b => fv.ownBlock = some b) w2 w5 := ((Keeps.refl (fun b => fv.ownBlock = some b) w2).alloc o).trans' (Keeps.of_grownBy hgr (fun k _ e => e)) (fun _ _ e => e)
 have hks : Keeps (fun b => b = sb) w5 (w5.setCell ⟨sb, 1, none⟩ (.slice ao5 (src.funcs.length + 1) cap5)) := own1
 have hgg := own_ge hg
 have hff := own_ge hf
 have hge : ∀ b, fv.ownBlock = some b -> wl.heap.size <= b /\ b < wr.heap.size := hff
 have hoe : ∀ b, gv.ownBlock = some b -> wl.heap.size <= b /\ b < wr.heap.size := hgg
 have hdis : ∀ b, gv.ownBlock = some b -> ¬ fv.ownBlock = some b := fun b e e2 => h7 b e e2
 have hb5 : Blk w5 sb [gv, fv] := (hb.keeps hk (fun e => by have : sb = rb := e; omega)).keeps hk5 (fun e => by have := (hge sb e).1; omega)
 have hgn : ∀ b, (Value.slice ao5 (src.funcs.length + 1) cap5).ownBlock = some b -> wl.heap.size <= b := fun b e => by
  rcases hnew with h3 | h3
  ·exact (hge b (h3 ▸ e)).1
  ·rw [h3] at e; have := Option.some.inj e; omega
 have hnd : ∀ b, (Value.slice ao5 (src.funcs.length + 1) cap5).ownBlock = some b -> gv.ownBlock ≠ some b := fun b e e2 => by
  rcases hnew with h3 | h3
  ·exact hdis b e2 (h3 ▸ e)
  ·rw [h3] at e; have := Option.some.inj e; have := (hoe b e2).2; omega
 have hs5 := hk5.size
 have hss := hks.size
 have hother : (w5.setCell ⟨sb, 1, none⟩ (.slice ao5 (src.funcs.length + 1) cap5)).ownsRow wl.heap.size 64 2 gv src.globals.length (glCells src.globals) :=
  hks.row (hk5.row (hk.row hg (fun b e e2 => by have := (hoe b e).1; have : b = rb := e2; omega)) (fun b e => hdis b e)) (fun b e e2 => by have := (hoe b e).1; have : b = sb := e2; omega)
 have hrow2 : RowF w2 (fun b => wl.heap.size <= b /\ some b ≠ gv.ownBlock /\ some b ≠ fv.ownBlock /\ some b ≠ (Value.slice ao5 (src.funcs.length + 1) cap5).ownBlock) fvals src.funcs := RowF.mono (fun b hb e => by
  refine ⟨e.1, e.2.1, e.2.2, fun h2 => ?_⟩
  rcases hnew with h3 | h3
  ·exact e.2.2 (by rw [<- h3]; exact h2)
  ·rw [h3] at h2; have := Option.some.inj h2; omega) _ _ (RowF.keeps hk (fun b e e2 => by have := e.1; have : b = rb := e2; omega) _ _ hR)
 have hrow5 : RowF (w5.setCell ⟨sb, 1, none⟩ (.slice ao5 (src.funcs.length + 1) cap5)) (fun b => wl.heap.size <= b /\ some b ≠ gv.ownBlock /\ some b ≠ (Value.slice ao5 (src.funcs.length + 1) cap5).ownBlock) fvals src.funcs := RowF.mono (fun b _ e => ⟨e.1, e.2.1, e.2.2.2⟩) _ _ (RowF.keeps hks (fun b e e2 => by have := e.1; have : b = sb := e2; omega) _ _ (RowF.keeps hk5 (fun b e e2 => e.2.2.1 e2.symm) _ _ hrow2))
 have hs2 : FuC w2 (fun b => wl.heap.size <= b /\ some b ≠ gv.ownBlock /\ some b ≠ fv.ownBlock /\ some b ≠ (Value.slice ao5 (src.funcs.length + 1) cap5).ownBlock) vs g := FuC.mono (fun b hb e => by
  have h1 : wr.heap.size <= b := e
  refine ⟨by omega, fun h2 => by have := (hgg b h2.symm).2; omega, fun h2 => by have := (hff b h2.symm).2; omega, fun h2 => ?_⟩
  rcases hnew with h3 | h3
  ·have := (hff b (by rw [<- h3]; exact h2.symm)).2; omega
  ·rw [h3] at h2; have := Option.some.inj h2; omega) hs
 have hs5' : FuC (w5.setCell ⟨sb, 1, none⟩ (.slice ao5 (src.funcs.length + 1) cap5)) (fun b => wl.heap.size <= b /\ some b ≠ gv.ownBlock /\ some b ≠ (Value.slice ao5 (src.funcs.length + 1) cap5).ownBlock) vs g := FuC.mono (fun b _ e => ⟨e.1, e.2.1, e.2.2.2⟩) ((hs2.keeps hk5 (fun b e e2 => e.2.2.1 e2.symm)).keeps hks (fun b e e2 => by have := e.1; have : b = sb := e2; omega))
 refine ⟨(hr.keeps hk5 (fun b e => by have := (hge b e).1; omega)).keeps hks (fun b e => by have : b = sb := e; omega), ((h.env.own hk).keeps hk5 (fun b e => by have := (hge b e).1; omega)).keeps hks (fun b e => by have : b = sb := e; omega), ((h.kp.trans hk).trans' hk5 (fun i hi e => by have := (hge i e).1; omega)).trans' hks (fun i hi e => by have : i = sb := e; omega), ((h.kl.trans (hk.mono (fun _ _ e => Or.inl e))).trans' hk5 (fun i hi e => by have := (hge i e).1; omega)).trans (hks.mono (fun _ _ e => Or.inr e)), ⟨gv, _, fvals ++ vs, hb5.set 1 (.slice ao5 (src.funcs.length + 1) cap5) (by simp), hother, ?_, RowF.snoc hs5' _ _ hrow5, h5, fun e => absurd e (by simp), fun b e e2 => hnd b e2 e⟩, ⟨hlo.1, hlo.2.1, hlo.2.2.1, by omega⟩, hev⟩
 have h9 := hks.row HO (fun b e e2 => by have := hgn b e; have : b = sb := e2; omega)
 rw [show (⟨src.globals, src.funcs ++ [g]⟩ : Src).funcs.length = src.funcs.length + 1 by simp]
 exact h9
def SrcF (w : World) (F : Nat -> Prop) (src : Src) (gv fv : Value) : Prop := GlRow w F gv src.globals /\ FuRow w F fv src.funcs
def SrcO (w : World) (B : Nat) (src : Src) (gv fv : Value) : Prop := ∃ fvals, w.ownsRow B 64 2 gv src.globals.length (glCells src.globals) /\ w.ownsRow B 45 5 fv src.funcs.length fvals ∧
 RowF w (fun b => B <= b /\ some b ≠ gv.ownBlock /\ some b ≠ fv.ownBlock) fvals src.funcs /\ (src.globals = [] -> gv = .slice none 0 0) /\ (src.funcs = [] -> fv = .slice none 0 0) /\ ∀ b, gv.ownBlock = some b -> fv.ownBlock ≠ some b
theorem SrcO.toF {B : Nat} {src : Src} {gv fv : Value} (h : SrcO w B src gv fv) : SrcF w (fun b => B <= b) src gv fv := by
 obtain ⟨fvals, h2, h3, h4, h5, h6, h7⟩ := h
 refine ⟨?_, ?_⟩
 ·by_cases hz : src.globals = []
  ·exact Or.inl ⟨h5 hz, hz⟩
  ·have hpos : 0 < src.globals.length := List.length_pos_iff.2 hz
   rcases h2.2 with ⟨_, e⟩ | ⟨g, cap, cur, e1, e2, _, e3, e4, _⟩
   ·omega
   ·refine Or.inr ⟨g, cap, e1, e3, e4, e2, hpos, fun i p hi => ?_⟩
    obtain ⟨a1, a2⟩ := glCells_at src.globals i p hi
    have hin := (List.getElem?_eq_some_iff.1 hi).1
    subst e1
    rw [World.ownsRow.cellAt h2 (i * 2) (by omega), World.ownsRow.cellAt h2 (i * 2 + 1) (by omega)]
    exact ⟨a1, a2⟩
 ·by_cases hz : src.funcs = []
  ·exact Or.inl ⟨h6 hz, hz⟩
  ·have hpos : 0 < src.funcs.length := List.length_pos_iff.2 hz
   rcases h3.2 with ⟨_, e⟩ | ⟨g, cap, cur, e1, e2, _, e3, e4, _⟩
   ·omega
   ·refine Or.inr ⟨g, cap, e1, e3, e4, e2, hpos, fun i p hi => ?_⟩
    subst e1
    have h8 := RowF.lies src.funcs fvals 0 (g := g) (fun j v hj => by
     rw [show 0 * 5 + j = j by omega, World.ownsRow.cellAt h3 j (by have := (List.getElem?_eq_some_iff.1 hj).1; have := h3.1; omega)]
     exact hj) (RowF.mono (fun b _ hb => hb.1) _ _ h4) i p hi
    rw [Nat.zero_add] at h8
    exact h8
theorem SrcO.keeps {B : Nat} {S : Nat -> Prop} {src : Src} {gv fv : Value} (h : SrcO w B src gv fv) (hk : Keeps S w w') (hF : ∀ b, B <= b -> ¬ S b) : SrcO w' B src gv fv := by
 obtain ⟨fvals, h2, h3, h4, h5, h6, h7⟩ := h
 exact ⟨fvals, hk.row h2 (fun b e e2 => hF b (own_ge h2 b e).1 e2), hk.row h3 (fun b e e2 => hF b (own_ge h3 b e).1 e2), RowF.keeps hk (fun b e => hF b e.1) _ _ h4, h5, h6, h7⟩
theorem SrcO.mono {B C : Nat} (hB : C <= B) {src : Src} {gv fv : Value} (h : SrcO w B src gv fv) : SrcO w C src gv fv := by
 obtain ⟨fvals, h2, h3, h4, h5, h6, h7⟩ := h
 have up : ∀ {e : TypeId} {size : Nat} {v : Value} {k : Nat} {xs : List Value}, w.ownsRow B e size v k xs -> w.ownsRow C e size v k xs := fun h => by
  refine ⟨h.1, ?_⟩
  rcases h.2 with h | ⟨g, cap, cur, a1, a2, a3⟩
  ·exact Or.inl h
  ·exact Or.inr ⟨g, cap, cur, a1, Nat.le_trans hB a2, a3⟩
 exact ⟨fvals, up h2, up h3, RowF.mono (fun b _ e => ⟨Nat.le_trans hB e.1, e.2⟩) _ _ h4, h5, h6, h7⟩
theorem SrcO.form {B : Nat} {src : Src} {gv fv : Value} (h : SrcO w B src gv fv) : (∃ a l c, gv = .slice a l c) /\ ∃ a l c, fv = .slice a l c := by
 obtain ⟨fvals, h2, h3, _⟩ := h
 refine ⟨?_, ?_⟩
 ·rcases h2.2 with ⟨h, _⟩ | ⟨g, cap, cur, h1, _⟩
  ·exact ⟨_, _, _, h⟩
  ·exact ⟨_, _, _, h1⟩
 ·rcases h3.2 with ⟨h, _⟩ | ⟨g, cap, cur, h1, _⟩
  ·exact ⟨_, _, _, h⟩
  ·exact ⟨_, _, _, h1⟩
theorem ProgJ.src {wl wr : World} {sb m : Nat} {G : Res Src -> Prop} {src : Src} (h : ProgJ w wl rb tv E sb G wr m src) : ∃ gv fv, Blk wr sb [gv, fv] /\ SrcO wr wl.heap.size src gv fv := by
 obtain ⟨gv, fv, fvals, h1, h2⟩ := h.row
 exact ⟨gv, fv, h1, fvals, h2⟩
end Go.Proofs.YtjejcajnnbilmaaGreatDoor
