/-
  Texts of one proof, in build order: The reader's statements, one at a time. | The reader's statements: those with an expression. | The reader's statements: those with blocks. | The reader's statements, whole. | The reader's functions: parameters.
-/
import Derived.Test.YtgonbmcojjcabaaGreatDoorAg5
namespace Go.Proofs.YtgonbmcojjcabaaGreatDoor
open Go.RowKit Lx Tr
variable {w w' : World} {rb n d dd : Nat} {tv : Value} {E : Env}

theorem st_final {dep sb m : Nat} {vs : List Value} {s : St} {wt w2 : World} (hC : StC wt (fun b => sb < b) vs s) (hR : RdAt wt rb tv E m dep) (hK : Keeps (fun b => b = rb) w wt) (hks : Keeps (fun b => b = sb ∨ b = w.heap.size) wt w2) (hs : w.heap.size < sb) (hlt : rb < w.heap.size) :
    StC w2 (fun b => w.heap.size ≤ b) vs s ∧ RdAt w2 rb tv E m dep ∧ Keeps (fun b => b = rb) w w2 :=
  ⟨StC.mono (fun b _ e => by have h : sb < b := e; omega) (hC.keeps hks (fun b e e2 => by have h : sb < b := e; omega)), hR.keeps hks (fun b e => by omega), hK.trans' hks (fun i hi e => by omega)⟩

set_option maxRecDepth 100000 in
set_option maxHeartbeats 12800000 in
theorem stmt_break_any {dep : Nat} (w : World) (h : RdAt w rb tv E n dep) (hE : TEnv rb E w) (ht : (pk E n).text = tBreak) : Calls Tryz.prog 150 #[.pointer (some ⟨rb, 0, none⟩)] w fun e w' => ∃ r, Ev (fun f => Tr.stmt E f dep n) r ∧ Says StV1 w w' rb tv E dep r e := by
  have hb0 : Below w.heap.size w (w.alloc (.cells #[.int .i64 0, .int .i64 0, .string ⟨#[]⟩, .pointer none, .pointer none, .slice none 0 0, .slice none 0 0, .slice none 0 0] 49)) := ((Keeps.refl (fun _ => False) w).alloc _).below (Nat.le_refl _) (fun _ _ e => e.elim)
  have hrv0 : Blk (w.alloc (.cells #[.int .i64 0, .int .i64 0, .string ⟨#[]⟩, .pointer none, .pointer none, .slice none 0 0, .slice none 0 0, .slice none 0 0] 49)) w.heap.size (st0 0) := Blk.new' w (st0 0) _ rfl
  have hp0 := peek_any _ (h.fresh hb0)
  have HPP : Hid (∀ W, Below w.heap.size w W → Calls Tryz.prog 88 #[.pointer (some ⟨rb, 0, none⟩)] W fun e w' => e = .returned (tokV (pk E n)) ∧ Below W.heap.size W w') := Lib.hid fun W hb => peek_any W (h.fresh hb)
  have HN := Lib.hid (pk_lt ht (by decide))
  have HEVt : Hid (Ev (fun f => Tr.stmt E f dep n) (.ok (stz 9 (pk E n).at_ [] .nil .nil) (n + 1))) := Lib.hid (Ev.now (fun e => by cases e) fun f => by rw [stmt_eq, ht]; rfl)
  have H0 := Lib.hid h
  have HE := Lib.hid hE
  have HLT := Lib.hid h.lt
  have HB0 := Lib.hid hb0
  have HRV0 := Lib.hid hrv0
  unfold tokV at hp0 HPP
  have hTT : (pk E n).text = tBreak := ht
  obtain ⟨T, hT⟩ : ∃ T, T = mkT tBreak := ⟨_, rfl⟩
  have hT' : T = mkT (pk E n).text := by rw [hTT]; exact hT
  have b0 : (T.toList == [99, 108, 111, 115, 101]) = false := by rw [hT, Lib.toList_data]; rfl
  have b1 : (T.toList == [112, 114, 105, 110, 116]) = false := by rw [hT, Lib.toList_data]; rfl
  have b2 : (T.toList == [115, 108, 101, 101, 112]) = false := by rw [hT, Lib.toList_data]; rfl
  have b3 : (T.toList == [103, 111]) = false := by rw [hT, Lib.toList_data]; rfl
  have b4 : (T.toList == [114, 101, 116, 117, 114, 110]) = false := by rw [hT, Lib.toList_data]; rfl
  have b5 : (T.toList == [98, 114, 101, 97, 107]) = true := by rw [hT, Lib.toList_data]; rfl
  rw [← hT'] at hp0 HPP
  have HP0 := Lib.hid hp0
  clear h hE hb0 hrv0 hp0 hT' ht hTT hT
  have hf := tok_field2
  have hf1 := tok_field1
  go_enter Tryz.func150, Tryz.ntmps150
  go_wp2_with fail
  refine HP0.out.mono ?_
  rintro e w1 ⟨rfl, hb1⟩
  have hb01 : Below w.heap.size w w1 := HB0.out.trans (hb1.mono HB0.out.size)
  have hrv1 := HRV0.out.fresh hb1
  obtain ⟨sb, hsb⟩ : ∃ sb, sb = w1.heap.size := ⟨_, rfl⟩
  have hsbn : w.heap.size < sb := by rw [hsb]; exact hrv1.lt
  have HSB := Lib.hid hsbn
  have hB1 : Blk (w1.alloc (.cells #[.int .i64 0, .int .i64 ((pk E n).at_ : Nat), .string ⟨#[]⟩, .pointer none, .pointer none, .slice none 0 0, .slice none 0 0, .slice none 0 0] 49)) sb (st0 (pk E n).at_) := Blk.new' w1 (st0 (pk E n).at_) _ hsb
  have hb2 : Below w.heap.size w (w1.alloc (.cells #[.int .i64 0, .int .i64 ((pk E n).at_ : Nat), .string ⟨#[]⟩, .pointer none, .pointer none, .slice none 0 0, .slice none 0 0, .slice none 0 0] 49)) := hb01.alloc hb01.size _
  have hrv2 : Blk (w1.alloc (.cells #[.int .i64 0, .int .i64 ((pk E n).at_ : Nat), .string ⟨#[]⟩, .pointer none, .pointer none, .slice none 0 0, .slice none 0 0, .slice none 0 0] 49)) w.heap.size (st0 0) := hrv1.keeps (S := fun _ => False) ((Keeps.refl _ w1).alloc _) id
  have HP1 := Lib.hid (HPP.out _ hb2)
  have HB1 := Lib.hid hB1
  have HB2 := Lib.hid hb2
  have HRV2 := Lib.hid hrv2
  clear hB1 hb2 hrv2 hrv1 hb01 hb1 hsbn HPP HP0
  go_wp2_with fail
  rw [← hsb]
  clear hsb
  refine HP1.out.mono ?_
  rintro e w2 ⟨rfl, hb3⟩
  have HBs := Lib.hid (HB1.out.fresh hb3)
  have HRVs := Lib.hid (HRV2.out.fresh hb3)
  have HBW : Hid (Below w.heap.size w w2) := Lib.hid (HB2.out.trans (hb3.mono HB2.out.size))
  clear hb3 HB1 HRV2 HB2 HP1
  have hn := HN.out
  go_wp2_with fail
  refine (skip_tok w2 (H0.out.fresh HBW.out) hn).mono ?_
  rintro e w3 ⟨rfl, hr3, hk3⟩
  clear hn
  have hne3 : ¬ sb = rb := by have := HSB.out; have := HLT.out; omega
  have hne4 : ¬ w.heap.size = rb := by have := HLT.out; omega
  have HBt0 := Lib.hid (HBs.out.keeps hk3 hne3)
  have HRVt0 := Lib.hid (HRVs.out.keeps hk3 hne4)
  have HR3 := Lib.hid hr3
  have HK3 : Hid (Keeps (fun b => b = rb) w w3) := Lib.hid ((Keeps.of_new HBW.out).trans hk3)
  have HN3 := Lib.hid hne3
  have HN4 := Lib.hid hne4
  have HE3 := Lib.hid (HE.out.own HK3.out)
  clear hr3 hk3 hne3 hne4
  unfold tokV
  generalize mkT (pk E n).text = TT
  have HBt := HBt0
  have HRV := HRVt0
  have HRt := HR3
  have HKt := HK3
  have HSC : Hid (StC w3 (fun b => sb < b) (st1 9 (pk E n).at_ [] none none) (stz 9 (pk E n).at_ [] .nil .nil)) := Lib.hid (stC_one rfl rfl)
  have c0 := HBt.out.at_ 0 _ rfl
  have c1 := HBt.out.at_ 1 _ rfl
  have c2 := HBt.out.at_ 2 _ rfl
  have c3 := HBt.out.at_ 3 _ rfl
  have c4 := HBt.out.at_ 4 _ rfl
  have c5 := HBt.out.at_ 5 _ rfl
  have c6 := HBt.out.at_ 6 _ rfl
  have c7 := HBt.out.at_ 7 _ rfl
  have z0 := HBt.out.free 0
  have r0 := HRV.out.at_ 0 _ rfl
  have y0 := HRV.out.free 0
  have r1 := HRV.out.at_ 1 _ rfl
  have y1 := HRV.out.free 1
  have r2 := HRV.out.at_ 2 _ rfl
  have y2 := HRV.out.free 2
  have r3 := HRV.out.at_ 3 _ rfl
  have y3 := HRV.out.free 3
  have r4 := HRV.out.at_ 4 _ rfl
  have y4 := HRV.out.free 4
  have r5 := HRV.out.at_ 5 _ rfl
  have y5 := HRV.out.free 5
  have r6 := HRV.out.at_ 6 _ rfl
  have y6 := HRV.out.free 6
  have r7 := HRV.out.at_ 7 _ rfl
  have y7 := HRV.out.free 7
  have hne : w.heap.size ≠ sb := by have := HSB.out; omega
  have hne2 : sb ≠ w.heap.size := fun e => hne e.symm
  have HSB2 := Lib.hid hne
  go_wp2_with fail
  have hks : Keeps (fun b => b = sb ∨ b = w.heap.size) w3 (((((((((w3.setCell ⟨sb, 0, none⟩ (.int .i64 9)).setCell ⟨w.heap.size, 0, none⟩ (.int .i64 9)).setCell ⟨w.heap.size, 1, none⟩ (.int .i64 ((pk E n).at_ : Nat))).setCell ⟨w.heap.size, 2, none⟩ (.string (mkT []))).setCell ⟨w.heap.size, 3, none⟩ (.pointer none)).setCell ⟨w.heap.size, 4, none⟩ (.pointer none)).setCell ⟨w.heap.size, 5, none⟩ (.slice none 0 0)).setCell ⟨w.heap.size, 6, none⟩ (.slice none 0 0)).setCell ⟨w.heap.size, 7, none⟩ (.slice none 0 0)) := (((((((((Keeps.refl (fun b => b = sb ∨ b = w.heap.size) w3).setCell (S := fun b => b = sb ∨ b = w.heap.size) (p := ⟨sb, 0, none⟩) (Or.inl (Or.inl rfl)) (.int .i64 9)).setCell (S := fun b => b = sb ∨ b = w.heap.size) (p := ⟨w.heap.size, 0, none⟩) (Or.inl (Or.inr rfl)) (.int .i64 9)).setCell (S := fun b => b = sb ∨ b = w.heap.size) (p := ⟨w.heap.size, 1, none⟩) (Or.inl (Or.inr rfl)) (.int .i64 ((pk E n).at_ : Nat))).setCell (S := fun b => b = sb ∨ b = w.heap.size) (p := ⟨w.heap.size, 2, none⟩) (Or.inl (Or.inr rfl)) (.string (mkT []))).setCell (S := fun b => b = sb ∨ b = w.heap.size) (p := ⟨w.heap.size, 3, none⟩) (Or.inl (Or.inr rfl)) (.pointer none)).setCell (S := fun b => b = sb ∨ b = w.heap.size) (p := ⟨w.heap.size, 4, none⟩) (Or.inl (Or.inr rfl)) (.pointer none)).setCell (S := fun b => b = sb ∨ b = w.heap.size) (p := ⟨w.heap.size, 5, none⟩) (Or.inl (Or.inr rfl)) (.slice none 0 0)).setCell (S := fun b => b = sb ∨ b = w.heap.size) (p := ⟨w.heap.size, 6, none⟩) (Or.inl (Or.inr rfl)) (.slice none 0 0)).setCell (S := fun b => b = sb ∨ b = w.heap.size) (p := ⟨w.heap.size, 7, none⟩) (Or.inl (Or.inr rfl)) (.slice none 0 0)
  have hfin := st_final HSC.out HRt.out HKt.out hks HSB.out HLT.out
  refine bodyPost_ret (v := .agg #[.int .i64 9, .int .i64 ((pk E n).at_ : Nat), .string (mkT []), .pointer none, .pointer none, .slice none 0 0, .slice none 0 0, .slice none 0 0]) (by simp [results, Tryz.results150, go_sem, r0, r1, r2, r3, r4, r5, r6, r7]) rfl ⟨.ok (stz 9 (pk E n).at_ [] .nil .nil) _, HEVt.out, _, rfl, ⟨_, rfl, hfin.1⟩, hfin.2.1, hfin.2.2⟩

set_option maxRecDepth 100000 in
set_option maxHeartbeats 12800000 in
theorem stmt_continue_any {dep : Nat} (w : World) (h : RdAt w rb tv E n dep) (hE : TEnv rb E w) (ht : (pk E n).text = tContinue) : Calls Tryz.prog 150 #[.pointer (some ⟨rb, 0, none⟩)] w fun e w' => ∃ r, Ev (fun f => Tr.stmt E f dep n) r ∧ Says StV1 w w' rb tv E dep r e := by
  have hb0 : Below w.heap.size w (w.alloc (.cells #[.int .i64 0, .int .i64 0, .string ⟨#[]⟩, .pointer none, .pointer none, .slice none 0 0, .slice none 0 0, .slice none 0 0] 49)) := ((Keeps.refl (fun _ => False) w).alloc _).below (Nat.le_refl _) (fun _ _ e => e.elim)
  have hrv0 : Blk (w.alloc (.cells #[.int .i64 0, .int .i64 0, .string ⟨#[]⟩, .pointer none, .pointer none, .slice none 0 0, .slice none 0 0, .slice none 0 0] 49)) w.heap.size (st0 0) := Blk.new' w (st0 0) _ rfl
  have hp0 := peek_any _ (h.fresh hb0)
  have HPP : Hid (∀ W, Below w.heap.size w W → Calls Tryz.prog 88 #[.pointer (some ⟨rb, 0, none⟩)] W fun e w' => e = .returned (tokV (pk E n)) ∧ Below W.heap.size W w') := Lib.hid fun W hb => peek_any W (h.fresh hb)
  have HN := Lib.hid (pk_lt ht (by decide))
  have HEVt : Hid (Ev (fun f => Tr.stmt E f dep n) (.ok (stz 10 (pk E n).at_ [] .nil .nil) (n + 1))) := Lib.hid (Ev.now (fun e => by cases e) fun f => by rw [stmt_eq, ht]; rfl)
  have H0 := Lib.hid h
  have HE := Lib.hid hE
  have HLT := Lib.hid h.lt
  have HB0 := Lib.hid hb0
  have HRV0 := Lib.hid hrv0
  unfold tokV at hp0 HPP
  have hTT : (pk E n).text = tContinue := ht
  obtain ⟨T, hT⟩ : ∃ T, T = mkT tContinue := ⟨_, rfl⟩
  have hT' : T = mkT (pk E n).text := by rw [hTT]; exact hT
  have b0 : (T.toList == [99, 108, 111, 115, 101]) = false := by rw [hT, Lib.toList_data]; rfl
  have b1 : (T.toList == [112, 114, 105, 110, 116]) = false := by rw [hT, Lib.toList_data]; rfl
  have b2 : (T.toList == [115, 108, 101, 101, 112]) = false := by rw [hT, Lib.toList_data]; rfl
  have b3 : (T.toList == [103, 111]) = false := by rw [hT, Lib.toList_data]; rfl
  have b4 : (T.toList == [114, 101, 116, 117, 114, 110]) = false := by rw [hT, Lib.toList_data]; rfl
  have b5 : (T.toList == [98, 114, 101, 97, 107]) = false := by rw [hT, Lib.toList_data]; rfl
  have b6 : (T.toList == [99, 111, 110, 116, 105, 110, 117, 101]) = true := by rw [hT, Lib.toList_data]; rfl
  rw [← hT'] at hp0 HPP
  have HP0 := Lib.hid hp0
  clear h hE hb0 hrv0 hp0 hT' ht hTT hT
  have hf := tok_field2
  have hf1 := tok_field1
  go_enter Tryz.func150, Tryz.ntmps150
  go_wp2_with fail
  refine HP0.out.mono ?_
  rintro e w1 ⟨rfl, hb1⟩
  have hb01 : Below w.heap.size w w1 := HB0.out.trans (hb1.mono HB0.out.size)
  have hrv1 := HRV0.out.fresh hb1
  obtain ⟨sb, hsb⟩ : ∃ sb, sb = w1.heap.size := ⟨_, rfl⟩
  have hsbn : w.heap.size < sb := by rw [hsb]; exact hrv1.lt
  have HSB := Lib.hid hsbn
  have hB1 : Blk (w1.alloc (.cells #[.int .i64 0, .int .i64 ((pk E n).at_ : Nat), .string ⟨#[]⟩, .pointer none, .pointer none, .slice none 0 0, .slice none 0 0, .slice none 0 0] 49)) sb (st0 (pk E n).at_) := Blk.new' w1 (st0 (pk E n).at_) _ hsb
  have hb2 : Below w.heap.size w (w1.alloc (.cells #[.int .i64 0, .int .i64 ((pk E n).at_ : Nat), .string ⟨#[]⟩, .pointer none, .pointer none, .slice none 0 0, .slice none 0 0, .slice none 0 0] 49)) := hb01.alloc hb01.size _
  have hrv2 : Blk (w1.alloc (.cells #[.int .i64 0, .int .i64 ((pk E n).at_ : Nat), .string ⟨#[]⟩, .pointer none, .pointer none, .slice none 0 0, .slice none 0 0, .slice none 0 0] 49)) w.heap.size (st0 0) := hrv1.keeps (S := fun _ => False) ((Keeps.refl _ w1).alloc _) id
  have HP1 := Lib.hid (HPP.out _ hb2)
  have HB1 := Lib.hid hB1
  have HB2 := Lib.hid hb2
  have HRV2 := Lib.hid hrv2
  clear hB1 hb2 hrv2 hrv1 hb01 hb1 hsbn HPP HP0
  go_wp2_with fail
  rw [← hsb]
  clear hsb
  refine HP1.out.mono ?_
  rintro e w2 ⟨rfl, hb3⟩
  have HBs := Lib.hid (HB1.out.fresh hb3)
  have HRVs := Lib.hid (HRV2.out.fresh hb3)
  have HBW : Hid (Below w.heap.size w w2) := Lib.hid (HB2.out.trans (hb3.mono HB2.out.size))
  clear hb3 HB1 HRV2 HB2 HP1
  have hn := HN.out
  go_wp2_with fail
  refine (skip_tok w2 (H0.out.fresh HBW.out) hn).mono ?_
  rintro e w3 ⟨rfl, hr3, hk3⟩
  clear hn
  have hne3 : ¬ sb = rb := by have := HSB.out; have := HLT.out; omega
  have hne4 : ¬ w.heap.size = rb := by have := HLT.out; omega
  have HBt0 := Lib.hid (HBs.out.keeps hk3 hne3)
  have HRVt0 := Lib.hid (HRVs.out.keeps hk3 hne4)
  have HR3 := Lib.hid hr3
  have HK3 : Hid (Keeps (fun b => b = rb) w w3) := Lib.hid ((Keeps.of_new HBW.out).trans hk3)
  have HN3 := Lib.hid hne3
  have HN4 := Lib.hid hne4
  have HE3 := Lib.hid (HE.out.own HK3.out)
  clear hr3 hk3 hne3 hne4
  unfold tokV
  generalize mkT (pk E n).text = TT
  have HBt := HBt0
  have HRV := HRVt0
  have HRt := HR3
  have HKt := HK3
  have HSC : Hid (StC w3 (fun b => sb < b) (st1 10 (pk E n).at_ [] none none) (stz 10 (pk E n).at_ [] .nil .nil)) := Lib.hid (stC_one rfl rfl)
  have c0 := HBt.out.at_ 0 _ rfl
  have c1 := HBt.out.at_ 1 _ rfl
  have c2 := HBt.out.at_ 2 _ rfl
  have c3 := HBt.out.at_ 3 _ rfl
  have c4 := HBt.out.at_ 4 _ rfl
  have c5 := HBt.out.at_ 5 _ rfl
  have c6 := HBt.out.at_ 6 _ rfl
  have c7 := HBt.out.at_ 7 _ rfl
  have z0 := HBt.out.free 0
  have r0 := HRV.out.at_ 0 _ rfl
  have y0 := HRV.out.free 0
  have r1 := HRV.out.at_ 1 _ rfl
  have y1 := HRV.out.free 1
  have r2 := HRV.out.at_ 2 _ rfl
  have y2 := HRV.out.free 2
  have r3 := HRV.out.at_ 3 _ rfl
  have y3 := HRV.out.free 3
  have r4 := HRV.out.at_ 4 _ rfl
  have y4 := HRV.out.free 4
  have r5 := HRV.out.at_ 5 _ rfl
  have y5 := HRV.out.free 5
  have r6 := HRV.out.at_ 6 _ rfl
  have y6 := HRV.out.free 6
  have r7 := HRV.out.at_ 7 _ rfl
  have y7 := HRV.out.free 7
  have hne : w.heap.size ≠ sb := by have := HSB.out; omega
  have hne2 : sb ≠ w.heap.size := fun e => hne e.symm
  have HSB2 := Lib.hid hne
  go_wp2_with fail
  have hks : Keeps (fun b => b = sb ∨ b = w.heap.size) w3 (((((((((w3.setCell ⟨sb, 0, none⟩ (.int .i64 10)).setCell ⟨w.heap.size, 0, none⟩ (.int .i64 10)).setCell ⟨w.heap.size, 1, none⟩ (.int .i64 ((pk E n).at_ : Nat))).setCell ⟨w.heap.size, 2, none⟩ (.string (mkT []))).setCell ⟨w.heap.size, 3, none⟩ (.pointer none)).setCell ⟨w.heap.size, 4, none⟩ (.pointer none)).setCell ⟨w.heap.size, 5, none⟩ (.slice none 0 0)).setCell ⟨w.heap.size, 6, none⟩ (.slice none 0 0)).setCell ⟨w.heap.size, 7, none⟩ (.slice none 0 0)) := (((((((((Keeps.refl (fun b => b = sb ∨ b = w.heap.size) w3).setCell (S := fun b => b = sb ∨ b = w.heap.size) (p := ⟨sb, 0, none⟩) (Or.inl (Or.inl rfl)) (.int .i64 10)).setCell (S := fun b => b = sb ∨ b = w.heap.size) (p := ⟨w.heap.size, 0, none⟩) (Or.inl (Or.inr rfl)) (.int .i64 10)).setCell (S := fun b => b = sb ∨ b = w.heap.size) (p := ⟨w.heap.size, 1, none⟩) (Or.inl (Or.inr rfl)) (.int .i64 ((pk E n).at_ : Nat))).setCell (S := fun b => b = sb ∨ b = w.heap.size) (p := ⟨w.heap.size, 2, none⟩) (Or.inl (Or.inr rfl)) (.string (mkT []))).setCell (S := fun b => b = sb ∨ b = w.heap.size) (p := ⟨w.heap.size, 3, none⟩) (Or.inl (Or.inr rfl)) (.pointer none)).setCell (S := fun b => b = sb ∨ b = w.heap.size) (p := ⟨w.heap.size, 4, none⟩) (Or.inl (Or.inr rfl)) (.pointer none)).setCell (S := fun b => b = sb ∨ b = w.heap.size) (p := ⟨w.heap.size, 5, none⟩) (Or.inl (Or.inr rfl)) (.slice none 0 0)).setCell (S := fun b => b = sb ∨ b = w.heap.size) (p := ⟨w.heap.size, 6, none⟩) (Or.inl (Or.inr rfl)) (.slice none 0 0)).setCell (S := fun b => b = sb ∨ b = w.heap.size) (p := ⟨w.heap.size, 7, none⟩) (Or.inl (Or.inr rfl)) (.slice none 0 0)
  have hfin := st_final HSC.out HRt.out HKt.out hks HSB.out HLT.out
  refine bodyPost_ret (v := .agg #[.int .i64 10, .int .i64 ((pk E n).at_ : Nat), .string (mkT []), .pointer none, .pointer none, .slice none 0 0, .slice none 0 0, .slice none 0 0]) (by simp [results, Tryz.results150, go_sem, r0, r1, r2, r3, r4, r5, r6, r7]) rfl ⟨.ok (stz 10 (pk E n).at_ [] .nil .nil) _, HEVt.out, _, rfl, ⟨_, rfl, hfin.1⟩, hfin.2.1, hfin.2.2⟩
end Go.Proofs.YtgonbmcojjcabaaGreatDoor

namespace Go.Proofs.YtgonbmcojjcabaaGreatDoor
open Go.RowKit Lx Tr
variable {w w' : World} {rb n d dd : Nat} {tv : Value} {E : Env}


set_option maxRecDepth 100000 in
set_option maxHeartbeats 12800000 in
theorem stmt_close_any {dep : Nat} (w : World) (h : RdAt w rb tv E n dep) (hE : TEnv rb E w) (ht : (pk E n).text = tClose) : Calls Tryz.prog 150 #[.pointer (some ⟨rb, 0, none⟩)] w fun e w' => ∃ r, Ev (fun f => Tr.stmt E f dep n) r ∧ Says StV1 w w' rb tv E dep r e := by
  have hb0 : Below w.heap.size w (w.alloc (.cells #[.int .i64 0, .int .i64 0, .string ⟨#[]⟩, .pointer none, .pointer none, .slice none 0 0, .slice none 0 0, .slice none 0 0] 49)) := ((Keeps.refl (fun _ => False) w).alloc _).below (Nat.le_refl _) (fun _ _ e => e.elim)
  have hrv0 : Blk (w.alloc (.cells #[.int .i64 0, .int .i64 0, .string ⟨#[]⟩, .pointer none, .pointer none, .slice none 0 0, .slice none 0 0, .slice none 0 0] 49)) w.heap.size (st0 0) := Blk.new' w (st0 0) _ rfl
  have hp0 := peek_any _ (h.fresh hb0)
  have HPP : Hid (∀ W, Below w.heap.size w W → Calls Tryz.prog 88 #[.pointer (some ⟨rb, 0, none⟩)] W fun e w' => e = .returned (tokV (pk E n)) ∧ Below W.heap.size W w') := Lib.hid fun W hb => peek_any W (h.fresh hb)
  have HN := Lib.hid (pk_lt ht (by decide))
  have HEV : Hid (∀ r, Ev (fun f => bracketed E f 0 (n + 1)) r → Ev (fun f => Tr.stmt E f dep n) (r.bind fun x m => .ok (stz 4 (pk E n).at_ [] .nil x) m)) := Lib.hid fun r hr => Ev.step (h := fun f => (bracketed E f 0 (n + 1)).bind fun x m => .ok (stz 4 (pk E n).at_ [] .nil x) m) (fun f => by rw [stmt_eq, ht]; rfl) (Ev.map _ (fun _ _ e => by cases e) hr)
  have H0 := Lib.hid h
  have HE := Lib.hid hE
  have HLT := Lib.hid h.lt
  have HB0 := Lib.hid hb0
  have HRV0 := Lib.hid hrv0
  unfold tokV at hp0 HPP
  have hTT : (pk E n).text = tClose := ht
  obtain ⟨T, hT⟩ : ∃ T, T = mkT tClose := ⟨_, rfl⟩
  have hT' : T = mkT (pk E n).text := by rw [hTT]; exact hT
  have b0 : (T.toList == [99, 108, 111, 115, 101]) = true := by rw [hT, Lib.toList_data]; rfl
  rw [← hT'] at hp0 HPP
  have HP0 := Lib.hid hp0
  clear h hE hb0 hrv0 hp0 hT' ht hTT hT
  have hf := tok_field2
  have hf1 := tok_field1
  go_enter Tryz.func150, Tryz.ntmps150
  go_wp2_with fail
  refine HP0.out.mono ?_
  rintro e w1 ⟨rfl, hb1⟩
  have hb01 : Below w.heap.size w w1 := HB0.out.trans (hb1.mono HB0.out.size)
  have hrv1 := HRV0.out.fresh hb1
  obtain ⟨sb, hsb⟩ : ∃ sb, sb = w1.heap.size := ⟨_, rfl⟩
  have hsbn : w.heap.size < sb := by rw [hsb]; exact hrv1.lt
  have HSB := Lib.hid hsbn
  have hB1 : Blk (w1.alloc (.cells #[.int .i64 0, .int .i64 ((pk E n).at_ : Nat), .string ⟨#[]⟩, .pointer none, .pointer none, .slice none 0 0, .slice none 0 0, .slice none 0 0] 49)) sb (st0 (pk E n).at_) := Blk.new' w1 (st0 (pk E n).at_) _ hsb
  have hb2 : Below w.heap.size w (w1.alloc (.cells #[.int .i64 0, .int .i64 ((pk E n).at_ : Nat), .string ⟨#[]⟩, .pointer none, .pointer none, .slice none 0 0, .slice none 0 0, .slice none 0 0] 49)) := hb01.alloc hb01.size _
  have hrv2 : Blk (w1.alloc (.cells #[.int .i64 0, .int .i64 ((pk E n).at_ : Nat), .string ⟨#[]⟩, .pointer none, .pointer none, .slice none 0 0, .slice none 0 0, .slice none 0 0] 49)) w.heap.size (st0 0) := hrv1.keeps (S := fun _ => False) ((Keeps.refl _ w1).alloc _) id
  have HP1 := Lib.hid (HPP.out _ hb2)
  have HB1 := Lib.hid hB1
  have HB2 := Lib.hid hb2
  have HRV2 := Lib.hid hrv2
  clear hB1 hb2 hrv2 hrv1 hb01 hb1 hsbn HPP HP0
  go_wp2_with fail
  rw [← hsb]
  clear hsb
  refine HP1.out.mono ?_
  rintro e w2 ⟨rfl, hb3⟩
  have HBs := Lib.hid (HB1.out.fresh hb3)
  have HRVs := Lib.hid (HRV2.out.fresh hb3)
  have HBW : Hid (Below w.heap.size w w2) := Lib.hid (HB2.out.trans (hb3.mono HB2.out.size))
  clear hb3 HB1 HRV2 HB2 HP1
  have hn := HN.out
  go_wp2_with fail
  refine (skip_tok w2 (H0.out.fresh HBW.out) hn).mono ?_
  rintro e w3 ⟨rfl, hr3, hk3⟩
  clear hn
  have hne3 : ¬ sb = rb := by have := HSB.out; have := HLT.out; omega
  have hne4 : ¬ w.heap.size = rb := by have := HLT.out; omega
  have HBt0 := Lib.hid (HBs.out.keeps hk3 hne3)
  have HRVt0 := Lib.hid (HRVs.out.keeps hk3 hne4)
  have HR3 := Lib.hid hr3
  have HK3 : Hid (Keeps (fun b => b = rb) w w3) := Lib.hid ((Keeps.of_new HBW.out).trans hk3)
  have HN3 := Lib.hid hne3
  have HN4 := Lib.hid hne4
  have HE3 := Lib.hid (HE.out.own HK3.out)
  clear hr3 hk3 hne3 hne4
  unfold tokV
  generalize mkT (pk E n).text = TT
  have HXP := Lib.hid (bracketed_any (dd := 0) (RExpr (by decide)) (by decide) w3 HR3.out HE3.out)
  go_wp2_with fail
  refine HXP.out.mono ?_
  rintro e w4 ⟨r, hev, hsay⟩
  have hev2 := Lib.hid (HEV.out r hev)
  cases r with
  | out => exact hsay.elim
  | bad k a =>
    have hsay' : Threw w3 w4 rb k a e := hsay
    obtain ⟨b, rfl⟩ := threw_panic hsay'
    exact ⟨rfl, _, hev2.out, hsay'.own HLT.out HK3.out⟩
  | ok x m =>
    obtain ⟨v, rfl, hx, hr4, hk4⟩ := hsay
    obtain ⟨o, rfl⟩ := ex_ptr hx
    have HBt := Lib.hid (HBt0.out.keeps hk4 HN3.out)
    have HRV := Lib.hid (HRVt0.out.keeps hk4 HN4.out)
    have HRt := Lib.hid hr4
    have HKt := Lib.hid (HK3.out.trans hk4)
    have HEVt : Hid (Ev (fun f => Tr.stmt E f dep n) (.ok (stz 4 (pk E n).at_ [] .nil x) m)) := hev2
    have HSC : Hid (StC w4 (fun b => sb < b) (st1 4 (pk E n).at_ [] none o) (stz 4 (pk E n).at_ [] .nil x)) := Lib.hid (stC_one rfl (ExIn.mono (fun b _ e => by have h1 : w3.heap.size ≤ b := e; have := HBt0.out.lt; show sb < b; omega) _ _ hx))
    clear hx hr4 hk4 hev hev2
    have c0 := HBt.out.at_ 0 _ rfl
    have c1 := HBt.out.at_ 1 _ rfl
    have c2 := HBt.out.at_ 2 _ rfl
    have c3 := HBt.out.at_ 3 _ rfl
    have c4 := HBt.out.at_ 4 _ rfl
    have c5 := HBt.out.at_ 5 _ rfl
    have c6 := HBt.out.at_ 6 _ rfl
    have c7 := HBt.out.at_ 7 _ rfl
    have z0 := HBt.out.free 0
    have z4 := HBt.out.free 4
    have r0 := HRV.out.at_ 0 _ rfl
    have y0 := HRV.out.free 0
    have r1 := HRV.out.at_ 1 _ rfl
    have y1 := HRV.out.free 1
    have r2 := HRV.out.at_ 2 _ rfl
    have y2 := HRV.out.free 2
    have r3 := HRV.out.at_ 3 _ rfl
    have y3 := HRV.out.free 3
    have r4 := HRV.out.at_ 4 _ rfl
    have y4 := HRV.out.free 4
    have r5 := HRV.out.at_ 5 _ rfl
    have y5 := HRV.out.free 5
    have r6 := HRV.out.at_ 6 _ rfl
    have y6 := HRV.out.free 6
    have r7 := HRV.out.at_ 7 _ rfl
    have y7 := HRV.out.free 7
    have hne : w.heap.size ≠ sb := by have := HSB.out; omega
    have hne2 : sb ≠ w.heap.size := fun e => hne e.symm
    have HSB2 := Lib.hid hne
    go_wp2_with fail
    have hks : Keeps (fun b => b = sb ∨ b = w.heap.size) w4 ((((((((((w4.setCell ⟨sb, 0, none⟩ (.int .i64 4)).setCell ⟨sb, 4, none⟩ (.pointer o)).setCell ⟨w.heap.size, 0, none⟩ (.int .i64 4)).setCell ⟨w.heap.size, 1, none⟩ (.int .i64 ((pk E n).at_ : Nat))).setCell ⟨w.heap.size, 2, none⟩ (.string (mkT []))).setCell ⟨w.heap.size, 3, none⟩ (.pointer none)).setCell ⟨w.heap.size, 4, none⟩ (.pointer o)).setCell ⟨w.heap.size, 5, none⟩ (.slice none 0 0)).setCell ⟨w.heap.size, 6, none⟩ (.slice none 0 0)).setCell ⟨w.heap.size, 7, none⟩ (.slice none 0 0)) := ((((((((((Keeps.refl (fun b => b = sb ∨ b = w.heap.size) w4).setCell (S := fun b => b = sb ∨ b = w.heap.size) (p := ⟨sb, 0, none⟩) (Or.inl (Or.inl rfl)) (.int .i64 4)).setCell (S := fun b => b = sb ∨ b = w.heap.size) (p := ⟨sb, 4, none⟩) (Or.inl (Or.inl rfl)) (.pointer o)).setCell (S := fun b => b = sb ∨ b = w.heap.size) (p := ⟨w.heap.size, 0, none⟩) (Or.inl (Or.inr rfl)) (.int .i64 4)).setCell (S := fun b => b = sb ∨ b = w.heap.size) (p := ⟨w.heap.size, 1, none⟩) (Or.inl (Or.inr rfl)) (.int .i64 ((pk E n).at_ : Nat))).setCell (S := fun b => b = sb ∨ b = w.heap.size) (p := ⟨w.heap.size, 2, none⟩) (Or.inl (Or.inr rfl)) (.string (mkT []))).setCell (S := fun b => b = sb ∨ b = w.heap.size) (p := ⟨w.heap.size, 3, none⟩) (Or.inl (Or.inr rfl)) (.pointer none)).setCell (S := fun b => b = sb ∨ b = w.heap.size) (p := ⟨w.heap.size, 4, none⟩) (Or.inl (Or.inr rfl)) (.pointer o)).setCell (S := fun b => b = sb ∨ b = w.heap.size) (p := ⟨w.heap.size, 5, none⟩) (Or.inl (Or.inr rfl)) (.slice none 0 0)).setCell (S := fun b => b = sb ∨ b = w.heap.size) (p := ⟨w.heap.size, 6, none⟩) (Or.inl (Or.inr rfl)) (.slice none 0 0)).setCell (S := fun b => b = sb ∨ b = w.heap.size) (p := ⟨w.heap.size, 7, none⟩) (Or.inl (Or.inr rfl)) (.slice none 0 0)
    have hfin := st_final HSC.out HRt.out HKt.out hks HSB.out HLT.out
    refine bodyPost_ret (v := .agg #[.int .i64 4, .int .i64 ((pk E n).at_ : Nat), .string (mkT []), .pointer none, .pointer o, .slice none 0 0, .slice none 0 0, .slice none 0 0]) (by simp [results, Tryz.results150, go_sem, r0, r1, r2, r3, r4, r5, r6, r7]) rfl ⟨.ok (stz 4 (pk E n).at_ [] .nil x) _, HEVt.out, _, rfl, ⟨_, rfl, hfin.1⟩, hfin.2.1, hfin.2.2⟩

set_option maxRecDepth 100000 in
set_option maxHeartbeats 12800000 in
theorem stmt_print_any {dep : Nat} (w : World) (h : RdAt w rb tv E n dep) (hE : TEnv rb E w) (ht : (pk E n).text = tPrint) : Calls Tryz.prog 150 #[.pointer (some ⟨rb, 0, none⟩)] w fun e w' => ∃ r, Ev (fun f => Tr.stmt E f dep n) r ∧ Says StV1 w w' rb tv E dep r e := by
  have hb0 : Below w.heap.size w (w.alloc (.cells #[.int .i64 0, .int .i64 0, .string ⟨#[]⟩, .pointer none, .pointer none, .slice none 0 0, .slice none 0 0, .slice none 0 0] 49)) := ((Keeps.refl (fun _ => False) w).alloc _).below (Nat.le_refl _) (fun _ _ e => e.elim)
  have hrv0 : Blk (w.alloc (.cells #[.int .i64 0, .int .i64 0, .string ⟨#[]⟩, .pointer none, .pointer none, .slice none 0 0, .slice none 0 0, .slice none 0 0] 49)) w.heap.size (st0 0) := Blk.new' w (st0 0) _ rfl
  have hp0 := peek_any _ (h.fresh hb0)
  have HPP : Hid (∀ W, Below w.heap.size w W → Calls Tryz.prog 88 #[.pointer (some ⟨rb, 0, none⟩)] W fun e w' => e = .returned (tokV (pk E n)) ∧ Below W.heap.size W w') := Lib.hid fun W hb => peek_any W (h.fresh hb)
  have HN := Lib.hid (pk_lt ht (by decide))
  have HEV : Hid (∀ r, Ev (fun f => expr E f 0 (n + 1)) r → Ev (fun f => Tr.stmt E f dep n) (r.bind fun x m => .ok (stz 5 (pk E n).at_ [] .nil x) m)) := Lib.hid fun r hr => Ev.step (h := fun f => (expr E f 0 (n + 1)).bind fun x m => .ok (stz 5 (pk E n).at_ [] .nil x) m) (fun f => by rw [stmt_eq, ht]; rfl) (Ev.map _ (fun _ _ e => by cases e) hr)
  have H0 := Lib.hid h
  have HE := Lib.hid hE
  have HLT := Lib.hid h.lt
  have HB0 := Lib.hid hb0
  have HRV0 := Lib.hid hrv0
  unfold tokV at hp0 HPP
  have hTT : (pk E n).text = tPrint := ht
  obtain ⟨T, hT⟩ : ∃ T, T = mkT tPrint := ⟨_, rfl⟩
  have hT' : T = mkT (pk E n).text := by rw [hTT]; exact hT
  have b0 : (T.toList == [99, 108, 111, 115, 101]) = false := by rw [hT, Lib.toList_data]; rfl
  have b1 : (T.toList == [112, 114, 105, 110, 116]) = true := by rw [hT, Lib.toList_data]; rfl
  rw [← hT'] at hp0 HPP
  have HP0 := Lib.hid hp0
  clear h hE hb0 hrv0 hp0 hT' ht hTT hT
  have hf := tok_field2
  have hf1 := tok_field1
  go_enter Tryz.func150, Tryz.ntmps150
  go_wp2_with fail
  refine HP0.out.mono ?_
  rintro e w1 ⟨rfl, hb1⟩
  have hb01 : Below w.heap.size w w1 := HB0.out.trans (hb1.mono HB0.out.size)
  have hrv1 := HRV0.out.fresh hb1
  obtain ⟨sb, hsb⟩ : ∃ sb, sb = w1.heap.size := ⟨_, rfl⟩
  have hsbn : w.heap.size < sb := by rw [hsb]; exact hrv1.lt
  have HSB := Lib.hid hsbn
  have hB1 : Blk (w1.alloc (.cells #[.int .i64 0, .int .i64 ((pk E n).at_ : Nat), .string ⟨#[]⟩, .pointer none, .pointer none, .slice none 0 0, .slice none 0 0, .slice none 0 0] 49)) sb (st0 (pk E n).at_) := Blk.new' w1 (st0 (pk E n).at_) _ hsb
  have hb2 : Below w.heap.size w (w1.alloc (.cells #[.int .i64 0, .int .i64 ((pk E n).at_ : Nat), .string ⟨#[]⟩, .pointer none, .pointer none, .slice none 0 0, .slice none 0 0, .slice none 0 0] 49)) := hb01.alloc hb01.size _
  have hrv2 : Blk (w1.alloc (.cells #[.int .i64 0, .int .i64 ((pk E n).at_ : Nat), .string ⟨#[]⟩, .pointer none, .pointer none, .slice none 0 0, .slice none 0 0, .slice none 0 0] 49)) w.heap.size (st0 0) := hrv1.keeps (S := fun _ => False) ((Keeps.refl _ w1).alloc _) id
  have HP1 := Lib.hid (HPP.out _ hb2)
  have HB1 := Lib.hid hB1
  have HB2 := Lib.hid hb2
  have HRV2 := Lib.hid hrv2
  clear hB1 hb2 hrv2 hrv1 hb01 hb1 hsbn HPP HP0
  go_wp2_with fail
  rw [← hsb]
  clear hsb
  refine HP1.out.mono ?_
  rintro e w2 ⟨rfl, hb3⟩
  have HBs := Lib.hid (HB1.out.fresh hb3)
  have HRVs := Lib.hid (HRV2.out.fresh hb3)
  have HBW : Hid (Below w.heap.size w w2) := Lib.hid (HB2.out.trans (hb3.mono HB2.out.size))
  clear hb3 HB1 HRV2 HB2 HP1
  have hn := HN.out
  go_wp2_with fail
  refine (skip_tok w2 (H0.out.fresh HBW.out) hn).mono ?_
  rintro e w3 ⟨rfl, hr3, hk3⟩
  clear hn
  have hne3 : ¬ sb = rb := by have := HSB.out; have := HLT.out; omega
  have hne4 : ¬ w.heap.size = rb := by have := HLT.out; omega
  have HBt0 := Lib.hid (HBs.out.keeps hk3 hne3)
  have HRVt0 := Lib.hid (HRVs.out.keeps hk3 hne4)
  have HR3 := Lib.hid hr3
  have HK3 : Hid (Keeps (fun b => b = rb) w w3) := Lib.hid ((Keeps.of_new HBW.out).trans hk3)
  have HN3 := Lib.hid hne3
  have HN4 := Lib.hid hne4
  have HE3 := Lib.hid (HE.out.own HK3.out)
  clear hr3 hk3 hne3 hne4
  unfold tokV
  generalize mkT (pk E n).text = TT
  have HXP := Lib.hid (RExpr (dd := 0) (Nat.zero_le _) (n + 1) w3 HR3.out HE3.out)
  go_wp2_with fail
  refine HXP.out.mono ?_
  rintro e w4 ⟨r, hev, hsay⟩
  have hev2 := Lib.hid (HEV.out r hev)
  cases r with
  | out => exact hsay.elim
  | bad k a =>
    have hsay' : Threw w3 w4 rb k a e := hsay
    obtain ⟨b, rfl⟩ := threw_panic hsay'
    exact ⟨rfl, _, hev2.out, hsay'.own HLT.out HK3.out⟩
  | ok x m =>
    obtain ⟨v, rfl, hx, hr4, hk4⟩ := hsay
    obtain ⟨o, rfl⟩ := ex_ptr hx
    have HBt := Lib.hid (HBt0.out.keeps hk4 HN3.out)
    have HRV := Lib.hid (HRVt0.out.keeps hk4 HN4.out)
    have HRt := Lib.hid hr4
    have HKt := Lib.hid (HK3.out.trans hk4)
    have HEVt : Hid (Ev (fun f => Tr.stmt E f dep n) (.ok (stz 5 (pk E n).at_ [] .nil x) m)) := hev2
    have HSC : Hid (StC w4 (fun b => sb < b) (st1 5 (pk E n).at_ [] none o) (stz 5 (pk E n).at_ [] .nil x)) := Lib.hid (stC_one rfl (ExIn.mono (fun b _ e => by have h1 : w3.heap.size ≤ b := e; have := HBt0.out.lt; show sb < b; omega) _ _ hx))
    clear hx hr4 hk4 hev hev2
    have c0 := HBt.out.at_ 0 _ rfl
    have c1 := HBt.out.at_ 1 _ rfl
    have c2 := HBt.out.at_ 2 _ rfl
    have c3 := HBt.out.at_ 3 _ rfl
    have c4 := HBt.out.at_ 4 _ rfl
    have c5 := HBt.out.at_ 5 _ rfl
    have c6 := HBt.out.at_ 6 _ rfl
    have c7 := HBt.out.at_ 7 _ rfl
    have z0 := HBt.out.free 0
    have z4 := HBt.out.free 4
    have r0 := HRV.out.at_ 0 _ rfl
    have y0 := HRV.out.free 0
    have r1 := HRV.out.at_ 1 _ rfl
    have y1 := HRV.out.free 1
    have r2 := HRV.out.at_ 2 _ rfl
    have y2 := HRV.out.free 2
    have r3 := HRV.out.at_ 3 _ rfl
    have y3 := HRV.out.free 3
    have r4 := HRV.out.at_ 4 _ rfl
    have y4 := HRV.out.free 4
    have r5 := HRV.out.at_ 5 _ rfl
    have y5 := HRV.out.free 5
    have r6 := HRV.out.at_ 6 _ rfl
    have y6 := HRV.out.free 6
    have r7 := HRV.out.at_ 7 _ rfl
    have y7 := HRV.out.free 7
    have hne : w.heap.size ≠ sb := by have := HSB.out; omega
    have hne2 : sb ≠ w.heap.size := fun e => hne e.symm
    have HSB2 := Lib.hid hne
    go_wp2_with fail
    have hks : Keeps (fun b => b = sb ∨ b = w.heap.size) w4 ((((((((((w4.setCell ⟨sb, 0, none⟩ (.int .i64 5)).setCell ⟨sb, 4, none⟩ (.pointer o)).setCell ⟨w.heap.size, 0, none⟩ (.int .i64 5)).setCell ⟨w.heap.size, 1, none⟩ (.int .i64 ((pk E n).at_ : Nat))).setCell ⟨w.heap.size, 2, none⟩ (.string (mkT []))).setCell ⟨w.heap.size, 3, none⟩ (.pointer none)).setCell ⟨w.heap.size, 4, none⟩ (.pointer o)).setCell ⟨w.heap.size, 5, none⟩ (.slice none 0 0)).setCell ⟨w.heap.size, 6, none⟩ (.slice none 0 0)).setCell ⟨w.heap.size, 7, none⟩ (.slice none 0 0)) := ((((((((((Keeps.refl (fun b => b = sb ∨ b = w.heap.size) w4).setCell (S := fun b => b = sb ∨ b = w.heap.size) (p := ⟨sb, 0, none⟩) (Or.inl (Or.inl rfl)) (.int .i64 5)).setCell (S := fun b => b = sb ∨ b = w.heap.size) (p := ⟨sb, 4, none⟩) (Or.inl (Or.inl rfl)) (.pointer o)).setCell (S := fun b => b = sb ∨ b = w.heap.size) (p := ⟨w.heap.size, 0, none⟩) (Or.inl (Or.inr rfl)) (.int .i64 5)).setCell (S := fun b => b = sb ∨ b = w.heap.size) (p := ⟨w.heap.size, 1, none⟩) (Or.inl (Or.inr rfl)) (.int .i64 ((pk E n).at_ : Nat))).setCell (S := fun b => b = sb ∨ b = w.heap.size) (p := ⟨w.heap.size, 2, none⟩) (Or.inl (Or.inr rfl)) (.string (mkT []))).setCell (S := fun b => b = sb ∨ b = w.heap.size) (p := ⟨w.heap.size, 3, none⟩) (Or.inl (Or.inr rfl)) (.pointer none)).setCell (S := fun b => b = sb ∨ b = w.heap.size) (p := ⟨w.heap.size, 4, none⟩) (Or.inl (Or.inr rfl)) (.pointer o)).setCell (S := fun b => b = sb ∨ b = w.heap.size) (p := ⟨w.heap.size, 5, none⟩) (Or.inl (Or.inr rfl)) (.slice none 0 0)).setCell (S := fun b => b = sb ∨ b = w.heap.size) (p := ⟨w.heap.size, 6, none⟩) (Or.inl (Or.inr rfl)) (.slice none 0 0)).setCell (S := fun b => b = sb ∨ b = w.heap.size) (p := ⟨w.heap.size, 7, none⟩) (Or.inl (Or.inr rfl)) (.slice none 0 0)
    have hfin := st_final HSC.out HRt.out HKt.out hks HSB.out HLT.out
    refine bodyPost_ret (v := .agg #[.int .i64 5, .int .i64 ((pk E n).at_ : Nat), .string (mkT []), .pointer none, .pointer o, .slice none 0 0, .slice none 0 0, .slice none 0 0]) (by simp [results, Tryz.results150, go_sem, r0, r1, r2, r3, r4, r5, r6, r7]) rfl ⟨.ok (stz 5 (pk E n).at_ [] .nil x) _, HEVt.out, _, rfl, ⟨_, rfl, hfin.1⟩, hfin.2.1, hfin.2.2⟩

set_option maxRecDepth 100000 in
set_option maxHeartbeats 12800000 in
theorem stmt_sleep_any {dep : Nat} (w : World) (h : RdAt w rb tv E n dep) (hE : TEnv rb E w) (ht : (pk E n).text = tSleep) : Calls Tryz.prog 150 #[.pointer (some ⟨rb, 0, none⟩)] w fun e w' => ∃ r, Ev (fun f => Tr.stmt E f dep n) r ∧ Says StV1 w w' rb tv E dep r e := by
  have hb0 : Below w.heap.size w (w.alloc (.cells #[.int .i64 0, .int .i64 0, .string ⟨#[]⟩, .pointer none, .pointer none, .slice none 0 0, .slice none 0 0, .slice none 0 0] 49)) := ((Keeps.refl (fun _ => False) w).alloc _).below (Nat.le_refl _) (fun _ _ e => e.elim)
  have hrv0 : Blk (w.alloc (.cells #[.int .i64 0, .int .i64 0, .string ⟨#[]⟩, .pointer none, .pointer none, .slice none 0 0, .slice none 0 0, .slice none 0 0] 49)) w.heap.size (st0 0) := Blk.new' w (st0 0) _ rfl
  have hp0 := peek_any _ (h.fresh hb0)
  have HPP : Hid (∀ W, Below w.heap.size w W → Calls Tryz.prog 88 #[.pointer (some ⟨rb, 0, none⟩)] W fun e w' => e = .returned (tokV (pk E n)) ∧ Below W.heap.size W w') := Lib.hid fun W hb => peek_any W (h.fresh hb)
  have HN := Lib.hid (pk_lt ht (by decide))
  have HEV : Hid (∀ r, Ev (fun f => expr E f 0 (n + 1)) r → Ev (fun f => Tr.stmt E f dep n) (r.bind fun x m => .ok (stz 6 (pk E n).at_ [] .nil x) m)) := Lib.hid fun r hr => Ev.step (h := fun f => (expr E f 0 (n + 1)).bind fun x m => .ok (stz 6 (pk E n).at_ [] .nil x) m) (fun f => by rw [stmt_eq, ht]; rfl) (Ev.map _ (fun _ _ e => by cases e) hr)
  have H0 := Lib.hid h
  have HE := Lib.hid hE
  have HLT := Lib.hid h.lt
  have HB0 := Lib.hid hb0
  have HRV0 := Lib.hid hrv0
  unfold tokV at hp0 HPP
  have hTT : (pk E n).text = tSleep := ht
  obtain ⟨T, hT⟩ : ∃ T, T = mkT tSleep := ⟨_, rfl⟩
  have hT' : T = mkT (pk E n).text := by rw [hTT]; exact hT
  have b0 : (T.toList == [99, 108, 111, 115, 101]) = false := by rw [hT, Lib.toList_data]; rfl
  have b1 : (T.toList == [112, 114, 105, 110, 116]) = false := by rw [hT, Lib.toList_data]; rfl
  have b2 : (T.toList == [115, 108, 101, 101, 112]) = true := by rw [hT, Lib.toList_data]; rfl
  rw [← hT'] at hp0 HPP
  have HP0 := Lib.hid hp0
  clear h hE hb0 hrv0 hp0 hT' ht hTT hT
  have hf := tok_field2
  have hf1 := tok_field1
  go_enter Tryz.func150, Tryz.ntmps150
  go_wp2_with fail
  refine HP0.out.mono ?_
  rintro e w1 ⟨rfl, hb1⟩
  have hb01 : Below w.heap.size w w1 := HB0.out.trans (hb1.mono HB0.out.size)
  have hrv1 := HRV0.out.fresh hb1
  obtain ⟨sb, hsb⟩ : ∃ sb, sb = w1.heap.size := ⟨_, rfl⟩
  have hsbn : w.heap.size < sb := by rw [hsb]; exact hrv1.lt
  have HSB := Lib.hid hsbn
  have hB1 : Blk (w1.alloc (.cells #[.int .i64 0, .int .i64 ((pk E n).at_ : Nat), .string ⟨#[]⟩, .pointer none, .pointer none, .slice none 0 0, .slice none 0 0, .slice none 0 0] 49)) sb (st0 (pk E n).at_) := Blk.new' w1 (st0 (pk E n).at_) _ hsb
  have hb2 : Below w.heap.size w (w1.alloc (.cells #[.int .i64 0, .int .i64 ((pk E n).at_ : Nat), .string ⟨#[]⟩, .pointer none, .pointer none, .slice none 0 0, .slice none 0 0, .slice none 0 0] 49)) := hb01.alloc hb01.size _
  have hrv2 : Blk (w1.alloc (.cells #[.int .i64 0, .int .i64 ((pk E n).at_ : Nat), .string ⟨#[]⟩, .pointer none, .pointer none, .slice none 0 0, .slice none 0 0, .slice none 0 0] 49)) w.heap.size (st0 0) := hrv1.keeps (S := fun _ => False) ((Keeps.refl _ w1).alloc _) id
  have HP1 := Lib.hid (HPP.out _ hb2)
  have HB1 := Lib.hid hB1
  have HB2 := Lib.hid hb2
  have HRV2 := Lib.hid hrv2
  clear hB1 hb2 hrv2 hrv1 hb01 hb1 hsbn HPP HP0
  go_wp2_with fail
  rw [← hsb]
  clear hsb
  refine HP1.out.mono ?_
  rintro e w2 ⟨rfl, hb3⟩
  have HBs := Lib.hid (HB1.out.fresh hb3)
  have HRVs := Lib.hid (HRV2.out.fresh hb3)
  have HBW : Hid (Below w.heap.size w w2) := Lib.hid (HB2.out.trans (hb3.mono HB2.out.size))
  clear hb3 HB1 HRV2 HB2 HP1
  have hn := HN.out
  go_wp2_with fail
  refine (skip_tok w2 (H0.out.fresh HBW.out) hn).mono ?_
  rintro e w3 ⟨rfl, hr3, hk3⟩
  clear hn
  have hne3 : ¬ sb = rb := by have := HSB.out; have := HLT.out; omega
  have hne4 : ¬ w.heap.size = rb := by have := HLT.out; omega
  have HBt0 := Lib.hid (HBs.out.keeps hk3 hne3)
  have HRVt0 := Lib.hid (HRVs.out.keeps hk3 hne4)
  have HR3 := Lib.hid hr3
  have HK3 : Hid (Keeps (fun b => b = rb) w w3) := Lib.hid ((Keeps.of_new HBW.out).trans hk3)
  have HN3 := Lib.hid hne3
  have HN4 := Lib.hid hne4
  have HE3 := Lib.hid (HE.out.own HK3.out)
  clear hr3 hk3 hne3 hne4
  unfold tokV
  generalize mkT (pk E n).text = TT
  have HXP := Lib.hid (RExpr (dd := 0) (Nat.zero_le _) (n + 1) w3 HR3.out HE3.out)
  go_wp2_with fail
  refine HXP.out.mono ?_
  rintro e w4 ⟨r, hev, hsay⟩
  have hev2 := Lib.hid (HEV.out r hev)
  cases r with
  | out => exact hsay.elim
  | bad k a =>
    have hsay' : Threw w3 w4 rb k a e := hsay
    obtain ⟨b, rfl⟩ := threw_panic hsay'
    exact ⟨rfl, _, hev2.out, hsay'.own HLT.out HK3.out⟩
  | ok x m =>
    obtain ⟨v, rfl, hx, hr4, hk4⟩ := hsay
    obtain ⟨o, rfl⟩ := ex_ptr hx
    have HBt := Lib.hid (HBt0.out.keeps hk4 HN3.out)
    have HRV := Lib.hid (HRVt0.out.keeps hk4 HN4.out)
    have HRt := Lib.hid hr4
    have HKt := Lib.hid (HK3.out.trans hk4)
    have HEVt : Hid (Ev (fun f => Tr.stmt E f dep n) (.ok (stz 6 (pk E n).at_ [] .nil x) m)) := hev2
    have HSC : Hid (StC w4 (fun b => sb < b) (st1 6 (pk E n).at_ [] none o) (stz 6 (pk E n).at_ [] .nil x)) := Lib.hid (stC_one rfl (ExIn.mono (fun b _ e => by have h1 : w3.heap.size ≤ b := e; have := HBt0.out.lt; show sb < b; omega) _ _ hx))
    clear hx hr4 hk4 hev hev2
    have c0 := HBt.out.at_ 0 _ rfl
    have c1 := HBt.out.at_ 1 _ rfl
    have c2 := HBt.out.at_ 2 _ rfl
    have c3 := HBt.out.at_ 3 _ rfl
    have c4 := HBt.out.at_ 4 _ rfl
    have c5 := HBt.out.at_ 5 _ rfl
    have c6 := HBt.out.at_ 6 _ rfl
    have c7 := HBt.out.at_ 7 _ rfl
    have z0 := HBt.out.free 0
    have z4 := HBt.out.free 4
    have r0 := HRV.out.at_ 0 _ rfl
    have y0 := HRV.out.free 0
    have r1 := HRV.out.at_ 1 _ rfl
    have y1 := HRV.out.free 1
    have r2 := HRV.out.at_ 2 _ rfl
    have y2 := HRV.out.free 2
    have r3 := HRV.out.at_ 3 _ rfl
    have y3 := HRV.out.free 3
    have r4 := HRV.out.at_ 4 _ rfl
    have y4 := HRV.out.free 4
    have r5 := HRV.out.at_ 5 _ rfl
    have y5 := HRV.out.free 5
    have r6 := HRV.out.at_ 6 _ rfl
    have y6 := HRV.out.free 6
    have r7 := HRV.out.at_ 7 _ rfl
    have y7 := HRV.out.free 7
    have hne : w.heap.size ≠ sb := by have := HSB.out; omega
    have hne2 : sb ≠ w.heap.size := fun e => hne e.symm
    have HSB2 := Lib.hid hne
    go_wp2_with fail
    have hks : Keeps (fun b => b = sb ∨ b = w.heap.size) w4 ((((((((((w4.setCell ⟨sb, 0, none⟩ (.int .i64 6)).setCell ⟨sb, 4, none⟩ (.pointer o)).setCell ⟨w.heap.size, 0, none⟩ (.int .i64 6)).setCell ⟨w.heap.size, 1, none⟩ (.int .i64 ((pk E n).at_ : Nat))).setCell ⟨w.heap.size, 2, none⟩ (.string (mkT []))).setCell ⟨w.heap.size, 3, none⟩ (.pointer none)).setCell ⟨w.heap.size, 4, none⟩ (.pointer o)).setCell ⟨w.heap.size, 5, none⟩ (.slice none 0 0)).setCell ⟨w.heap.size, 6, none⟩ (.slice none 0 0)).setCell ⟨w.heap.size, 7, none⟩ (.slice none 0 0)) := ((((((((((Keeps.refl (fun b => b = sb ∨ b = w.heap.size) w4).setCell (S := fun b => b = sb ∨ b = w.heap.size) (p := ⟨sb, 0, none⟩) (Or.inl (Or.inl rfl)) (.int .i64 6)).setCell (S := fun b => b = sb ∨ b = w.heap.size) (p := ⟨sb, 4, none⟩) (Or.inl (Or.inl rfl)) (.pointer o)).setCell (S := fun b => b = sb ∨ b = w.heap.size) (p := ⟨w.heap.size, 0, none⟩) (Or.inl (Or.inr rfl)) (.int .i64 6)).setCell (S := fun b => b = sb ∨ b = w.heap.size) (p := ⟨w.heap.size, 1, none⟩) (Or.inl (Or.inr rfl)) (.int .i64 ((pk E n).at_ : Nat))).setCell (S := fun b => b = sb ∨ b = w.heap.size) (p := ⟨w.heap.size, 2, none⟩) (Or.inl (Or.inr rfl)) (.string (mkT []))).setCell (S := fun b => b = sb ∨ b = w.heap.size) (p := ⟨w.heap.size, 3, none⟩) (Or.inl (Or.inr rfl)) (.pointer none)).setCell (S := fun b => b = sb ∨ b = w.heap.size) (p := ⟨w.heap.size, 4, none⟩) (Or.inl (Or.inr rfl)) (.pointer o)).setCell (S := fun b => b = sb ∨ b = w.heap.size) (p := ⟨w.heap.size, 5, none⟩) (Or.inl (Or.inr rfl)) (.slice none 0 0)).setCell (S := fun b => b = sb ∨ b = w.heap.size) (p := ⟨w.heap.size, 6, none⟩) (Or.inl (Or.inr rfl)) (.slice none 0 0)).setCell (S := fun b => b = sb ∨ b = w.heap.size) (p := ⟨w.heap.size, 7, none⟩) (Or.inl (Or.inr rfl)) (.slice none 0 0)
    have hfin := st_final HSC.out HRt.out HKt.out hks HSB.out HLT.out
    refine bodyPost_ret (v := .agg #[.int .i64 6, .int .i64 ((pk E n).at_ : Nat), .string (mkT []), .pointer none, .pointer o, .slice none 0 0, .slice none 0 0, .slice none 0 0]) (by simp [results, Tryz.results150, go_sem, r0, r1, r2, r3, r4, r5, r6, r7]) rfl ⟨.ok (stz 6 (pk E n).at_ [] .nil x) _, HEVt.out, _, rfl, ⟨_, rfl, hfin.1⟩, hfin.2.1, hfin.2.2⟩

set_option maxRecDepth 100000 in
set_option maxHeartbeats 12800000 in
theorem stmt_go_any {dep : Nat} (w : World) (h : RdAt w rb tv E n dep) (hE : TEnv rb E w) (ht : (pk E n).text = tGo) : Calls Tryz.prog 150 #[.pointer (some ⟨rb, 0, none⟩)] w fun e w' => ∃ r, Ev (fun f => Tr.stmt E f dep n) r ∧ Says StV1 w w' rb tv E dep r e := by
  have hb0 : Below w.heap.size w (w.alloc (.cells #[.int .i64 0, .int .i64 0, .string ⟨#[]⟩, .pointer none, .pointer none, .slice none 0 0, .slice none 0 0, .slice none 0 0] 49)) := ((Keeps.refl (fun _ => False) w).alloc _).below (Nat.le_refl _) (fun _ _ e => e.elim)
  have hrv0 : Blk (w.alloc (.cells #[.int .i64 0, .int .i64 0, .string ⟨#[]⟩, .pointer none, .pointer none, .slice none 0 0, .slice none 0 0, .slice none 0 0] 49)) w.heap.size (st0 0) := Blk.new' w (st0 0) _ rfl
  have hp0 := peek_any _ (h.fresh hb0)
  have HPP : Hid (∀ W, Below w.heap.size w W → Calls Tryz.prog 88 #[.pointer (some ⟨rb, 0, none⟩)] W fun e w' => e = .returned (tokV (pk E n)) ∧ Below W.heap.size W w') := Lib.hid fun W hb => peek_any W (h.fresh hb)
  have HN := Lib.hid (pk_lt ht (by decide))
  have HEV : Hid (∀ r, Ev (fun f => (takeKind E 1 (n + 1)).bind fun t m => (Tr.call E f 0 t m).bind fun x m2 => .ok (stz 7 (pk E n).at_ [] .nil x) m2) r → Ev (fun f => Tr.stmt E f dep n) r) := Lib.hid fun r hr => Ev.step (h := fun f => (takeKind E 1 (n + 1)).bind fun t m => (Tr.call E f 0 t m).bind fun x m2 => .ok (stz 7 (pk E n).at_ [] .nil x) m2) (fun f => by rw [stmt_eq, ht]; rfl) hr
  have H0 := Lib.hid h
  have HE := Lib.hid hE
  have HLT := Lib.hid h.lt
  have HB0 := Lib.hid hb0
  have HRV0 := Lib.hid hrv0
  unfold tokV at hp0 HPP
  have hTT : (pk E n).text = tGo := ht
  obtain ⟨T, hT⟩ : ∃ T, T = mkT tGo := ⟨_, rfl⟩
  have hT' : T = mkT (pk E n).text := by rw [hTT]; exact hT
  have b0 : (T.toList == [99, 108, 111, 115, 101]) = false := by rw [hT, Lib.toList_data]; rfl
  have b1 : (T.toList == [112, 114, 105, 110, 116]) = false := by rw [hT, Lib.toList_data]; rfl
  have b2 : (T.toList == [115, 108, 101, 101, 112]) = false := by rw [hT, Lib.toList_data]; rfl
  have b3 : (T.toList == [103, 111]) = true := by rw [hT, Lib.toList_data]; rfl
  rw [← hT'] at hp0 HPP
  have HP0 := Lib.hid hp0
  clear h hE hb0 hrv0 hp0 hT' ht hTT hT
  have hf := tok_field2
  have hf1 := tok_field1
  go_enter Tryz.func150, Tryz.ntmps150
  go_wp2_with fail
  refine HP0.out.mono ?_
  rintro e w1 ⟨rfl, hb1⟩
  have hb01 : Below w.heap.size w w1 := HB0.out.trans (hb1.mono HB0.out.size)
  have hrv1 := HRV0.out.fresh hb1
  obtain ⟨sb, hsb⟩ : ∃ sb, sb = w1.heap.size := ⟨_, rfl⟩
  have hsbn : w.heap.size < sb := by rw [hsb]; exact hrv1.lt
  have HSB := Lib.hid hsbn
  have hB1 : Blk (w1.alloc (.cells #[.int .i64 0, .int .i64 ((pk E n).at_ : Nat), .string ⟨#[]⟩, .pointer none, .pointer none, .slice none 0 0, .slice none 0 0, .slice none 0 0] 49)) sb (st0 (pk E n).at_) := Blk.new' w1 (st0 (pk E n).at_) _ hsb
  have hb2 : Below w.heap.size w (w1.alloc (.cells #[.int .i64 0, .int .i64 ((pk E n).at_ : Nat), .string ⟨#[]⟩, .pointer none, .pointer none, .slice none 0 0, .slice none 0 0, .slice none 0 0] 49)) := hb01.alloc hb01.size _
  have hrv2 : Blk (w1.alloc (.cells #[.int .i64 0, .int .i64 ((pk E n).at_ : Nat), .string ⟨#[]⟩, .pointer none, .pointer none, .slice none 0 0, .slice none 0 0, .slice none 0 0] 49)) w.heap.size (st0 0) := hrv1.keeps (S := fun _ => False) ((Keeps.refl _ w1).alloc _) id
  have HP1 := Lib.hid (HPP.out _ hb2)
  have HB1 := Lib.hid hB1
  have HB2 := Lib.hid hb2
  have HRV2 := Lib.hid hrv2
  clear hB1 hb2 hrv2 hrv1 hb01 hb1 hsbn HPP HP0
  go_wp2_with fail
  rw [← hsb]
  clear hsb
  refine HP1.out.mono ?_
  rintro e w2 ⟨rfl, hb3⟩
  have HBs := Lib.hid (HB1.out.fresh hb3)
  have HRVs := Lib.hid (HRV2.out.fresh hb3)
  have HBW : Hid (Below w.heap.size w w2) := Lib.hid (HB2.out.trans (hb3.mono HB2.out.size))
  clear hb3 HB1 HRV2 HB2 HP1
  have hn := HN.out
  go_wp2_with fail
  refine (skip_tok w2 (H0.out.fresh HBW.out) hn).mono ?_
  rintro e w3 ⟨rfl, hr3, hk3⟩
  clear hn
  have hne3 : ¬ sb = rb := by have := HSB.out; have := HLT.out; omega
  have hne4 : ¬ w.heap.size = rb := by have := HLT.out; omega
  have HBt0 := Lib.hid (HBs.out.keeps hk3 hne3)
  have HRVt0 := Lib.hid (HRVs.out.keeps hk3 hne4)
  have HR3 := Lib.hid hr3
  have HK3 : Hid (Keeps (fun b => b = rb) w w3) := Lib.hid ((Keeps.of_new HBW.out).trans hk3)
  have HN3 := Lib.hid hne3
  have HN4 := Lib.hid hne4
  have HE3 := Lib.hid (HE.out.own HK3.out)
  clear hr3 hk3 hne3 hne4
  unfold tokV
  generalize mkT (pk E n).text = TT
  have HTK := Lib.hid (takeKind_tok 1 (by decide) w3 HR3.out)
  go_wp2_with fail
  cases ht1 : takeKind E 1 (n + 1) with
  | out => exact absurd ht1 (takeKind_ne E _ _)
  | bad k a =>
    rw [ht1] at HTK
    refine HTK.out.mono ?_
    rintro e w4 hth
    have hth2 := Threw.own hth HLT.out HK3.out
    obtain ⟨b, rfl⟩ := threw_panic hth
    exact ⟨rfl, .bad k a, HEV.out _ (by rw [ht1]; exact Ev.pure (fun e => by cases e) fun _ => rfl), hth2⟩
  | ok t1 m1 =>
    rw [ht1] at HTK
    have HTT := Lib.hid ht1
    clear ht1
    refine HTK.out.mono ?_
    rintro e w4 ⟨v4, rfl, rfl, hr4, hk4⟩
    have HB4 := Lib.hid (HBt0.out.keeps hk4 HN3.out)
    have HRV4 := Lib.hid (HRVt0.out.keeps hk4 HN4.out)
    have HK4 := Lib.hid (HK3.out.trans hk4)
    have HXP := Lib.hid (RCall (dd := 0) (by decide) t1 m1 w4 hr4 (HE3.out.own hk4))
    clear hr4 hk4
    go_wp2_with fail
    refine HXP.out.mono ?_
    rintro e w5 ⟨r, hev, hsay⟩
    have hev2 : Hid (Ev (fun f => Tr.stmt E f dep n) (r.bind fun x m2 => .ok (stz 7 (pk E n).at_ [] .nil x) m2)) := Lib.hid (HEV.out _ (by rw [HTT.out]; exact Ev.map _ (fun _ _ e => by cases e) hev))
    cases r with
    | out => exact hsay.elim
    | bad k a =>
      have hsay' : Threw w4 w5 rb k a e := hsay
      obtain ⟨b, rfl⟩ := threw_panic hsay'
      exact ⟨rfl, _, hev2.out, hsay'.own HLT.out HK4.out⟩
    | ok x m =>
      obtain ⟨v, rfl, hx, hr5, hk5⟩ := hsay
      obtain ⟨o, rfl⟩ := ex_ptr hx
      have HBt := Lib.hid (HB4.out.keeps hk5 HN3.out)
      have HRV := Lib.hid (HRV4.out.keeps hk5 HN4.out)
      have HRt := Lib.hid hr5
      have HKt := Lib.hid (HK4.out.trans hk5)
      have HEVt : Hid (Ev (fun f => Tr.stmt E f dep n) (.ok (stz 7 (pk E n).at_ [] .nil x) m)) := hev2
      have HSC : Hid (StC w5 (fun b => sb < b) (st1 7 (pk E n).at_ [] none o) (stz 7 (pk E n).at_ [] .nil x)) := Lib.hid (stC_one rfl (ExIn.mono (fun b _ e => by have h1 : w4.heap.size ≤ b := e; have := HB4.out.lt; show sb < b; omega) _ _ hx))
      clear hx hr5 hk5 hev hev2
      have c0 := HBt.out.at_ 0 _ rfl
      have c1 := HBt.out.at_ 1 _ rfl
      have c2 := HBt.out.at_ 2 _ rfl
      have c3 := HBt.out.at_ 3 _ rfl
      have c4 := HBt.out.at_ 4 _ rfl
      have c5 := HBt.out.at_ 5 _ rfl
      have c6 := HBt.out.at_ 6 _ rfl
      have c7 := HBt.out.at_ 7 _ rfl
      have z0 := HBt.out.free 0
      have z4 := HBt.out.free 4
      have r0 := HRV.out.at_ 0 _ rfl
      have y0 := HRV.out.free 0
      have r1 := HRV.out.at_ 1 _ rfl
      have y1 := HRV.out.free 1
      have r2 := HRV.out.at_ 2 _ rfl
      have y2 := HRV.out.free 2
      have r3 := HRV.out.at_ 3 _ rfl
      have y3 := HRV.out.free 3
      have r4 := HRV.out.at_ 4 _ rfl
      have y4 := HRV.out.free 4
      have r5 := HRV.out.at_ 5 _ rfl
      have y5 := HRV.out.free 5
      have r6 := HRV.out.at_ 6 _ rfl
      have y6 := HRV.out.free 6
      have r7 := HRV.out.at_ 7 _ rfl
      have y7 := HRV.out.free 7
      have hne : w.heap.size ≠ sb := by have := HSB.out; omega
      have hne2 : sb ≠ w.heap.size := fun e => hne e.symm
      have HSB2 := Lib.hid hne
      go_wp2_with fail
      have hks : Keeps (fun b => b = sb ∨ b = w.heap.size) w5 ((((((((((w5.setCell ⟨sb, 0, none⟩ (.int .i64 7)).setCell ⟨sb, 4, none⟩ (.pointer o)).setCell ⟨w.heap.size, 0, none⟩ (.int .i64 7)).setCell ⟨w.heap.size, 1, none⟩ (.int .i64 ((pk E n).at_ : Nat))).setCell ⟨w.heap.size, 2, none⟩ (.string (mkT []))).setCell ⟨w.heap.size, 3, none⟩ (.pointer none)).setCell ⟨w.heap.size, 4, none⟩ (.pointer o)).setCell ⟨w.heap.size, 5, none⟩ (.slice none 0 0)).setCell ⟨w.heap.size, 6, none⟩ (.slice none 0 0)).setCell ⟨w.heap.size, 7, none⟩ (.slice none 0 0)) := ((((((((((Keeps.refl (fun b => b = sb ∨ b = w.heap.size) w5).setCell (S := fun b => b = sb ∨ b = w.heap.size) (p := ⟨sb, 0, none⟩) (Or.inl (Or.inl rfl)) (.int .i64 7)).setCell (S := fun b => b = sb ∨ b = w.heap.size) (p := ⟨sb, 4, none⟩) (Or.inl (Or.inl rfl)) (.pointer o)).setCell (S := fun b => b = sb ∨ b = w.heap.size) (p := ⟨w.heap.size, 0, none⟩) (Or.inl (Or.inr rfl)) (.int .i64 7)).setCell (S := fun b => b = sb ∨ b = w.heap.size) (p := ⟨w.heap.size, 1, none⟩) (Or.inl (Or.inr rfl)) (.int .i64 ((pk E n).at_ : Nat))).setCell (S := fun b => b = sb ∨ b = w.heap.size) (p := ⟨w.heap.size, 2, none⟩) (Or.inl (Or.inr rfl)) (.string (mkT []))).setCell (S := fun b => b = sb ∨ b = w.heap.size) (p := ⟨w.heap.size, 3, none⟩) (Or.inl (Or.inr rfl)) (.pointer none)).setCell (S := fun b => b = sb ∨ b = w.heap.size) (p := ⟨w.heap.size, 4, none⟩) (Or.inl (Or.inr rfl)) (.pointer o)).setCell (S := fun b => b = sb ∨ b = w.heap.size) (p := ⟨w.heap.size, 5, none⟩) (Or.inl (Or.inr rfl)) (.slice none 0 0)).setCell (S := fun b => b = sb ∨ b = w.heap.size) (p := ⟨w.heap.size, 6, none⟩) (Or.inl (Or.inr rfl)) (.slice none 0 0)).setCell (S := fun b => b = sb ∨ b = w.heap.size) (p := ⟨w.heap.size, 7, none⟩) (Or.inl (Or.inr rfl)) (.slice none 0 0)
      have hfin := st_final HSC.out HRt.out HKt.out hks HSB.out HLT.out
      refine bodyPost_ret (v := .agg #[.int .i64 7, .int .i64 ((pk E n).at_ : Nat), .string (mkT []), .pointer none, .pointer o, .slice none 0 0, .slice none 0 0, .slice none 0 0]) (by simp [results, Tryz.results150, go_sem, r0, r1, r2, r3, r4, r5, r6, r7]) rfl ⟨.ok (stz 7 (pk E n).at_ [] .nil x) _, HEVt.out, _, rfl, ⟨_, rfl, hfin.1⟩, hfin.2.1, hfin.2.2⟩
end Go.Proofs.YtgonbmcojjcabaaGreatDoor

namespace Go.Proofs.YtgonbmcojjcabaaGreatDoor
open Go.RowKit Lx Tr
variable {w w' : World} {rb n d dd : Nat} {tv : Value} {E : Env}


set_option maxRecDepth 100000 in
set_option maxHeartbeats 12800000 in
theorem stmt_return_any {dep : Nat} (w : World) (h : RdAt w rb tv E n dep) (hE : TEnv rb E w) (ht : (pk E n).text = tReturn) : Calls Tryz.prog 150 #[.pointer (some ⟨rb, 0, none⟩)] w fun e w' => ∃ r, Ev (fun f => Tr.stmt E f dep n) r ∧ Says StV1 w w' rb tv E dep r e := by
  have hb0 : Below w.heap.size w (w.alloc (.cells #[.int .i64 0, .int .i64 0, .string ⟨#[]⟩, .pointer none, .pointer none, .slice none 0 0, .slice none 0 0, .slice none 0 0] 49)) := ((Keeps.refl (fun _ => False) w).alloc _).below (Nat.le_refl _) (fun _ _ e => e.elim)
  have hrv0 : Blk (w.alloc (.cells #[.int .i64 0, .int .i64 0, .string ⟨#[]⟩, .pointer none, .pointer none, .slice none 0 0, .slice none 0 0, .slice none 0 0] 49)) w.heap.size (st0 0) := Blk.new' w (st0 0) _ rfl
  have hp0 := peek_any _ (h.fresh hb0)
  have HPP : Hid (∀ W, Below w.heap.size w W → Calls Tryz.prog 88 #[.pointer (some ⟨rb, 0, none⟩)] W fun e w' => e = .returned (tokV (pk E n)) ∧ Below W.heap.size W w') := Lib.hid fun W hb => peek_any W (h.fresh hb)
  have HEV : Hid (∀ r, Ev (fun f => retV E f n) r → Ev (fun f => Tr.stmt E f dep n) r) := Lib.hid fun r hr => Ev.step (h := fun f => retV E f n) (fun f => by rw [stmt_eq, ht]; rfl) hr
  have HTX := Lib.hid ht
  have H0 := Lib.hid h
  have HE := Lib.hid hE
  have HLT := Lib.hid h.lt
  have HB0 := Lib.hid hb0
  have HRV0 := Lib.hid hrv0
  unfold tokV at hp0 HPP
  have hTT : (pk E n).text = tReturn := ht
  obtain ⟨T, hT⟩ : ∃ T, T = mkT tReturn := ⟨_, rfl⟩
  have hT' : T = mkT (pk E n).text := by rw [hTT]; exact hT
  have b0 : (T.toList == [99, 108, 111, 115, 101]) = false := by rw [hT, Lib.toList_data]; rfl
  have b1 : (T.toList == [112, 114, 105, 110, 116]) = false := by rw [hT, Lib.toList_data]; rfl
  have b2 : (T.toList == [115, 108, 101, 101, 112]) = false := by rw [hT, Lib.toList_data]; rfl
  have b3 : (T.toList == [103, 111]) = false := by rw [hT, Lib.toList_data]; rfl
  have b4 : (T.toList == [114, 101, 116, 117, 114, 110]) = true := by rw [hT, Lib.toList_data]; rfl
  rw [← hT'] at hp0 HPP
  have HP0 := Lib.hid hp0
  clear h hE hb0 hrv0 hp0 hT' ht hTT hT
  have hf := tok_field2
  have hf1 := tok_field1
  go_enter Tryz.func150, Tryz.ntmps150
  go_wp2_with fail
  refine HP0.out.mono ?_
  rintro e w1 ⟨rfl, hb1⟩
  have hb01 : Below w.heap.size w w1 := HB0.out.trans (hb1.mono HB0.out.size)
  have hrv1 := HRV0.out.fresh hb1
  obtain ⟨sb, hsb⟩ : ∃ sb, sb = w1.heap.size := ⟨_, rfl⟩
  have hsbn : w.heap.size < sb := by rw [hsb]; exact hrv1.lt
  have HSB := Lib.hid hsbn
  have hB1 : Blk (w1.alloc (.cells #[.int .i64 0, .int .i64 ((pk E n).at_ : Nat), .string ⟨#[]⟩, .pointer none, .pointer none, .slice none 0 0, .slice none 0 0, .slice none 0 0] 49)) sb (st0 (pk E n).at_) := Blk.new' w1 (st0 (pk E n).at_) _ hsb
  have hb2 : Below w.heap.size w (w1.alloc (.cells #[.int .i64 0, .int .i64 ((pk E n).at_ : Nat), .string ⟨#[]⟩, .pointer none, .pointer none, .slice none 0 0, .slice none 0 0, .slice none 0 0] 49)) := hb01.alloc hb01.size _
  have hrv2 : Blk (w1.alloc (.cells #[.int .i64 0, .int .i64 ((pk E n).at_ : Nat), .string ⟨#[]⟩, .pointer none, .pointer none, .slice none 0 0, .slice none 0 0, .slice none 0 0] 49)) w.heap.size (st0 0) := hrv1.keeps (S := fun _ => False) ((Keeps.refl _ w1).alloc _) id
  have HP1 := Lib.hid (HPP.out _ hb2)
  have HB1 := Lib.hid hB1
  have HB2 := Lib.hid hb2
  have HRV2 := Lib.hid hrv2
  clear hB1 hb2 hrv2 hrv1 hb01 hb1 hsbn HPP HP0
  go_wp2_with fail
  rw [← hsb]
  clear hsb
  refine HP1.out.mono ?_
  rintro e w2 ⟨rfl, hb3⟩
  have HBs := Lib.hid (HB1.out.fresh hb3)
  have HRVs := Lib.hid (HRV2.out.fresh hb3)
  have HBW : Hid (Below w.heap.size w w2) := Lib.hid (HB2.out.trans (hb3.mono HB2.out.size))
  clear hb3 HB1 HRV2 HB2 HP1
  have hrs : rb < sb := by have := HSB.out; have := HLT.out; omega
  have HXP := Lib.hid (giveBack_any w2 (H0.out.fresh HBW.out) (HE.out.fresh HBW.out) HBs.out hrs HTX.out)
  have HRS := Lib.hid hrs
  clear hrs
  go_wp2_with fail
  refine HXP.out.mono ?_
  rintro e w3 ⟨r, hev, hsay⟩
  cases r with
  | out => exact hsay.elim
  | bad k a =>
    have hsay' : Threw w2 w3 rb k a e := hsay
    obtain ⟨b, rfl⟩ := threw_panic hsay'
    exact ⟨rfl, _, HEV.out _ hev, hsay'.own HLT.out (Keeps.of_new HBW.out)⟩
  | ok s m =>
    obtain ⟨rfl, ⟨vs, hb3, hc3⟩, hr3, hk3⟩ := hsay
    cases s with
    | mk code at_ name dst val thn els css =>
    have hc3' := hc3
    obtain ⟨tv2, vv2, nv2, ev2, cv2, e2, hx1, hx2, hx3, _, hx5, _, hx7, _⟩ := hc3'
    obtain ⟨o1, rfl⟩ := ex_ptr hx1
    obtain ⟨o2, rfl⟩ := ex_ptr hx2
    obtain ⟨a3, l3, k3, rfl⟩ := hx3.form
    obtain ⟨a5, l5, k5, rfl⟩ := hx5.form
    obtain ⟨a7, l7, k7, rfl⟩ := hx7.form
    subst e2
    have HBt := Lib.hid hb3
    have HRV := Lib.hid (HRVs.out.keeps hk3 (fun e => by have := HSB.out; have := HLT.out; omega))
    have HRt := Lib.hid hr3
    have HKt : Hid (Keeps (fun b => b = rb) w w3) := Lib.hid ((Keeps.of_new (S := fun b => b = rb) HBW.out).trans' hk3 (fun i hi e => by have := HSB.out; omega))
    have HEVt := Lib.hid (HEV.out _ hev)
    have HSC := Lib.hid (StC.mono (G := fun b => sb < b) (fun b _ e => by have h1 : w2.heap.size ≤ b := e; have := HBs.out.lt; omega) hc3)
    clear hx1 hx2 hx3 hx5 hx7 hb3 hc3 hr3 hk3 hev
    have c0 := HBt.out.at_ 0 _ rfl
    have c1 := HBt.out.at_ 1 _ rfl
    have c2 := HBt.out.at_ 2 _ rfl
    have c3 := HBt.out.at_ 3 _ rfl
    have c4 := HBt.out.at_ 4 _ rfl
    have c5 := HBt.out.at_ 5 _ rfl
    have c6 := HBt.out.at_ 6 _ rfl
    have c7 := HBt.out.at_ 7 _ rfl
    have r0 := HRV.out.at_ 0 _ rfl
    have y0 := HRV.out.free 0
    have r1 := HRV.out.at_ 1 _ rfl
    have y1 := HRV.out.free 1
    have r2 := HRV.out.at_ 2 _ rfl
    have y2 := HRV.out.free 2
    have r3 := HRV.out.at_ 3 _ rfl
    have y3 := HRV.out.free 3
    have r4 := HRV.out.at_ 4 _ rfl
    have y4 := HRV.out.free 4
    have r5 := HRV.out.at_ 5 _ rfl
    have y5 := HRV.out.free 5
    have r6 := HRV.out.at_ 6 _ rfl
    have y6 := HRV.out.free 6
    have r7 := HRV.out.at_ 7 _ rfl
    have y7 := HRV.out.free 7
    have hne : w.heap.size ≠ sb := by have := HSB.out; omega
    have hne2 : sb ≠ w.heap.size := fun e => hne e.symm
    have HSB2 := Lib.hid hne
    go_wp2_with fail
    have hks : Keeps (fun b => b = sb ∨ b = w.heap.size) w3 ((((((((w3.setCell ⟨w.heap.size, 0, none⟩ (.int .i64 (code : Nat))).setCell ⟨w.heap.size, 1, none⟩ (.int .i64 (at_ : Nat))).setCell ⟨w.heap.size, 2, none⟩ (.string (mkT name))).setCell ⟨w.heap.size, 3, none⟩ (.pointer o1)).setCell ⟨w.heap.size, 4, none⟩ (.pointer o2)).setCell ⟨w.heap.size, 5, none⟩ (.slice a3 l3 k3)).setCell ⟨w.heap.size, 6, none⟩ (.slice a5 l5 k5)).setCell ⟨w.heap.size, 7, none⟩ (.slice a7 l7 k7)) := ((((((((Keeps.refl (fun b => b = sb ∨ b = w.heap.size) w3).setCell (S := fun b => b = sb ∨ b = w.heap.size) (p := ⟨w.heap.size, 0, none⟩) (Or.inl (Or.inr rfl)) (.int .i64 (code : Nat))).setCell (S := fun b => b = sb ∨ b = w.heap.size) (p := ⟨w.heap.size, 1, none⟩) (Or.inl (Or.inr rfl)) (.int .i64 (at_ : Nat))).setCell (S := fun b => b = sb ∨ b = w.heap.size) (p := ⟨w.heap.size, 2, none⟩) (Or.inl (Or.inr rfl)) (.string (mkT name))).setCell (S := fun b => b = sb ∨ b = w.heap.size) (p := ⟨w.heap.size, 3, none⟩) (Or.inl (Or.inr rfl)) (.pointer o1)).setCell (S := fun b => b = sb ∨ b = w.heap.size) (p := ⟨w.heap.size, 4, none⟩) (Or.inl (Or.inr rfl)) (.pointer o2)).setCell (S := fun b => b = sb ∨ b = w.heap.size) (p := ⟨w.heap.size, 5, none⟩) (Or.inl (Or.inr rfl)) (.slice a3 l3 k3)).setCell (S := fun b => b = sb ∨ b = w.heap.size) (p := ⟨w.heap.size, 6, none⟩) (Or.inl (Or.inr rfl)) (.slice a5 l5 k5)).setCell (S := fun b => b = sb ∨ b = w.heap.size) (p := ⟨w.heap.size, 7, none⟩) (Or.inl (Or.inr rfl)) (.slice a7 l7 k7)
    have hfin := st_final HSC.out HRt.out HKt.out hks HSB.out HLT.out
    refine bodyPost_ret (v := .agg #[.int .i64 (code : Nat), .int .i64 (at_ : Nat), .string (mkT name), .pointer o1, .pointer o2, .slice a3 l3 k3, .slice a5 l5 k5, .slice a7 l7 k7]) (by simp [results, Tryz.results150, go_sem, r0, r1, r2, r3, r4, r5, r6, r7]) rfl ⟨.ok (.mk code at_ name dst val thn els css) _, HEVt.out, _, rfl, ⟨_, rfl, hfin.1⟩, hfin.2.1, hfin.2.2⟩

set_option maxRecDepth 100000 in
set_option maxHeartbeats 12800000 in
theorem stmt_if_any {dep : Nat} (hK : BlockC rb tv E dep) (w : World) (h : RdAt w rb tv E n dep) (hE : TEnv rb E w) (ht : (pk E n).text = tIf) : Calls Tryz.prog 150 #[.pointer (some ⟨rb, 0, none⟩)] w fun e w' => ∃ r, Ev (fun f => Tr.stmt E f dep n) r ∧ Says StV1 w w' rb tv E dep r e := by
  have hb0 : Below w.heap.size w (w.alloc (.cells #[.int .i64 0, .int .i64 0, .string ⟨#[]⟩, .pointer none, .pointer none, .slice none 0 0, .slice none 0 0, .slice none 0 0] 49)) := ((Keeps.refl (fun _ => False) w).alloc _).below (Nat.le_refl _) (fun _ _ e => e.elim)
  have hrv0 : Blk (w.alloc (.cells #[.int .i64 0, .int .i64 0, .string ⟨#[]⟩, .pointer none, .pointer none, .slice none 0 0, .slice none 0 0, .slice none 0 0] 49)) w.heap.size (st0 0) := Blk.new' w (st0 0) _ rfl
  have hp0 := peek_any _ (h.fresh hb0)
  have HPP : Hid (∀ W, Below w.heap.size w W → Calls Tryz.prog 88 #[.pointer (some ⟨rb, 0, none⟩)] W fun e w' => e = .returned (tokV (pk E n)) ∧ Below W.heap.size W w') := Lib.hid fun W hb => peek_any W (h.fresh hb)
  have HKB := Lib.hid hK
  have HEV : Hid (∀ r, Ev (fun f => ifV E f dep n) r → Ev (fun f => Tr.stmt E f dep n) r) := Lib.hid fun r hr => Ev.step (h := fun f => ifV E f dep n) (fun f => by rw [stmt_eq, ht]; rfl) hr
  have HTX := Lib.hid ht
  have H0 := Lib.hid h
  have HE := Lib.hid hE
  have HLT := Lib.hid h.lt
  have HB0 := Lib.hid hb0
  have HRV0 := Lib.hid hrv0
  unfold tokV at hp0 HPP
  have hTT : (pk E n).text = tIf := ht
  obtain ⟨T, hT⟩ : ∃ T, T = mkT tIf := ⟨_, rfl⟩
  have hT' : T = mkT (pk E n).text := by rw [hTT]; exact hT
  have b0 : (T.toList == [99, 108, 111, 115, 101]) = false := by rw [hT, Lib.toList_data]; rfl
  have b1 : (T.toList == [112, 114, 105, 110, 116]) = false := by rw [hT, Lib.toList_data]; rfl
  have b2 : (T.toList == [115, 108, 101, 101, 112]) = false := by rw [hT, Lib.toList_data]; rfl
  have b3 : (T.toList == [103, 111]) = false := by rw [hT, Lib.toList_data]; rfl
  have b4 : (T.toList == [114, 101, 116, 117, 114, 110]) = false := by rw [hT, Lib.toList_data]; rfl
  have b5 : (T.toList == [98, 114, 101, 97, 107]) = false := by rw [hT, Lib.toList_data]; rfl
  have b6 : (T.toList == [99, 111, 110, 116, 105, 110, 117, 101]) = false := by rw [hT, Lib.toList_data]; rfl
  have b7 : (T.toList == [105, 102]) = true := by rw [hT, Lib.toList_data]; rfl
  rw [← hT'] at hp0 HPP
  have HP0 := Lib.hid hp0
  clear h hE hb0 hrv0 hp0 hT' ht hTT hT
  have hf := tok_field2
  have hf1 := tok_field1
  go_enter Tryz.func150, Tryz.ntmps150
  go_wp2_with fail
  refine HP0.out.mono ?_
  rintro e w1 ⟨rfl, hb1⟩
  have hb01 : Below w.heap.size w w1 := HB0.out.trans (hb1.mono HB0.out.size)
  have hrv1 := HRV0.out.fresh hb1
  obtain ⟨sb, hsb⟩ : ∃ sb, sb = w1.heap.size := ⟨_, rfl⟩
  have hsbn : w.heap.size < sb := by rw [hsb]; exact hrv1.lt
  have HSB := Lib.hid hsbn
  have hB1 : Blk (w1.alloc (.cells #[.int .i64 0, .int .i64 ((pk E n).at_ : Nat), .string ⟨#[]⟩, .pointer none, .pointer none, .slice none 0 0, .slice none 0 0, .slice none 0 0] 49)) sb (st0 (pk E n).at_) := Blk.new' w1 (st0 (pk E n).at_) _ hsb
  have hb2 : Below w.heap.size w (w1.alloc (.cells #[.int .i64 0, .int .i64 ((pk E n).at_ : Nat), .string ⟨#[]⟩, .pointer none, .pointer none, .slice none 0 0, .slice none 0 0, .slice none 0 0] 49)) := hb01.alloc hb01.size _
  have hrv2 : Blk (w1.alloc (.cells #[.int .i64 0, .int .i64 ((pk E n).at_ : Nat), .string ⟨#[]⟩, .pointer none, .pointer none, .slice none 0 0, .slice none 0 0, .slice none 0 0] 49)) w.heap.size (st0 0) := hrv1.keeps (S := fun _ => False) ((Keeps.refl _ w1).alloc _) id
  have HP1 := Lib.hid (HPP.out _ hb2)
  have HB1 := Lib.hid hB1
  have HB2 := Lib.hid hb2
  have HRV2 := Lib.hid hrv2
  clear hB1 hb2 hrv2 hrv1 hb01 hb1 hsbn HPP HP0
  go_wp2_with fail
  rw [← hsb]
  clear hsb
  refine HP1.out.mono ?_
  rintro e w2 ⟨rfl, hb3⟩
  have HBs := Lib.hid (HB1.out.fresh hb3)
  have HRVs := Lib.hid (HRV2.out.fresh hb3)
  have HBW : Hid (Below w.heap.size w w2) := Lib.hid (HB2.out.trans (hb3.mono HB2.out.size))
  clear hb3 HB1 HRV2 HB2 HP1
  have hrs : rb < sb := by have := HSB.out; have := HLT.out; omega
  have HXP := Lib.hid (choice_any HKB.out w2 (H0.out.fresh HBW.out) (HE.out.fresh HBW.out) HBs.out hrs HTX.out)
  have HRS := Lib.hid hrs
  clear hrs
  go_wp2_with fail
  refine HXP.out.mono ?_
  rintro e w3 ⟨r, hev, hsay⟩
  cases r with
  | out => exact hsay.elim
  | bad k a =>
    have hsay' : Threw w2 w3 rb k a e := hsay
    obtain ⟨b, rfl⟩ := threw_panic hsay'
    exact ⟨rfl, _, HEV.out _ hev, hsay'.own HLT.out (Keeps.of_new HBW.out)⟩
  | ok s m =>
    obtain ⟨rfl, ⟨vs, hb3, hc3⟩, hr3, hk3⟩ := hsay
    cases s with
    | mk code at_ name dst val thn els css =>
    have hc3' := hc3
    obtain ⟨tv2, vv2, nv2, ev2, cv2, e2, hx1, hx2, hx3, _, hx5, _, hx7, _⟩ := hc3'
    obtain ⟨o1, rfl⟩ := ex_ptr hx1
    obtain ⟨o2, rfl⟩ := ex_ptr hx2
    obtain ⟨a3, l3, k3, rfl⟩ := hx3.form
    obtain ⟨a5, l5, k5, rfl⟩ := hx5.form
    obtain ⟨a7, l7, k7, rfl⟩ := hx7.form
    subst e2
    have HBt := Lib.hid hb3
    have HRV := Lib.hid (HRVs.out.keeps hk3 (fun e => by have := HSB.out; have := HLT.out; omega))
    have HRt := Lib.hid hr3
    have HKt : Hid (Keeps (fun b => b = rb) w w3) := Lib.hid ((Keeps.of_new (S := fun b => b = rb) HBW.out).trans' hk3 (fun i hi e => by have := HSB.out; omega))
    have HEVt := Lib.hid (HEV.out _ hev)
    have HSC := Lib.hid (StC.mono (G := fun b => sb < b) (fun b _ e => by have h1 : w2.heap.size ≤ b := e; have := HBs.out.lt; omega) hc3)
    clear hx1 hx2 hx3 hx5 hx7 hb3 hc3 hr3 hk3 hev
    have c0 := HBt.out.at_ 0 _ rfl
    have c1 := HBt.out.at_ 1 _ rfl
    have c2 := HBt.out.at_ 2 _ rfl
    have c3 := HBt.out.at_ 3 _ rfl
    have c4 := HBt.out.at_ 4 _ rfl
    have c5 := HBt.out.at_ 5 _ rfl
    have c6 := HBt.out.at_ 6 _ rfl
    have c7 := HBt.out.at_ 7 _ rfl
    have r0 := HRV.out.at_ 0 _ rfl
    have y0 := HRV.out.free 0
    have r1 := HRV.out.at_ 1 _ rfl
    have y1 := HRV.out.free 1
    have r2 := HRV.out.at_ 2 _ rfl
    have y2 := HRV.out.free 2
    have r3 := HRV.out.at_ 3 _ rfl
    have y3 := HRV.out.free 3
    have r4 := HRV.out.at_ 4 _ rfl
    have y4 := HRV.out.free 4
    have r5 := HRV.out.at_ 5 _ rfl
    have y5 := HRV.out.free 5
    have r6 := HRV.out.at_ 6 _ rfl
    have y6 := HRV.out.free 6
    have r7 := HRV.out.at_ 7 _ rfl
    have y7 := HRV.out.free 7
    have hne : w.heap.size ≠ sb := by have := HSB.out; omega
    have hne2 : sb ≠ w.heap.size := fun e => hne e.symm
    have HSB2 := Lib.hid hne
    go_wp2_with fail
    have hks : Keeps (fun b => b = sb ∨ b = w.heap.size) w3 ((((((((w3.setCell ⟨w.heap.size, 0, none⟩ (.int .i64 (code : Nat))).setCell ⟨w.heap.size, 1, none⟩ (.int .i64 (at_ : Nat))).setCell ⟨w.heap.size, 2, none⟩ (.string (mkT name))).setCell ⟨w.heap.size, 3, none⟩ (.pointer o1)).setCell ⟨w.heap.size, 4, none⟩ (.pointer o2)).setCell ⟨w.heap.size, 5, none⟩ (.slice a3 l3 k3)).setCell ⟨w.heap.size, 6, none⟩ (.slice a5 l5 k5)).setCell ⟨w.heap.size, 7, none⟩ (.slice a7 l7 k7)) := ((((((((Keeps.refl (fun b => b = sb ∨ b = w.heap.size) w3).setCell (S := fun b => b = sb ∨ b = w.heap.size) (p := ⟨w.heap.size, 0, none⟩) (Or.inl (Or.inr rfl)) (.int .i64 (code : Nat))).setCell (S := fun b => b = sb ∨ b = w.heap.size) (p := ⟨w.heap.size, 1, none⟩) (Or.inl (Or.inr rfl)) (.int .i64 (at_ : Nat))).setCell (S := fun b => b = sb ∨ b = w.heap.size) (p := ⟨w.heap.size, 2, none⟩) (Or.inl (Or.inr rfl)) (.string (mkT name))).setCell (S := fun b => b = sb ∨ b = w.heap.size) (p := ⟨w.heap.size, 3, none⟩) (Or.inl (Or.inr rfl)) (.pointer o1)).setCell (S := fun b => b = sb ∨ b = w.heap.size) (p := ⟨w.heap.size, 4, none⟩) (Or.inl (Or.inr rfl)) (.pointer o2)).setCell (S := fun b => b = sb ∨ b = w.heap.size) (p := ⟨w.heap.size, 5, none⟩) (Or.inl (Or.inr rfl)) (.slice a3 l3 k3)).setCell (S := fun b => b = sb ∨ b = w.heap.size) (p := ⟨w.heap.size, 6, none⟩) (Or.inl (Or.inr rfl)) (.slice a5 l5 k5)).setCell (S := fun b => b = sb ∨ b = w.heap.size) (p := ⟨w.heap.size, 7, none⟩) (Or.inl (Or.inr rfl)) (.slice a7 l7 k7)
    have hfin := st_final HSC.out HRt.out HKt.out hks HSB.out HLT.out
    refine bodyPost_ret (v := .agg #[.int .i64 (code : Nat), .int .i64 (at_ : Nat), .string (mkT name), .pointer o1, .pointer o2, .slice a3 l3 k3, .slice a5 l5 k5, .slice a7 l7 k7]) (by simp [results, Tryz.results150, go_sem, r0, r1, r2, r3, r4, r5, r6, r7]) rfl ⟨.ok (.mk code at_ name dst val thn els css) _, HEVt.out, _, rfl, ⟨_, rfl, hfin.1⟩, hfin.2.1, hfin.2.2⟩

set_option maxRecDepth 100000 in
set_option maxHeartbeats 12800000 in
theorem stmt_select_any {dep : Nat} (hC : dep < 12 → CaseC rb tv E (dep + 1)) (w : World) (h : RdAt w rb tv E n dep) (hE : TEnv rb E w) (ht : (pk E n).text = tSelect) : Calls Tryz.prog 150 #[.pointer (some ⟨rb, 0, none⟩)] w fun e w' => ∃ r, Ev (fun f => Tr.stmt E f dep n) r ∧ Says StV1 w w' rb tv E dep r e := by
  have hb0 : Below w.heap.size w (w.alloc (.cells #[.int .i64 0, .int .i64 0, .string ⟨#[]⟩, .pointer none, .pointer none, .slice none 0 0, .slice none 0 0, .slice none 0 0] 49)) := ((Keeps.refl (fun _ => False) w).alloc _).below (Nat.le_refl _) (fun _ _ e => e.elim)
  have hrv0 : Blk (w.alloc (.cells #[.int .i64 0, .int .i64 0, .string ⟨#[]⟩, .pointer none, .pointer none, .slice none 0 0, .slice none 0 0, .slice none 0 0] 49)) w.heap.size (st0 0) := Blk.new' w (st0 0) _ rfl
  have hp0 := peek_any _ (h.fresh hb0)
  have HPP : Hid (∀ W, Below w.heap.size w W → Calls Tryz.prog 88 #[.pointer (some ⟨rb, 0, none⟩)] W fun e w' => e = .returned (tokV (pk E n)) ∧ Below W.heap.size W w') := Lib.hid fun W hb => peek_any W (h.fresh hb)
  have HCC := Lib.hid hC
  have HEV : Hid (∀ r, Ev (fun f => selV E f dep n) r → Ev (fun f => Tr.stmt E f dep n) r) := Lib.hid fun r hr => Ev.step (h := fun f => selV E f dep n) (fun f => by rw [stmt_eq, ht]; rfl) hr
  have HTX := Lib.hid ht
  have H0 := Lib.hid h
  have HE := Lib.hid hE
  have HLT := Lib.hid h.lt
  have HB0 := Lib.hid hb0
  have HRV0 := Lib.hid hrv0
  unfold tokV at hp0 HPP
  have hTT : (pk E n).text = tSelect := ht
  obtain ⟨T, hT⟩ : ∃ T, T = mkT tSelect := ⟨_, rfl⟩
  have hT' : T = mkT (pk E n).text := by rw [hTT]; exact hT
  have b0 : (T.toList == [99, 108, 111, 115, 101]) = false := by rw [hT, Lib.toList_data]; rfl
  have b1 : (T.toList == [112, 114, 105, 110, 116]) = false := by rw [hT, Lib.toList_data]; rfl
  have b2 : (T.toList == [115, 108, 101, 101, 112]) = false := by rw [hT, Lib.toList_data]; rfl
  have b3 : (T.toList == [103, 111]) = false := by rw [hT, Lib.toList_data]; rfl
  have b4 : (T.toList == [114, 101, 116, 117, 114, 110]) = false := by rw [hT, Lib.toList_data]; rfl
  have b5 : (T.toList == [98, 114, 101, 97, 107]) = false := by rw [hT, Lib.toList_data]; rfl
  have b6 : (T.toList == [99, 111, 110, 116, 105, 110, 117, 101]) = false := by rw [hT, Lib.toList_data]; rfl
  have b7 : (T.toList == [105, 102]) = false := by rw [hT, Lib.toList_data]; rfl
  have b8 : (T.toList == [102, 111, 114]) = false := by rw [hT, Lib.toList_data]; rfl
  have b9 : (T.toList == [115, 101, 108, 101, 99, 116]) = true := by rw [hT, Lib.toList_data]; rfl
  rw [← hT'] at hp0 HPP
  have HP0 := Lib.hid hp0
  clear h hE hb0 hrv0 hp0 hT' ht hTT hT
  have hf := tok_field2
  have hf1 := tok_field1
  go_enter Tryz.func150, Tryz.ntmps150
  go_wp2_with fail
  refine HP0.out.mono ?_
  rintro e w1 ⟨rfl, hb1⟩
  have hb01 : Below w.heap.size w w1 := HB0.out.trans (hb1.mono HB0.out.size)
  have hrv1 := HRV0.out.fresh hb1
  obtain ⟨sb, hsb⟩ : ∃ sb, sb = w1.heap.size := ⟨_, rfl⟩
  have hsbn : w.heap.size < sb := by rw [hsb]; exact hrv1.lt
  have HSB := Lib.hid hsbn
  have hB1 : Blk (w1.alloc (.cells #[.int .i64 0, .int .i64 ((pk E n).at_ : Nat), .string ⟨#[]⟩, .pointer none, .pointer none, .slice none 0 0, .slice none 0 0, .slice none 0 0] 49)) sb (st0 (pk E n).at_) := Blk.new' w1 (st0 (pk E n).at_) _ hsb
  have hb2 : Below w.heap.size w (w1.alloc (.cells #[.int .i64 0, .int .i64 ((pk E n).at_ : Nat), .string ⟨#[]⟩, .pointer none, .pointer none, .slice none 0 0, .slice none 0 0, .slice none 0 0] 49)) := hb01.alloc hb01.size _
  have hrv2 : Blk (w1.alloc (.cells #[.int .i64 0, .int .i64 ((pk E n).at_ : Nat), .string ⟨#[]⟩, .pointer none, .pointer none, .slice none 0 0, .slice none 0 0, .slice none 0 0] 49)) w.heap.size (st0 0) := hrv1.keeps (S := fun _ => False) ((Keeps.refl _ w1).alloc _) id
  have HP1 := Lib.hid (HPP.out _ hb2)
  have HB1 := Lib.hid hB1
  have HB2 := Lib.hid hb2
  have HRV2 := Lib.hid hrv2
  clear hB1 hb2 hrv2 hrv1 hb01 hb1 hsbn HPP HP0
  go_wp2_with fail
  rw [← hsb]
  clear hsb
  refine HP1.out.mono ?_
  rintro e w2 ⟨rfl, hb3⟩
  have HBs := Lib.hid (HB1.out.fresh hb3)
  have HRVs := Lib.hid (HRV2.out.fresh hb3)
  have HBW : Hid (Below w.heap.size w w2) := Lib.hid (HB2.out.trans (hb3.mono HB2.out.size))
  clear hb3 HB1 HRV2 HB2 HP1
  have hrs : rb < sb := by have := HSB.out; have := HLT.out; omega
  have HXP := Lib.hid (choose_any HCC.out w2 (H0.out.fresh HBW.out) (HE.out.fresh HBW.out) HBs.out hrs HTX.out)
  have HRS := Lib.hid hrs
  clear hrs
  go_wp2_with fail
  refine HXP.out.mono ?_
  rintro e w3 ⟨r, hev, hsay⟩
  cases r with
  | out => exact hsay.elim
  | bad k a =>
    have hsay' : Threw w2 w3 rb k a e := hsay
    obtain ⟨b, rfl⟩ := threw_panic hsay'
    exact ⟨rfl, _, HEV.out _ hev, hsay'.own HLT.out (Keeps.of_new HBW.out)⟩
  | ok s m =>
    obtain ⟨rfl, ⟨vs, hb3, hc3⟩, hr3, hk3⟩ := hsay
    cases s with
    | mk code at_ name dst val thn els css =>
    have hc3' := hc3
    obtain ⟨tv2, vv2, nv2, ev2, cv2, e2, hx1, hx2, hx3, _, hx5, _, hx7, _⟩ := hc3'
    obtain ⟨o1, rfl⟩ := ex_ptr hx1
    obtain ⟨o2, rfl⟩ := ex_ptr hx2
    obtain ⟨a3, l3, k3, rfl⟩ := hx3.form
    obtain ⟨a5, l5, k5, rfl⟩ := hx5.form
    obtain ⟨a7, l7, k7, rfl⟩ := hx7.form
    subst e2
    have HBt := Lib.hid hb3
    have HRV := Lib.hid (HRVs.out.keeps hk3 (fun e => by have := HSB.out; have := HLT.out; omega))
    have HRt := Lib.hid hr3
    have HKt : Hid (Keeps (fun b => b = rb) w w3) := Lib.hid ((Keeps.of_new (S := fun b => b = rb) HBW.out).trans' hk3 (fun i hi e => by have := HSB.out; omega))
    have HEVt := Lib.hid (HEV.out _ hev)
    have HSC := Lib.hid (StC.mono (G := fun b => sb < b) (fun b _ e => by have h1 : w2.heap.size ≤ b := e; have := HBs.out.lt; omega) hc3)
    clear hx1 hx2 hx3 hx5 hx7 hb3 hc3 hr3 hk3 hev
    have c0 := HBt.out.at_ 0 _ rfl
    have c1 := HBt.out.at_ 1 _ rfl
    have c2 := HBt.out.at_ 2 _ rfl
    have c3 := HBt.out.at_ 3 _ rfl
    have c4 := HBt.out.at_ 4 _ rfl
    have c5 := HBt.out.at_ 5 _ rfl
    have c6 := HBt.out.at_ 6 _ rfl
    have c7 := HBt.out.at_ 7 _ rfl
    have r0 := HRV.out.at_ 0 _ rfl
    have y0 := HRV.out.free 0
    have r1 := HRV.out.at_ 1 _ rfl
    have y1 := HRV.out.free 1
    have r2 := HRV.out.at_ 2 _ rfl
    have y2 := HRV.out.free 2
    have r3 := HRV.out.at_ 3 _ rfl
    have y3 := HRV.out.free 3
    have r4 := HRV.out.at_ 4 _ rfl
    have y4 := HRV.out.free 4
    have r5 := HRV.out.at_ 5 _ rfl
    have y5 := HRV.out.free 5
    have r6 := HRV.out.at_ 6 _ rfl
    have y6 := HRV.out.free 6
    have r7 := HRV.out.at_ 7 _ rfl
    have y7 := HRV.out.free 7
    have hne : w.heap.size ≠ sb := by have := HSB.out; omega
    have hne2 : sb ≠ w.heap.size := fun e => hne e.symm
    have HSB2 := Lib.hid hne
    go_wp2_with fail
    have hks : Keeps (fun b => b = sb ∨ b = w.heap.size) w3 ((((((((w3.setCell ⟨w.heap.size, 0, none⟩ (.int .i64 (code : Nat))).setCell ⟨w.heap.size, 1, none⟩ (.int .i64 (at_ : Nat))).setCell ⟨w.heap.size, 2, none⟩ (.string (mkT name))).setCell ⟨w.heap.size, 3, none⟩ (.pointer o1)).setCell ⟨w.heap.size, 4, none⟩ (.pointer o2)).setCell ⟨w.heap.size, 5, none⟩ (.slice a3 l3 k3)).setCell ⟨w.heap.size, 6, none⟩ (.slice a5 l5 k5)).setCell ⟨w.heap.size, 7, none⟩ (.slice a7 l7 k7)) := ((((((((Keeps.refl (fun b => b = sb ∨ b = w.heap.size) w3).setCell (S := fun b => b = sb ∨ b = w.heap.size) (p := ⟨w.heap.size, 0, none⟩) (Or.inl (Or.inr rfl)) (.int .i64 (code : Nat))).setCell (S := fun b => b = sb ∨ b = w.heap.size) (p := ⟨w.heap.size, 1, none⟩) (Or.inl (Or.inr rfl)) (.int .i64 (at_ : Nat))).setCell (S := fun b => b = sb ∨ b = w.heap.size) (p := ⟨w.heap.size, 2, none⟩) (Or.inl (Or.inr rfl)) (.string (mkT name))).setCell (S := fun b => b = sb ∨ b = w.heap.size) (p := ⟨w.heap.size, 3, none⟩) (Or.inl (Or.inr rfl)) (.pointer o1)).setCell (S := fun b => b = sb ∨ b = w.heap.size) (p := ⟨w.heap.size, 4, none⟩) (Or.inl (Or.inr rfl)) (.pointer o2)).setCell (S := fun b => b = sb ∨ b = w.heap.size) (p := ⟨w.heap.size, 5, none⟩) (Or.inl (Or.inr rfl)) (.slice a3 l3 k3)).setCell (S := fun b => b = sb ∨ b = w.heap.size) (p := ⟨w.heap.size, 6, none⟩) (Or.inl (Or.inr rfl)) (.slice a5 l5 k5)).setCell (S := fun b => b = sb ∨ b = w.heap.size) (p := ⟨w.heap.size, 7, none⟩) (Or.inl (Or.inr rfl)) (.slice a7 l7 k7)
    have hfin := st_final HSC.out HRt.out HKt.out hks HSB.out HLT.out
    refine bodyPost_ret (v := .agg #[.int .i64 (code : Nat), .int .i64 (at_ : Nat), .string (mkT name), .pointer o1, .pointer o2, .slice a3 l3 k3, .slice a5 l5 k5, .slice a7 l7 k7]) (by simp [results, Tryz.results150, go_sem, r0, r1, r2, r3, r4, r5, r6, r7]) rfl ⟨.ok (.mk code at_ name dst val thn els css) _, HEVt.out, _, rfl, ⟨_, rfl, hfin.1⟩, hfin.2.1, hfin.2.2⟩

set_option maxRecDepth 100000 in
set_option maxHeartbeats 12800000 in
theorem stmt_plain_any {dep : Nat} (w : World) (h : RdAt w rb tv E n dep) (hE : TEnv rb E w) (q0 : (pk E n).text ≠ tClose) (q1 : (pk E n).text ≠ tPrint) (q2 : (pk E n).text ≠ tSleep) (q3 : (pk E n).text ≠ tGo) (q4 : (pk E n).text ≠ tReturn) (q5 : (pk E n).text ≠ tBreak) (q6 : (pk E n).text ≠ tContinue) (q7 : (pk E n).text ≠ tIf) (q8 : (pk E n).text ≠ tFor) (q9 : (pk E n).text ≠ tSelect)  : Calls Tryz.prog 150 #[.pointer (some ⟨rb, 0, none⟩)] w fun e w' => ∃ r, Ev (fun f => Tr.stmt E f dep n) r ∧ Says StV1 w w' rb tv E dep r e := by
  have hb0 : Below w.heap.size w (w.alloc (.cells #[.int .i64 0, .int .i64 0, .string ⟨#[]⟩, .pointer none, .pointer none, .slice none 0 0, .slice none 0 0, .slice none 0 0] 49)) := ((Keeps.refl (fun _ => False) w).alloc _).below (Nat.le_refl _) (fun _ _ e => e.elim)
  have hrv0 : Blk (w.alloc (.cells #[.int .i64 0, .int .i64 0, .string ⟨#[]⟩, .pointer none, .pointer none, .slice none 0 0, .slice none 0 0, .slice none 0 0] 49)) w.heap.size (st0 0) := Blk.new' w (st0 0) _ rfl
  have hp0 := peek_any _ (h.fresh hb0)
  have HPP : Hid (∀ W, Below w.heap.size w W → Calls Tryz.prog 88 #[.pointer (some ⟨rb, 0, none⟩)] W fun e w' => e = .returned (tokV (pk E n)) ∧ Below W.heap.size W w') := Lib.hid fun W hb => peek_any W (h.fresh hb)
  have HEV : Hid (∀ r, Ev (fun f => plain E f n) r → Ev (fun f => Tr.stmt E f dep n) r) := Lib.hid fun r hr => Ev.step (h := fun f => plain E f n) (fun f => by rw [stmt_eq, if_neg q0, if_neg q1, if_neg q2, if_neg q3, if_neg q4, if_neg q5, if_neg q6, if_neg q7, if_neg q8, if_neg q9]) hr
  have H0 := Lib.hid h
  have HE := Lib.hid hE
  have HLT := Lib.hid h.lt
  have HB0 := Lib.hid hb0
  have HRV0 := Lib.hid hrv0
  unfold tokV at hp0 HPP
  obtain ⟨T, hT'⟩ : ∃ T, T = mkT (pk E n).text := ⟨_, rfl⟩
  have b0 : (T.toList == [99, 108, 111, 115, 101]) = false := by rw [hT', text_is]; exact decide_eq_false q0
  have b1 : (T.toList == [112, 114, 105, 110, 116]) = false := by rw [hT', text_is]; exact decide_eq_false q1
  have b2 : (T.toList == [115, 108, 101, 101, 112]) = false := by rw [hT', text_is]; exact decide_eq_false q2
  have b3 : (T.toList == [103, 111]) = false := by rw [hT', text_is]; exact decide_eq_false q3
  have b4 : (T.toList == [114, 101, 116, 117, 114, 110]) = false := by rw [hT', text_is]; exact decide_eq_false q4
  have b5 : (T.toList == [98, 114, 101, 97, 107]) = false := by rw [hT', text_is]; exact decide_eq_false q5
  have b6 : (T.toList == [99, 111, 110, 116, 105, 110, 117, 101]) = false := by rw [hT', text_is]; exact decide_eq_false q6
  have b7 : (T.toList == [105, 102]) = false := by rw [hT', text_is]; exact decide_eq_false q7
  have b8 : (T.toList == [102, 111, 114]) = false := by rw [hT', text_is]; exact decide_eq_false q8
  have b9 : (T.toList == [115, 101, 108, 101, 99, 116]) = false := by rw [hT', text_is]; exact decide_eq_false q9
  rw [← hT'] at hp0 HPP
  have HP0 := Lib.hid hp0
  clear h hE hb0 hrv0 hp0 hT' q0 q1 q2 q3 q4 q5 q6 q7 q8 q9
  have hf := tok_field2
  have hf1 := tok_field1
  go_enter Tryz.func150, Tryz.ntmps150
  go_wp2_with fail
  refine HP0.out.mono ?_
  rintro e w1 ⟨rfl, hb1⟩
  have hb01 : Below w.heap.size w w1 := HB0.out.trans (hb1.mono HB0.out.size)
  have hrv1 := HRV0.out.fresh hb1
  obtain ⟨sb, hsb⟩ : ∃ sb, sb = w1.heap.size := ⟨_, rfl⟩
  have hsbn : w.heap.size < sb := by rw [hsb]; exact hrv1.lt
  have HSB := Lib.hid hsbn
  have hB1 : Blk (w1.alloc (.cells #[.int .i64 0, .int .i64 ((pk E n).at_ : Nat), .string ⟨#[]⟩, .pointer none, .pointer none, .slice none 0 0, .slice none 0 0, .slice none 0 0] 49)) sb (st0 (pk E n).at_) := Blk.new' w1 (st0 (pk E n).at_) _ hsb
  have hb2 : Below w.heap.size w (w1.alloc (.cells #[.int .i64 0, .int .i64 ((pk E n).at_ : Nat), .string ⟨#[]⟩, .pointer none, .pointer none, .slice none 0 0, .slice none 0 0, .slice none 0 0] 49)) := hb01.alloc hb01.size _
  have hrv2 : Blk (w1.alloc (.cells #[.int .i64 0, .int .i64 ((pk E n).at_ : Nat), .string ⟨#[]⟩, .pointer none, .pointer none, .slice none 0 0, .slice none 0 0, .slice none 0 0] 49)) w.heap.size (st0 0) := hrv1.keeps (S := fun _ => False) ((Keeps.refl _ w1).alloc _) id
  have HP1 := Lib.hid (HPP.out _ hb2)
  have HB1 := Lib.hid hB1
  have HB2 := Lib.hid hb2
  have HRV2 := Lib.hid hrv2
  clear hB1 hb2 hrv2 hrv1 hb01 hb1 hsbn HPP HP0
  go_wp2_with fail
  rw [← hsb]
  clear hsb
  refine HP1.out.mono ?_
  rintro e w2 ⟨rfl, hb3⟩
  have HBs := Lib.hid (HB1.out.fresh hb3)
  have HRVs := Lib.hid (HRV2.out.fresh hb3)
  have HBW : Hid (Below w.heap.size w w2) := Lib.hid (HB2.out.trans (hb3.mono HB2.out.size))
  clear hb3 HB1 HRV2 HB2 HP1
  have hrs : rb < sb := by have := HSB.out; have := HLT.out; omega
  have HXP := Lib.hid (plain_any w2 (H0.out.fresh HBW.out) (HE.out.fresh HBW.out) HBs.out hrs)
  have HRS := Lib.hid hrs
  clear hrs
  go_wp2_with fail
  refine HXP.out.mono ?_
  rintro e w3 ⟨r, hev, hsay⟩
  cases r with
  | out => exact hsay.elim
  | bad k a =>
    have hsay' : Threw w2 w3 rb k a e := hsay
    obtain ⟨b, rfl⟩ := threw_panic hsay'
    exact ⟨rfl, _, HEV.out _ hev, hsay'.own HLT.out (Keeps.of_new HBW.out)⟩
  | ok s m =>
    obtain ⟨rfl, ⟨vs, hb3, hc3⟩, hr3, hk3⟩ := hsay
    cases s with
    | mk code at_ name dst val thn els css =>
    have hc3' := hc3
    obtain ⟨tv2, vv2, nv2, ev2, cv2, e2, hx1, hx2, hx3, _, hx5, _, hx7, _⟩ := hc3'
    obtain ⟨o1, rfl⟩ := ex_ptr hx1
    obtain ⟨o2, rfl⟩ := ex_ptr hx2
    obtain ⟨a3, l3, k3, rfl⟩ := hx3.form
    obtain ⟨a5, l5, k5, rfl⟩ := hx5.form
    obtain ⟨a7, l7, k7, rfl⟩ := hx7.form
    subst e2
    have HBt := Lib.hid hb3
    have HRV := Lib.hid (HRVs.out.keeps hk3 (fun e => by have := HSB.out; have := HLT.out; omega))
    have HRt := Lib.hid hr3
    have HKt : Hid (Keeps (fun b => b = rb) w w3) := Lib.hid ((Keeps.of_new (S := fun b => b = rb) HBW.out).trans' hk3 (fun i hi e => by have := HSB.out; omega))
    have HEVt := Lib.hid (HEV.out _ hev)
    have HSC := Lib.hid (StC.mono (G := fun b => sb < b) (fun b _ e => by have h1 : w2.heap.size ≤ b := e; have := HBs.out.lt; omega) hc3)
    clear hx1 hx2 hx3 hx5 hx7 hb3 hc3 hr3 hk3 hev
    have c0 := HBt.out.at_ 0 _ rfl
    have c1 := HBt.out.at_ 1 _ rfl
    have c2 := HBt.out.at_ 2 _ rfl
    have c3 := HBt.out.at_ 3 _ rfl
    have c4 := HBt.out.at_ 4 _ rfl
    have c5 := HBt.out.at_ 5 _ rfl
    have c6 := HBt.out.at_ 6 _ rfl
    have c7 := HBt.out.at_ 7 _ rfl
    have r0 := HRV.out.at_ 0 _ rfl
    have y0 := HRV.out.free 0
    have r1 := HRV.out.at_ 1 _ rfl
    have y1 := HRV.out.free 1
    have r2 := HRV.out.at_ 2 _ rfl
    have y2 := HRV.out.free 2
    have r3 := HRV.out.at_ 3 _ rfl
    have y3 := HRV.out.free 3
    have r4 := HRV.out.at_ 4 _ rfl
    have y4 := HRV.out.free 4
    have r5 := HRV.out.at_ 5 _ rfl
    have y5 := HRV.out.free 5
    have r6 := HRV.out.at_ 6 _ rfl
    have y6 := HRV.out.free 6
    have r7 := HRV.out.at_ 7 _ rfl
    have y7 := HRV.out.free 7
    have hne : w.heap.size ≠ sb := by have := HSB.out; omega
    have hne2 : sb ≠ w.heap.size := fun e => hne e.symm
    have HSB2 := Lib.hid hne
    go_wp2_with fail
    have hks : Keeps (fun b => b = sb ∨ b = w.heap.size) w3 ((((((((w3.setCell ⟨w.heap.size, 0, none⟩ (.int .i64 (code : Nat))).setCell ⟨w.heap.size, 1, none⟩ (.int .i64 (at_ : Nat))).setCell ⟨w.heap.size, 2, none⟩ (.string (mkT name))).setCell ⟨w.heap.size, 3, none⟩ (.pointer o1)).setCell ⟨w.heap.size, 4, none⟩ (.pointer o2)).setCell ⟨w.heap.size, 5, none⟩ (.slice a3 l3 k3)).setCell ⟨w.heap.size, 6, none⟩ (.slice a5 l5 k5)).setCell ⟨w.heap.size, 7, none⟩ (.slice a7 l7 k7)) := ((((((((Keeps.refl (fun b => b = sb ∨ b = w.heap.size) w3).setCell (S := fun b => b = sb ∨ b = w.heap.size) (p := ⟨w.heap.size, 0, none⟩) (Or.inl (Or.inr rfl)) (.int .i64 (code : Nat))).setCell (S := fun b => b = sb ∨ b = w.heap.size) (p := ⟨w.heap.size, 1, none⟩) (Or.inl (Or.inr rfl)) (.int .i64 (at_ : Nat))).setCell (S := fun b => b = sb ∨ b = w.heap.size) (p := ⟨w.heap.size, 2, none⟩) (Or.inl (Or.inr rfl)) (.string (mkT name))).setCell (S := fun b => b = sb ∨ b = w.heap.size) (p := ⟨w.heap.size, 3, none⟩) (Or.inl (Or.inr rfl)) (.pointer o1)).setCell (S := fun b => b = sb ∨ b = w.heap.size) (p := ⟨w.heap.size, 4, none⟩) (Or.inl (Or.inr rfl)) (.pointer o2)).setCell (S := fun b => b = sb ∨ b = w.heap.size) (p := ⟨w.heap.size, 5, none⟩) (Or.inl (Or.inr rfl)) (.slice a3 l3 k3)).setCell (S := fun b => b = sb ∨ b = w.heap.size) (p := ⟨w.heap.size, 6, none⟩) (Or.inl (Or.inr rfl)) (.slice a5 l5 k5)).setCell (S := fun b => b = sb ∨ b = w.heap.size) (p := ⟨w.heap.size, 7, none⟩) (Or.inl (Or.inr rfl)) (.slice a7 l7 k7)
    have hfin := st_final HSC.out HRt.out HKt.out hks HSB.out HLT.out
    refine bodyPost_ret (v := .agg #[.int .i64 (code : Nat), .int .i64 (at_ : Nat), .string (mkT name), .pointer o1, .pointer o2, .slice a3 l3 k3, .slice a5 l5 k5, .slice a7 l7 k7]) (by simp [results, Tryz.results150, go_sem, r0, r1, r2, r3, r4, r5, r6, r7]) rfl ⟨.ok (.mk code at_ name dst val thn els css) _, HEVt.out, _, rfl, ⟨_, rfl, hfin.1⟩, hfin.2.1, hfin.2.2⟩

set_option maxRecDepth 100000 in
set_option maxHeartbeats 12800000 in
theorem stmt_for_any {dep : Nat} (hK : BlockC rb tv E dep) (w : World) (h : RdAt w rb tv E n dep) (hE : TEnv rb E w) (ht : (pk E n).text = tFor) : Calls Tryz.prog 150 #[.pointer (some ⟨rb, 0, none⟩)] w fun e w' => ∃ r, Ev (fun f => Tr.stmt E f dep n) r ∧ Says StV1 w w' rb tv E dep r e := by
  have hb0 : Below w.heap.size w (w.alloc (.cells #[.int .i64 0, .int .i64 0, .string ⟨#[]⟩, .pointer none, .pointer none, .slice none 0 0, .slice none 0 0, .slice none 0 0] 49)) := ((Keeps.refl (fun _ => False) w).alloc _).below (Nat.le_refl _) (fun _ _ e => e.elim)
  have hrv0 : Blk (w.alloc (.cells #[.int .i64 0, .int .i64 0, .string ⟨#[]⟩, .pointer none, .pointer none, .slice none 0 0, .slice none 0 0, .slice none 0 0] 49)) w.heap.size (st0 0) := Blk.new' w (st0 0) _ rfl
  have hp0 := peek_any _ (h.fresh hb0)
  have HPP : Hid (∀ W, Below w.heap.size w W → Calls Tryz.prog 88 #[.pointer (some ⟨rb, 0, none⟩)] W fun e w' => e = .returned (tokV (pk E n)) ∧ Below W.heap.size W w') := Lib.hid fun W hb => peek_any W (h.fresh hb)
  have HKB := Lib.hid hK
  have HN := Lib.hid (pk_lt ht (by decide))
  have HEV : Hid (∀ r, Ev (fun f => (expr E f 0 (n + 1)).bind fun x m => (Tr.block E f dep m).bind fun a m2 => .ok (.mk 13 (pk E n).at_ [] .nil x a .nil .nil) m2) r → Ev (fun f => Tr.stmt E f dep n) r) := Lib.hid fun r hr => Ev.step (h := fun f => (expr E f 0 (n + 1)).bind fun x m => (Tr.block E f dep m).bind fun a m2 => .ok (.mk 13 (pk E n).at_ [] .nil x a .nil .nil) m2) (fun f => by rw [stmt_eq, ht]; rfl) hr
  have H0 := Lib.hid h
  have HE := Lib.hid hE
  have HLT := Lib.hid h.lt
  have HB0 := Lib.hid hb0
  have HRV0 := Lib.hid hrv0
  unfold tokV at hp0 HPP
  have hTT : (pk E n).text = tFor := ht
  obtain ⟨T, hT⟩ : ∃ T, T = mkT tFor := ⟨_, rfl⟩
  have hT' : T = mkT (pk E n).text := by rw [hTT]; exact hT
  have b0 : (T.toList == [99, 108, 111, 115, 101]) = false := by rw [hT, Lib.toList_data]; rfl
  have b1 : (T.toList == [112, 114, 105, 110, 116]) = false := by rw [hT, Lib.toList_data]; rfl
  have b2 : (T.toList == [115, 108, 101, 101, 112]) = false := by rw [hT, Lib.toList_data]; rfl
  have b3 : (T.toList == [103, 111]) = false := by rw [hT, Lib.toList_data]; rfl
  have b4 : (T.toList == [114, 101, 116, 117, 114, 110]) = false := by rw [hT, Lib.toList_data]; rfl
  have b5 : (T.toList == [98, 114, 101, 97, 107]) = false := by rw [hT, Lib.toList_data]; rfl
  have b6 : (T.toList == [99, 111, 110, 116, 105, 110, 117, 101]) = false := by rw [hT, Lib.toList_data]; rfl
  have b7 : (T.toList == [105, 102]) = false := by rw [hT, Lib.toList_data]; rfl
  have b8 : (T.toList == [102, 111, 114]) = true := by rw [hT, Lib.toList_data]; rfl
  rw [← hT'] at hp0 HPP
  have HP0 := Lib.hid hp0
  clear h hE hb0 hrv0 hp0 hT' ht hTT hT hK
  have hf := tok_field2
  have hf1 := tok_field1
  go_enter Tryz.func150, Tryz.ntmps150
  go_wp2_with fail
  refine HP0.out.mono ?_
  rintro e w1 ⟨rfl, hb1⟩
  have hb01 : Below w.heap.size w w1 := HB0.out.trans (hb1.mono HB0.out.size)
  have hrv1 := HRV0.out.fresh hb1
  obtain ⟨sb, hsb⟩ : ∃ sb, sb = w1.heap.size := ⟨_, rfl⟩
  have hsbn : w.heap.size < sb := by rw [hsb]; exact hrv1.lt
  have HSB := Lib.hid hsbn
  have hB1 : Blk (w1.alloc (.cells #[.int .i64 0, .int .i64 ((pk E n).at_ : Nat), .string ⟨#[]⟩, .pointer none, .pointer none, .slice none 0 0, .slice none 0 0, .slice none 0 0] 49)) sb (st0 (pk E n).at_) := Blk.new' w1 (st0 (pk E n).at_) _ hsb
  have hb2 : Below w.heap.size w (w1.alloc (.cells #[.int .i64 0, .int .i64 ((pk E n).at_ : Nat), .string ⟨#[]⟩, .pointer none, .pointer none, .slice none 0 0, .slice none 0 0, .slice none 0 0] 49)) := hb01.alloc hb01.size _
  have hrv2 : Blk (w1.alloc (.cells #[.int .i64 0, .int .i64 ((pk E n).at_ : Nat), .string ⟨#[]⟩, .pointer none, .pointer none, .slice none 0 0, .slice none 0 0, .slice none 0 0] 49)) w.heap.size (st0 0) := hrv1.keeps (S := fun _ => False) ((Keeps.refl _ w1).alloc _) id
  have HP1 := Lib.hid (HPP.out _ hb2)
  have HB1 := Lib.hid hB1
  have HB2 := Lib.hid hb2
  have HRV2 := Lib.hid hrv2
  clear hB1 hb2 hrv2 hrv1 hb01 hb1 hsbn HPP HP0
  go_wp2_with fail
  rw [← hsb]
  clear hsb
  refine HP1.out.mono ?_
  rintro e w2 ⟨rfl, hb3⟩
  have HBs := Lib.hid (HB1.out.fresh hb3)
  have HRVs := Lib.hid (HRV2.out.fresh hb3)
  have HBW : Hid (Below w.heap.size w w2) := Lib.hid (HB2.out.trans (hb3.mono HB2.out.size))
  clear hb3 HB1 HRV2 HB2 HP1
  have hn := HN.out
  go_wp2_with fail
  refine (skip_tok w2 (H0.out.fresh HBW.out) hn).mono ?_
  rintro e w3 ⟨rfl, hr3, hk3⟩
  clear hn
  have hne3 : ¬ sb = rb := by have := HSB.out; have := HLT.out; omega
  have hne4 : ¬ w.heap.size = rb := by have := HLT.out; omega
  have HBt0 := Lib.hid (HBs.out.keeps hk3 hne3)
  have HRVt0 := Lib.hid (HRVs.out.keeps hk3 hne4)
  have HR3 := Lib.hid hr3
  have HK3 : Hid (Keeps (fun b => b = rb) w w3) := Lib.hid ((Keeps.of_new HBW.out).trans hk3)
  have HN3 := Lib.hid hne3
  have HN4 := Lib.hid hne4
  have HE3 := Lib.hid (HE.out.own HK3.out)
  clear hr3 hk3 hne3 hne4
  unfold tokV
  generalize mkT (pk E n).text = TT
  have HXP := Lib.hid (RExpr (dd := 0) (Nat.zero_le _) (n + 1) w3 HR3.out HE3.out)
  go_wp2_with fail
  refine HXP.out.mono ?_
  rintro e w4 ⟨r, hev, hsay⟩
  cases r with
  | out => exact hsay.elim
  | bad k a =>
    have hsay' : Threw w3 w4 rb k a e := hsay
    obtain ⟨b, rfl⟩ := threw_panic hsay'
    exact ⟨rfl, .bad k a, HEV.out _ (Ev.bad hev), hsay'.own HLT.out HK3.out⟩
  | ok x m =>
    obtain ⟨v, rfl, hx, hr4, hk4⟩ := hsay
    obtain ⟨o, rfl⟩ := ex_ptr hx
    have hB4 := HBt0.out.keeps hk4 HN3.out
    have c0 := hB4.at_ 0 _ rfl
    have c4 := hB4.at_ 4 _ rfl
    have z0 := hB4.free 0
    have z4 := hB4.free 4
    have hks : Keeps (fun b => b = sb) w4 ((w4.setCell ⟨sb, 0, none⟩ (.int .i64 13)).setCell ⟨sb, 4, none⟩ (.pointer o)) := own2
    have hB5 : Blk ((w4.setCell ⟨sb, 0, none⟩ (.int .i64 13)).setCell ⟨sb, 4, none⟩ (.pointer o)) sb (st1 13 (pk E n).at_ [] none o) := (hB4.set 0 (.int .i64 (13 : Nat)) (by simp [st0])).set 4 (.pointer o) (by simp [st0])
    have hsb := HSB.out
    have hlt0 := HLT.out
    have hk5 : Keeps (fun b => b = rb) w ((w4.setCell ⟨sb, 0, none⟩ (.int .i64 13)).setCell ⟨sb, 4, none⟩ (.pointer o)) := (HK3.out.trans hk4).trans' hks (fun i hi e => by omega)
    have HB5 := Lib.hid hB5
    have HK5 := Lib.hid hk5
    have HRV5 := Lib.hid ((HRVt0.out.keeps hk4 HN4.out).keeps hks (fun e => by omega))
    have HX5 : Hid (ExIn ((w4.setCell ⟨sb, 0, none⟩ (.int .i64 13)).setCell ⟨sb, 4, none⟩ (.pointer o)) (fun b => sb < b) (.pointer o) x) := Lib.hid ((ExIn.mono (fun b _ e => by have h1 : w3.heap.size ≤ b := e; have := HBt0.out.lt; show sb < b; omega) _ _ hx).of_two hks (fun b hb => by have h1 : sb < b := hb; omega))
    have HBL := Lib.hid (HKB.out m _ (hr4.two hks (by omega)) (HE.out.own hk5))
    have HEV4 := Lib.hid hev
    clear hB4 hB5 hks hsb hlt0 hk5 hx hr4 hk4 hev
    go_wp2_with fail
    refine HBL.out.mono ?_
    rintro e w6 ⟨r, hev, hsay⟩
    clear c0 c4 z0 z4
    cases r with
    | out => exact hsay.elim
    | bad k a =>
      have hsay' : Threw _ w6 rb k a e := hsay
      obtain ⟨b, rfl⟩ := threw_panic hsay'
      exact ⟨rfl, .bad k a, HEV.out _ (Ev.then HEV4.out (Ev.bad hev)), hsay'.own HLT.out HK5.out⟩
    | ok l m2 =>
      obtain ⟨v6, rfl, hl6, hr6, hk6⟩ := hsay
      obtain ⟨la, ll, lc, rfl⟩ := hl6.1.form
      have HBt := Lib.hid (HB5.out.keeps hk6 HN3.out)
      have HRV := Lib.hid (HRV5.out.keeps hk6 HN4.out)
      have HRt := Lib.hid hr6
      have HKt := Lib.hid (HK5.out.trans hk6)
      have HEVt : Hid (Ev (fun f => Tr.stmt E f dep n) (.ok (.mk 13 (pk E n).at_ [] .nil x l .nil .nil) m2)) := Lib.hid (HEV.out _ (Ev.then HEV4.out (Ev.map _ (fun _ _ e => by cases e) hev)))
      have hl7 : StsF w6 (fun b => sb < b) l (.slice la ll lc) := StsF.mono (fun b e => by have h1 := HB5.out.lt; have h2 : _ ≤ b := e; show sb < b; omega) hl6
      have HSC : Hid (StC w6 (fun b => sb < b) [.int .i64 (13 : Nat), .int .i64 ((pk E n).at_ : Nat), .string (mkT []), .pointer none, .pointer o, .slice la ll lc, .slice none 0 0, .slice none 0 0] (.mk 13 (pk E n).at_ [] .nil x l .nil .nil)) := Lib.hid ⟨_, _, _, _, _, rfl, rfl, ExIn.keeps HX5.out hk6 (fun b hb e => by have h1 : sb < b := hb; have h2 : b = rb := e; have := HSB.out; have := HLT.out; omega), hl7.1, hl7.2, Or.inl ⟨rfl, rfl⟩, fun g n cap e => (by cases e), Or.inl ⟨rfl, rfl⟩, fun g n cap e => (by cases e)⟩
      clear hl6 hl7 hr6 hk6 hev
      have c0 := HBt.out.at_ 0 _ rfl
      have c1 := HBt.out.at_ 1 _ rfl
      have c2 := HBt.out.at_ 2 _ rfl
      have c3 := HBt.out.at_ 3 _ rfl
      have c4 := HBt.out.at_ 4 _ rfl
      have c5 := HBt.out.at_ 5 _ rfl
      have c6 := HBt.out.at_ 6 _ rfl
      have c7 := HBt.out.at_ 7 _ rfl
      have z5 := HBt.out.free 5
      have r0 := HRV.out.at_ 0 _ rfl
      have y0 := HRV.out.free 0
      have r1 := HRV.out.at_ 1 _ rfl
      have y1 := HRV.out.free 1
      have r2 := HRV.out.at_ 2 _ rfl
      have y2 := HRV.out.free 2
      have r3 := HRV.out.at_ 3 _ rfl
      have y3 := HRV.out.free 3
      have r4 := HRV.out.at_ 4 _ rfl
      have y4 := HRV.out.free 4
      have r5 := HRV.out.at_ 5 _ rfl
      have y5 := HRV.out.free 5
      have r6 := HRV.out.at_ 6 _ rfl
      have y6 := HRV.out.free 6
      have r7 := HRV.out.at_ 7 _ rfl
      have y7 := HRV.out.free 7
      have hne : w.heap.size ≠ sb := by have := HSB.out; omega
      have hne2 : sb ≠ w.heap.size := fun e => hne e.symm
      have HSB2 := Lib.hid hne
      go_wp2_with fail
      have hks : Keeps (fun b => b = sb ∨ b = w.heap.size) w6 (((((((((w6.setCell ⟨sb, 5, none⟩ (.slice la ll lc)).setCell ⟨w.heap.size, 0, none⟩ (.int .i64 13)).setCell ⟨w.heap.size, 1, none⟩ (.int .i64 ((pk E n).at_ : Nat))).setCell ⟨w.heap.size, 2, none⟩ (.string (mkT []))).setCell ⟨w.heap.size, 3, none⟩ (.pointer none)).setCell ⟨w.heap.size, 4, none⟩ (.pointer o)).setCell ⟨w.heap.size, 5, none⟩ (.slice la ll lc)).setCell ⟨w.heap.size, 6, none⟩ (.slice none 0 0)).setCell ⟨w.heap.size, 7, none⟩ (.slice none 0 0)) := (((((((((Keeps.refl (fun b => b = sb ∨ b = w.heap.size) w6).setCell (S := fun b => b = sb ∨ b = w.heap.size) (p := ⟨sb, 5, none⟩) (Or.inl (Or.inl rfl)) (.slice la ll lc)).setCell (S := fun b => b = sb ∨ b = w.heap.size) (p := ⟨w.heap.size, 0, none⟩) (Or.inl (Or.inr rfl)) (.int .i64 13)).setCell (S := fun b => b = sb ∨ b = w.heap.size) (p := ⟨w.heap.size, 1, none⟩) (Or.inl (Or.inr rfl)) (.int .i64 ((pk E n).at_ : Nat))).setCell (S := fun b => b = sb ∨ b = w.heap.size) (p := ⟨w.heap.size, 2, none⟩) (Or.inl (Or.inr rfl)) (.string (mkT []))).setCell (S := fun b => b = sb ∨ b = w.heap.size) (p := ⟨w.heap.size, 3, none⟩) (Or.inl (Or.inr rfl)) (.pointer none)).setCell (S := fun b => b = sb ∨ b = w.heap.size) (p := ⟨w.heap.size, 4, none⟩) (Or.inl (Or.inr rfl)) (.pointer o)).setCell (S := fun b => b = sb ∨ b = w.heap.size) (p := ⟨w.heap.size, 5, none⟩) (Or.inl (Or.inr rfl)) (.slice la ll lc)).setCell (S := fun b => b = sb ∨ b = w.heap.size) (p := ⟨w.heap.size, 6, none⟩) (Or.inl (Or.inr rfl)) (.slice none 0 0)).setCell (S := fun b => b = sb ∨ b = w.heap.size) (p := ⟨w.heap.size, 7, none⟩) (Or.inl (Or.inr rfl)) (.slice none 0 0)
      have hfin := st_final HSC.out HRt.out HKt.out hks HSB.out HLT.out
      refine bodyPost_ret (v := .agg #[.int .i64 13, .int .i64 ((pk E n).at_ : Nat), .string (mkT []), .pointer none, .pointer o, .slice la ll lc, .slice none 0 0, .slice none 0 0]) (by simp [results, Tryz.results150, go_sem, r0, r1, r2, r3, r4, r5, r6, r7]) rfl ⟨.ok (.mk 13 (pk E n).at_ [] .nil x l .nil .nil) _, HEVt.out, _, rfl, ⟨_, rfl, hfin.1⟩, hfin.2.1, hfin.2.2⟩
end Go.Proofs.YtgonbmcojjcabaaGreatDoor

namespace Go.Proofs.YtgonbmcojjcabaaGreatDoor
open Go.RowKit Lx Tr
variable {w w' : World} {rb n d dd : Nat} {tv : Value} {E : Env}

theorem stmt_any {dep : Nat} (hK : BlockC rb tv E dep) (hC : dep < 12 → CaseC rb tv E (dep + 1)) : StmtC rb tv E dep := by
  intro n w h hE
  by_cases q0 : (pk E n).text = tClose
  · exact stmt_close_any w h hE q0
  by_cases q1 : (pk E n).text = tPrint
  · exact stmt_print_any w h hE q1
  by_cases q2 : (pk E n).text = tSleep
  · exact stmt_sleep_any w h hE q2
  by_cases q3 : (pk E n).text = tGo
  · exact stmt_go_any w h hE q3
  by_cases q4 : (pk E n).text = tReturn
  · exact stmt_return_any w h hE q4
  by_cases q5 : (pk E n).text = tBreak
  · exact stmt_break_any w h hE q5
  by_cases q6 : (pk E n).text = tContinue
  · exact stmt_continue_any w h hE q6
  by_cases q7 : (pk E n).text = tIf
  · exact stmt_if_any hK w h hE q7
  by_cases q8 : (pk E n).text = tFor
  · exact stmt_for_any hK w h hE q8
  by_cases q9 : (pk E n).text = tSelect
  · exact stmt_select_any hC w h hE q9
  exact stmt_plain_any w h hE q0 q1 q2 q3 q4 q5 q6 q7 q8 q9
theorem all_st : ∀ (q dep : Nat), 12 ≤ dep + q → dep ≤ 12 → StmtC rb tv E dep ∧ BlockC rb tv E dep
  | 0, dep, h1, h2 => by
    have hK : BlockC rb tv E dep := block_any (fun h => by omega)
    exact ⟨stmt_any hK (fun h => by omega), hK⟩
  | q + 1, dep, h1, h2 => by
    have hK : BlockC rb tv E dep := block_any (fun h => (all_st q (dep + 1) (by omega) (by omega)).1)
    exact ⟨stmt_any hK (fun h => oneCase_any (all_st q (dep + 1) (by omega) (by omega)).1), hK⟩
theorem RBlock {dep : Nat} (h : dep ≤ 12) : BlockC rb tv E dep := (all_st 12 dep (by omega) h).2
end Go.Proofs.YtgonbmcojjcabaaGreatDoor

namespace Go.Proofs.YtgonbmcojjcabaaGreatDoor
open Go.RowKit Lx Tr
variable {w w' : World} {rb n d dd : Nat} {tv : Value} {E : Env}

theorem params_eq (f : Nat) (acc : List Pa) (n : Nat) : params E (f + 1) acc n = (takeKind E 1 n).bind fun t m => if kindV (pk E m).text = 0 then fail E 3 m else
      if (pk E (m + 1)).text = tComma then params E f (acc ++ [⟨t.text, kindV (pk E m).text, t.at_⟩]) (m + 2) else (take E tRp (m + 1)).bind fun _ m2 => .ok (acc ++ [⟨t.text, kindV (pk E m).text, t.at_⟩]) m2 := by rw [params]

def paCells : List Pa → List Value
  | [] => []
  | p :: ps => [.string (mkT p.name), .int .i64 (p.kind : Nat), .int .i64 (p.at_ : Nat)] ++ paCells ps
theorem paCells_snoc : ∀ (l : List Pa) (p : Pa), paCells (l ++ [p]) = paCells l ++ [.string (mkT p.name), .int .i64 (p.kind : Nat), .int .i64 (p.at_ : Nat)]
  | [], _ => rfl
  | q :: l, p => by show _ ++ paCells (l ++ [p]) = _; rw [paCells_snoc l p]; rfl
theorem paCells_at : ∀ (l : List Pa) (i : Nat) (p : Pa), l[i]? = some p → (paCells l)[i * 3]? = some (.string (mkT p.name)) ∧ (paCells l)[i * 3 + 1]? = some (.int .i64 (p.kind : Nat)) ∧ (paCells l)[i * 3 + 2]? = some (.int .i64 (p.at_ : Nat))
  | [], _, _, h => by cases h
  | q :: l, 0, p, h => by cases h; exact ⟨rfl, rfl, rfl⟩
  | q :: l, i + 1, p, h => by
    obtain ⟨h1, h2, h3⟩ := paCells_at l i p h
    rw [show (i + 1) * 3 = i * 3 + 3 by omega]
    exact ⟨h1, h2, h3⟩
theorem info_param : (Tryz.prog.info? 85).map (fun i => (i.zero, i.size, i.bytes)) = some (some (.agg #[.string ByteArray.empty, .int .i64 0, .int .i64 0]), 3, 32) := by kernel_rfl

/-- Parameters in memory. -/
def PaRow (w : World) (F : Nat → Prop) (v : Value) (l : List Pa) : Prop :=
  (v = .slice none 0 0 ∧ l = []) ∨ ∃ g cap, v = .slice (some ⟨g, 0, none⟩) l.length cap ∧ l.length ≤ cap ∧ cap ≤ maxLen ∧ F g ∧ 0 < l.length ∧ ∀ i p, l[i]? = some p → w.cell? ⟨g, i * 3, none⟩ = some (.string (mkT p.name)) ∧ w.cell? ⟨g, i * 3 + 1, none⟩ = some (.int .i64 (p.kind : Nat)) ∧ w.cell? ⟨g, i * 3 + 2, none⟩ = some (.int .i64 (p.at_ : Nat))
theorem PaRow.keeps {F S : Nat → Prop} {v : Value} {l : List Pa} (h : PaRow w F v l) (hk : Keeps S w w') (hF : ∀ b, F b → ¬ S b) : PaRow w' F v l := by
  rcases h with h | ⟨g, cap, h1, h2, h3, h4, h5, h6⟩
  · exact Or.inl h
  · exact Or.inr ⟨g, cap, h1, h2, h3, h4, h5, fun i p hi => ⟨hk.cell_of (h6 i p hi).1 (hF g h4), hk.cell_of (h6 i p hi).2.1 (hF g h4), hk.cell_of (h6 i p hi).2.2 (hF g h4)⟩⟩
theorem PaRow.mono {F G : Nat → Prop} (hF : ∀ b, b < w.heap.size → F b → G b) {v : Value} {l : List Pa} (h : PaRow w F v l) : PaRow w G v l := by
  rcases h with h | ⟨g, cap, h1, h2, h3, h4, h5, h6⟩
  · exact Or.inl h
  · exact Or.inr ⟨g, cap, h1, h2, h3, hF g (block_lt_of_cell (h6 0 _ (List.getElem?_eq_getElem h5)).1) h4, h5, h6⟩

/-- A function's cells. -/
def fu1 (name : B) (A : Nat) (pv : Value) (kind : Nat) (bv : Value) : List Value := [.string (mkT name), .int .i64 (A : Nat), pv, .int .i64 (kind : Nat), bv]
/-- What the list of parameters keeps. -/
structure FunJ (w0 : World) (rb : Nat) (tv : Value) (E : Env) (dep rv fb : Nat) (wl : World) (A : Nat) (name : B) (W : World) (m : Nat) (acc : List Pa) : Prop where
  rd : RdAt W rb tv E m dep
  env : TEnv rb E W
  kp : Keeps (fun b => b = rb) w0 W
  cr : W.cell? ⟨rv, 0, none⟩ = some (.pointer (some ⟨rb, 0, none⟩))
  row : ∃ v, Blk W fb (fu1 name A v 0 (.slice none 0 0)) ∧ W.ownsRow wl.heap.size 85 3 v acc.length (paCells acc) ∧ (acc = [] → v = .slice none 0 0)
  al : acc.length ≤ m
  lo : rb < w0.heap.size ∧ w0.heap.size ≤ rv ∧ rv < fb ∧ fb < wl.heap.size ∧ wl.heap.size ≤ W.heap.size
  kl : Keeps (fun b => b = rb ∨ b = fb) wl W

theorem FunJ.on {w0 wl W W2 : World} {dep rv fb A m m2 : Nat} {name : B} {acc : List Pa} (h : FunJ w0 rb tv E dep rv fb wl A name W m acc) (hm : m ≤ m2) (hk : Keeps (fun b => b = rb) W W2) (hr : RdAt W2 rb tv E m2 dep) : FunJ w0 rb tv E dep rv fb wl A name W2 m2 acc := by
  obtain ⟨v, h1, h2, h3⟩ := h.row
  have hlo := h.lo
  exact ⟨hr, h.env.own hk, h.kp.trans hk, hk.cell_of h.cr (fun e => by have : rv = rb := e; omega), ⟨v, h1.keeps hk (fun e => by have : fb = rb := e; omega), hk.row h2 (fun b e e2 => by have := (own_ge h2 b e).1; have : b = rb := e2; omega), h3⟩, Nat.le_trans h.al hm, ⟨hlo.1, hlo.2.1, hlo.2.2.1, hlo.2.2.2.1, Nat.le_trans hlo.2.2.2.2 hk.size⟩, h.kl.trans (hk.mono (fun _ _ e => Or.inl e))⟩
theorem FunJ.next {w0 wl W W2 W5 : World} {dep rv fb A m m1 cap5 : Nat} {ao5 : Option Addr} {name : B} {acc : List Pa} {v : Value} {p : Pa} {o : Obj} (h : FunJ w0 rb tv E dep rv fb wl A name W m acc) (hm : acc.length + 1 ≤ m1) (hk : Keeps (fun b => b = rb) W W2) (hr : RdAt W2 rb tv E m1 dep)
    (hb1 : Blk W fb (fu1 name A v 0 (.slice none 0 0))) (ho1 : W.ownsRow wl.heap.size 85 3 v acc.length (paCells acc)) (hg : (W2.alloc o).grownBy W5 v.ownBlock)
    (ho : W5.ownsRow wl.heap.size 85 3 (.slice ao5 (acc.length + 1) cap5) (acc.length + 1) (paCells acc ++ [.string (mkT p.name), .int .i64 (p.kind : Nat), .int .i64 (p.at_ : Nat)])) (hnew : (Value.slice ao5 (acc.length + 1) cap5).ownBlock = v.ownBlock ∨ (Value.slice ao5 (acc.length + 1) cap5).ownBlock = some (W2.heap.size + 1)) :
    FunJ w0 rb tv E dep rv fb wl A name (W5.setCell ⟨fb, 2, none⟩ (.slice ao5 (acc.length + 1) cap5)) m1 (acc ++ [p]) := by
  have hlo := h.lo
  have hw2 := hk.size
  have hk5 : Keeps (fun b => v.ownBlock = some b) W2 W5 := ((Keeps.refl (fun b => v.ownBlock = some b) W2).alloc o).trans' (Keeps.of_grownBy hg (fun k _ e => e)) (fun _ _ e => e)
  have hks : Keeps (fun b => b = fb) W5 (W5.setCell ⟨fb, 2, none⟩ (.slice ao5 (acc.length + 1) cap5)) := own1
  have hge := own_ge ho1
  have hb2 : Blk W2 fb (fu1 name A v 0 (.slice none 0 0)) := hb1.keeps hk (fun e => by have : fb = rb := e; omega)
  have hb5 : Blk W5 fb (fu1 name A v 0 (.slice none 0 0)) := hb2.keeps hk5 (fun e => by have := (hge fb e).1; omega)
  have hgn : ∀ b, (Value.slice ao5 (acc.length + 1) cap5).ownBlock = some b → wl.heap.size ≤ b := fun b e => by
    rcases hnew with h3 | h3
    · exact (hge b (h3 ▸ e)).1
    · rw [h3] at e; have := Option.some.inj e; omega
  have hs5 := hk5.size
  have hss := hks.size
  refine ⟨(hr.keeps hk5 (fun b e => by have := (hge b e).1; omega)).keeps hks (fun b e => by have : b = fb := e; omega), ((h.env.own hk).keeps hk5 (fun b e => by have := (hge b e).1; omega)).keeps hks (fun b e => by have : b = fb := e; omega), ((h.kp.trans hk).trans' hk5 (fun i hi e => by have := (hge i e).1; omega)).trans' hks (fun i hi e => by have : i = fb := e; omega), hks.cell_of (hk5.cell_of (hk.cell_of h.cr (fun e => by have : rv = rb := e; omega)) (fun e => by have := (hge rv e).1; omega)) (fun e => by have : rv = fb := e; omega), ⟨_, hb5.set 2 (.slice ao5 (acc.length + 1) cap5) (by simp [fu1]), ?_, fun e => absurd e (by simp)⟩, by rw [List.length_append]; exact hm, ⟨hlo.1, hlo.2.1, hlo.2.2.1, hlo.2.2.2.1, by omega⟩, ((h.kl.trans (hk.mono (fun _ _ e => Or.inl e))).trans' hk5 (fun i hi e => by have := (hge i e).1; omega)).trans (hks.mono (fun _ _ e => Or.inr e))⟩
  rw [List.length_append, paCells_snoc]
  exact hks.row ho (fun b e e2 => by have := hgn b e; have : b = fb := e2; omega)
theorem FunJ.pas {w0 wl W : World} {dep rv fb A m : Nat} {name : B} {acc : List Pa} (h : FunJ w0 rb tv E dep rv fb wl A name W m acc) : ∃ v, Blk W fb (fu1 name A v 0 (.slice none 0 0)) ∧ PaRow W (fun b => wl.heap.size ≤ b) v acc := by
  obtain ⟨v, h1, h2, h3⟩ := h.row
  refine ⟨v, h1, ?_⟩
  by_cases hz : acc = []
  · exact Or.inl ⟨h3 hz, hz⟩
  · have hpos : 0 < acc.length := List.length_pos_iff.2 hz
    rcases h2.2 with ⟨_, e⟩ | ⟨g, cap, cur, e1, e2, _, e3, e4, _⟩
    · omega
    · refine Or.inr ⟨g, cap, e1, e3, e4, e2, hpos, fun i p hi => ?_⟩
      obtain ⟨a1, a2, a3⟩ := paCells_at acc i p hi
      have hin := (List.getElem?_eq_some_iff.1 hi).1
      subst e1
      rw [World.ownsRow.cellAt h2 (i * 3) (by omega), World.ownsRow.cellAt h2 (i * 3 + 1) (by omega), World.ownsRow.cellAt h2 (i * 3 + 2) (by omega)]
      exact ⟨a1, a2, a3⟩

set_option maxRecDepth 100000 in
set_option maxHeartbeats 12800000 in
theorem funItem_any {w0 wl W : World} {dep rv fb A m : Nat} {name : B} {acc : List Pa} (hJ : FunJ w0 rb tv E dep rv fb wl A name W m acc) :
    Calls Tryz.prog 91 #[.pointer (some ⟨rv, 0, none⟩), .pointer (some ⟨fb, 0, none⟩)] W fun e W' =>
      (∃ k a, Ev (fun f => params E f acc m) (.bad k a) ∧ Threw W W' rb k a e) ∨ (∃ acc' m', m < m' ∧ e = .returned (.tuple #[]) ∧ FunJ w0 rb tv E dep rv fb wl A name W' m' acc' ∧ ∀ r, AfterItem E (fun acc m r => Ev (fun f => params E f acc m) r) acc' m' r → Ev (fun f => params E f acc m) r) := by
  have HJ := Lib.hid hJ
  have HLT := Lib.hid hJ.rd.lt
  have cr := hJ.cr
  have HTK := Lib.hid (takeKind_tok 1 (by decide) W hJ.rd)
  clear hJ
  cases ht : takeKind E 1 m with
  | out => exact absurd ht (takeKind_ne E _ _)
  | bad k a =>
    rw [ht] at HTK
    have HT := Lib.hid ht
    clear ht
    go_enter Tryz.func91, Tryz.ntmps91
    go_wp2_with fail
    refine HTK.out.mono ?_
    rintro e w1 hth
    have hth' : Threw W w1 rb k a e := hth
    obtain ⟨b, rfl⟩ := threw_panic hth'
    exact ⟨rfl, Or.inl ⟨k, a, Ev.now (fun e => by cases e) fun f => (by rw [params_eq, HT.out]; rfl), hth'⟩⟩
  | ok t m1 =>
    rw [ht] at HTK
    have HT := Lib.hid ht
    have HM1 := Lib.hid (takeKind_on ht)
    clear ht
    unfold Says TokIs tokV at HTK
    simp only at HTK
    generalize hTT : mkT t.text = T at *
    go_enter Tryz.func91, Tryz.ntmps91
    go_wp2_with fail
    refine HTK.out.mono ?_
    rintro e w1 ⟨v, rfl, rfl, hr1, hk1⟩
    have hj1 := HJ.out.on (Nat.le_of_lt HM1.out) hk1 hr1
    have HJ1 := Lib.hid hj1
    have HK1 := Lib.hid hk1
    have hb2 : Below w1.heap.size w1 (w1.alloc (.cells #[.int .i64 (t.kind : Nat), .string T, .int .i64 (t.at_ : Nat)] 100)) := ((Keeps.refl (fun _ => False) w1).alloc _).below (Nat.le_refl _) (fun _ _ e => e.elim)
    have cr2 : (w1.alloc (.cells #[.int .i64 (t.kind : Nat), .string T, .int .i64 (t.at_ : Nat)] 100)).cell? ⟨rv, 0, none⟩ = some (.pointer (some ⟨rb, 0, none⟩)) := cell_more hj1.cr
    have hE2 := hj1.env.fresh hb2
    have HKD := Lib.hid (kind_tok _ (hr1.fresh hb2) hE2.kinds (by have := hE2.b2; have := HLT.out; have := hk1.size; have := hb2.size; omega))
    have HTC := Lib.hid (tokC_new w1 t.kind t.at_ T 100)
    have HB2 := Lib.hid hb2
    clear hj1 hr1 hk1 hb2 hE2 cr
    have crx : w1.cell? ⟨rv, 0, none⟩ = some (.pointer (some ⟨rb, 0, none⟩)) := HJ1.out.cr
    go_wp2_with fail
    refine HKD.out.mono ?_
    rintro e w3 ⟨rfl, hr3, hk3⟩
    clear crx cr2
    by_cases hz : kindV (pk E m1).text = 0
    · rw [if_pos hz] at hr3
      have e0 : (((kindV (pk E m1).text : Nat) : Int) == 0) = true := by rw [hz]; rfl
      have HZ := Lib.hid hz
      have HK3 := Lib.hid hk3
      have crw : w3.cell? ⟨rv, 0, none⟩ = some (.pointer (some ⟨rb, 0, none⟩)) := hk3.cell_of (cell_more HJ1.out.cr) (fun e => by have := HJ.out.lo; have : rv = rb := e; omega)
      have HF := Lib.hid (fail_any 3 w3 hr3)
      clear hz hr3 hk3
      go_wp2_with fail
      refine HF.out.mono ?_
      rintro e w4 hth
      have hth2 : Threw W w4 rb 3 (pk E m1).at_ e := hth.own HLT.out ((HK1.out.trans (Keeps.of_new HB2.out)).trans HK3.out)
      obtain ⟨b, rfl⟩ := threw_panic hth
      exact ⟨rfl, Or.inl ⟨3, _, Ev.now (fun e => by cases e) fun f => (by rw [params_eq, HT.out]; show (if _ then _ else _) = _; rw [if_pos HZ.out]; rfl), hth2⟩⟩
    · rw [if_neg hz] at hr3
      have hk13 : Keeps (fun b => b = rb) w1 w3 := (Keeps.of_new HB2.out).trans hk3
      have hj3 := HJ1.out.on (Nat.le_succ _) hk13 hr3
      obtain ⟨av, hblk, hown, hzero⟩ := hj3.row
      have hform : ∃ ao cap, av = .slice ao acc.length cap := by
        rcases hown.2 with ⟨e1, e2⟩ | ⟨g, cap, cur, e1, _⟩
        · exact ⟨none, 0, by rw [e1, e2]⟩
        · exact ⟨_, _, e1⟩
      obtain ⟨ao0, cap0, rfl⟩ := hform
      obtain ⟨i0, hi, hz0, hz1, hz2⟩ := tinfo info_param
      have e0 : (((kindV (pk E m1).text : Nat) : Int) == 0) = false := beq_eq_false_iff_ne.2 (by omega)
      have htc := HTC.out.keeps hk3 (fun e => by have h1 := HK1.out.size; have h2 := HLT.out; omega)
      have p1 := htc.c1
      have p2 := htc.c2
      have crw := hj3.cr
      have c2 := hblk.at_ 2 _ rfl
      have z2 := hblk.free 2
      have hlo := hj3.lo
      have hal := hj3.al
      have hn := hj3.rd.hn
      have hl := hj3.rd.hl
      have HML : Hid (acc.length + 1 ≤ maxLen) := Lib.hid (by unfold maxLen; omega)
      have HBY : Hid ((acc.length + 1) * 32 ≤ 140737488355328) := Lib.hid (by omega)
      have HZ := Lib.hid hz
      have HJ3 := Lib.hid hj3
      have HBK := Lib.hid hblk
      have HOW := Lib.hid hown
      have HK13 := Lib.hid hk13
      have HCN := Lib.hid (cells_new w3 [.string T, .int .i64 (kindV (pk E m1).text : Nat), .int .i64 (t.at_ : Nat)] 85)
      have HH1 : Hid (∀ x ∈ [Value.string T, .int .i64 (kindV (pk E m1).text : Nat), .int .i64 (t.at_ : Nat)], x.oneCell' = true) := Lib.hid (fun x hx => by simp at hx; rcases hx with rfl | rfl | rfl <;> rfl)
      have HHB : Hid (wl.heap.size ≤ w3.heap.size ∧ fb < wl.heap.size) := Lib.hid ⟨hlo.2.2.2.2, hlo.2.2.2.1⟩
      have hfl : fb < w3.heap.size := by omega
      clear hz hr3 hk3 hk13 hj3 hblk hown hzero htc hlo hal hn hl
      go_wp2_with (at_builtin; refine wpList_append_own_at _ rfl _ _ 42 rfl wl.heap.size 85 i0 (.agg #[.string ByteArray.empty, .int .i64 0, .int .i64 0]) 3 32 Tryz.underlying42 hi hz0 hz1 hz2 rfl (by decide) _ _ _ rfl (World.ownsRow.alloc HOW.out _) ⟨w3.heap.size, 0, none⟩ 1 1 [.string T, .int .i64 (kindV (pk E m1).text : Nat), .int .i64 (t.at_ : Nat)] rfl rfl HCN.out HH1.out HML.out HBY.out (by have := HHB.out; simp; omega) ?_)
      intro v5 w5 hown5 hgrow _ hnew
      have hv5 : ∃ ao cap, v5 = .slice ao (acc.length + 1) cap := by
        rcases hown5.2 with ⟨_, h0⟩ | ⟨g, cap, cur, e, _⟩
        · omega
        · exact ⟨_, _, e⟩
      obtain ⟨ao5, cap5, rfl⟩ := hv5
      have hk5 : Keeps (fun b => (Value.slice ao0 acc.length cap0).ownBlock = some b) w3 w5 := ((Keeps.refl (fun b => (Value.slice ao0 acc.length cap0).ownBlock = some b) w3).alloc _).trans' (Keeps.of_grownBy hgrow (fun k _ e => e)) (fun _ _ e => e)
      have hnb : ¬ (Value.slice ao0 acc.length cap0).ownBlock = some fb := fun e => by have := (own_ge HOW.out fb e).1; have := HHB.out; omega
      have c25 : w5.cell? ⟨fb, 2, none⟩ = some (.slice ao0 acc.length cap0) := hk5.cell_of c2 hnb
      have z25 : w5.frozen? ⟨fb, 2, none⟩ = false := by rw [hk5.frozen (p := ⟨fb, 2, none⟩) hfl hnb]; exact z2
      have HO5 := Lib.hid hown5
      have HG5 := Lib.hid hgrow
      have HN5 := Lib.hid hnew
      clear hown5 hgrow hnew hk5 hnb p1 p2 c2 z2 crw
      go_wp2_with fail
      go_end0
      have hnx := HJ3.out.next (p := ⟨t.text, kindV (pk E m1).text, t.at_⟩) (Nat.succ_le_succ HJ1.out.al) (Keeps.refl _ _) HJ3.out.rd HBK.out HOW.out HG5.out (by have := HO5.out; rw [← hTT] at this; exact this) (by simpa using HN5.out)
      refine Or.inr ⟨acc ++ [⟨t.text, kindV (pk E m1).text, t.at_⟩], m1 + 1, by have := HM1.out; omega, rfl, hnx, fun r hr => ?_⟩
      rcases hr with ⟨h4, h5⟩ | ⟨h4, rfl⟩
      · refine Ev.step (h := fun f => params E f (acc ++ [⟨t.text, kindV (pk E m1).text, t.at_⟩]) (m1 + 2)) (fun f => ?_) h5
        rw [params_eq, HT.out]
        show (if _ then _ else _) = _
        rw [if_neg HZ.out, if_pos h4]
      · have hne : ((take E tRp (m1 + 1)).bind fun _ m2 => .ok (acc ++ [⟨t.text, kindV (pk E m1).text, t.at_⟩]) m2 : Res (List Pa)) ≠ .out := by
          cases hq : take E tRp (m1 + 1) with
          | out => exact absurd hq (take_ne E _ _)
          | bad k a => intro e; cases e
          | ok t n => intro e; cases e
        refine Ev.now hne fun f => ?_
        rw [params_eq, HT.out]
        show (if _ then _ else _) = _
        rw [if_neg HZ.out, if_neg h4]
end Go.Proofs.YtgonbmcojjcabaaGreatDoor
