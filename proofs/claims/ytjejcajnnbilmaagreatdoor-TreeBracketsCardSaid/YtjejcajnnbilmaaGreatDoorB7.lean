/-
  Texts of one proof, in build order: TreePH TreePI TreePJ TreePK TreePL TreeW9 TreeWA TreeWB TreeQ6 TreeQ7 TreeQ8 TreeWC TreeQ5
-/
import Derived.Test.YtjejcajnnbilmaaGreatDoorB6
import Derived.Lib.ItoaLen
set_option maxRecDepth 100000
set_option maxHeartbeats 12800000
namespace Go.Proofs.YtjejcajnnbilmaaGreatDoor
open Go.RowKit Lx Tr
variable {w w' : World}
theorem catV1 (c : Lx.B) : catV [mkT c] = c := List.append_nil c
theorem catV3 (a c e : Lx.B) : catV [mkT a, mkT c, mkT e] = a ++ (c ++ e) := by show a ++ (c ++ (e ++ [])) = _; rw [List.append_nil]
theorem catV2 (a c : Lx.B) : catV [mkT a, mkT c] = a ++ c := by show a ++ (c ++ []) = _; rw [List.append_nil]
theorem slAt_len {F : Nat -> Prop} {o : Option Addr} {n c m : Nat} (h : SlAt F (.slice o n c) m) : n = m := by
 rcases h with ⟨e, e2⟩ | ⟨g, cap, e, _⟩
 ·rw [e2]; injection e
 ·injection e
theorem stmt_for {B b d : Nat} {at_ : Nat} {tq vq no eo co : Option Addr} {nn nc en ec cn cc : Nat} {name : Lx.B} {dst val : Ex} {thn els : Sts} {cases : Cas} (hTh : StsW B b thn) (hok : ExOk val) (l : List UInt8) (w : World) (h : PC B b l w) (hB : B <= w.heap.size) (hP : PEnv B w) (hv : StV w (fun k => k < B) (.pointer tq) (.pointer vq) (.slice no nn nc) (.slice eo en ec) (.slice co cn cc) dst val thn els cases) (hlen : l.length + (lineV d (cFor ++ (exV 1 val ++ cOpen)) ++ (stsV (d + 1) thn ++ lineV d cEnd)).length <= 1000000) :
  Writes B b l (lineV d (cFor ++ (exV 1 val ++ cOpen)) ++ (stsV (d + 1) thn ++ lineV d cEnd)) w 97 #[.pointer (some ⟨b, 0, none⟩), .agg #[.int .i64 13, .int .i64 (at_ : Nat), .string (mkT name), .pointer tq, .pointer vq, .slice no nn nc, .slice eo en ec, .slice co cn cc], .int .i64 (d : Nat)] := by
 unfold Writes
 have hbw := fresh_alloc w #[.int .i64 13, .int .i64 (at_ : Nat), .string (mkT name), .pointer tq, .pointer vq, .slice no nn nc, .slice eo en ec, .slice co cn cc] 49
 have hblt := h.1.lt
 have HL : Hid (l.length + ((lineV d (cFor ++ (exV 1 val ++ cOpen))).length + ((stsV (d + 1) thn).length + (lineV d cEnd).length)) <= 1000000) := zz (by rw [List.length_append, List.length_append] at hlen; exact hlen)
 have HTH := zz hTh
 have hd : d <= 1000000 := by have := HL.out; simp only [lineV_len] at this; omega
 have hw : IntKind.i64.wrap ((d : Int) + 1) = ((d + 1 : Nat) : Int) := by rw [IntWalk.i64_in _ (by omega)]; omega
 have HB := zz hB
 have HP := zz hP
 have HV := zz hv
 have HB1 := zz (hbw.mono hB)
 have HSZ : Hid (B <= (w.alloc (.cells #[.int .i64 13, .int .i64 (at_ : Nat), .string (mkT name), .pointer tq, .pointer vq, .slice no nn nc, .slice eo en ec, .slice co cn cc] 49)).heap.size) := zz (Nat.le_trans hB hbw.size)
 have HO1 : Hid (Others b w (w.alloc (.cells #[.int .i64 13, .int .i64 (at_ : Nat), .string (mkT name), .pointer tq, .pointer vq, .slice no nn nc, .slice eo en ec, .slice co cn cc] 49))) := zz (Others.of_new hbw)
 have HLT : Hid (w.heap.size < (w.alloc (.cells #[.int .i64 13, .int .i64 (at_ : Nat), .string (mkT name), .pointer tq, .pointer vq, .slice no nn nc, .slice eo en ec, .slice co cn cc] 49)).heap.size) := zz (by rw [alloc_size]; exact Nat.lt_succ_self _)
 have HNE : Hid (w.heap.size ≠ b) := zz (by omega)
 have HH1 : Hid ((w.alloc (.cells #[.int .i64 13, .int .i64 (at_ : Nat), .string (mkT name), .pointer tq, .pointer vq, .slice no nn nc, .slice eo en ec, .slice co cn cc] 49)).heap[w.heap.size]? = some (Obj.cells #[.int .i64 13, .int .i64 (at_ : Nat), .string (mkT name), .pointer tq, .pointer vq, .slice no nn nc, .slice eo en ec, .slice co cn cc] 49 (0, 0))) := zz (heap_alloc_new w _)
 have HT := zz (text_ex val hok (w.alloc (.cells #[.int .i64 13, .int .i64 (at_ : Nat), .string (mkT name), .pointer tq, .pointer vq, .slice no nn nc, .slice eo en ec, .slice co cn cc] 49)) (.pointer vq) (Nat.le_trans hB hbw.size) (hP.below (hbw.mono hB)) (hv.2.1.below (hbw.mono hB)) (by have := HL.out; rw [lineV_len, List.length_append, List.length_append] at this; omega))
 have HF : Hid (∀ V, Below (w.alloc (.cells #[.int .i64 13, .int .i64 (at_ : Nat), .string (mkT name), .pointer tq, .pointer vq, .slice no nn nc, .slice eo en ec, .slice co cn cc] 49)).heap.size (w.alloc (.cells #[.int .i64 13, .int .i64 (at_ : Nat), .string (mkT name), .pointer tq, .pointer vq, .slice no nn nc, .slice eo en ec, .slice co cn cc] 49)) V -> PC B b l V) := zz fun V hV => (h.fresh hbw).fresh hV
 clear h hB hP hv hlen hbw hblt hok hd hTh
 go_enter Tryz.func97, Tryz.ntmps97
 go_wp2_with fail
 refine HT.out.mono ?_
 rintro e w2 ⟨rfl, hb2⟩
 have HB2 := zz (HB1.out.trans (hb2.mono HSZ.out))
 have HO2 : Hid (Others b w w2) := zz (HO1.out.trans (Others.of_new hb2))
 have HH2 : Hid (w2.heap[w.heap.size]? = some (Obj.cells #[.int .i64 13, .int .i64 (at_ : Nat), .string (mkT name), .pointer tq, .pointer vq, .slice no nn nc, .slice eo en ec, .slice co cn cc] 49 (0, 0))) := zz (by rw [hb2.block _ HLT.out]; exact HH1.out)
 have H2 := zz (HF.out w2 hb2)
 clear hb2
 have HC2 := zz (line_new B b d _ [mkT cFor, mkT (exV 1 val), mkT cOpen] w2 H2.out (Nat.le_trans HB.out HB2.out.size) (by have := HL.out; rw [catV3]; (try simp only [List.length_append]); omega) (by simp))
 rw [catV3] at HC2
 go_wp2_with fail
 refine HC2.out.mono ?_
 rintro e w3 ⟨rfl, h3, hb3, ho3⟩
 have H3 := zz h3
 have HB3 := zz (HB2.out.trans hb3)
 have HO3 := zz (HO2.out.trans ho3)
 have HH3 := zz (ho3.heap HNE.out (by decide) HH2.out)
 have d3_5 : w3.cell? ⟨w.heap.size, 5, none⟩ = some (.slice no nn nc) := by rw [Lib.cell_of_heap HH3.out]; rfl
 clear h3 hb3 ho3
 have HC3 := zz (HTH.out _ w3 (d + 1) no nn nc H3.out (Nat.le_trans HB.out HB3.out.size) (HP.out.below HB3.out) (StV.below HV.out HB3.out).2.2.1 (StV.below HV.out HB3.out).2.2.2.1 (by have := HL.out; simp only [List.length_append]; omega))
 go_wp2_with fail
 refine HC3.out.mono ?_
 rintro e w4 ⟨rfl, h4, hb4, ho4⟩
 have H4 := zz h4
 have HB4 := zz (HB3.out.trans hb4)
 have HO4 := zz (HO3.out.trans ho4)
 have HH4 := zz (ho4.heap HNE.out (by decide) HH3.out)
 clear h4 hb4 ho4
 have HC4 := zz (line_new B b d _ [mkT cEnd] w4 H4.out (Nat.le_trans HB.out HB4.out.size) (by have := HL.out; rw [catV1]; (try simp only [List.length_append]); omega) (by simp))
 rw [catV1] at HC4
 go_wp2_with fail
 refine HC4.out.mono ?_
 rintro e w5 ⟨rfl, h5, hb5, ho5⟩
 have H5 := zz h5
 have HB5 := zz (HB4.out.trans hb5)
 have HO5 := zz (HO4.out.trans ho5)
 have HH5 := zz (ho5.heap HNE.out (by decide) HH4.out)
 clear h5 hb5 ho5
 have HZ : Hid (PC B b (l ++ (lineV d (cFor ++ (exV 1 val ++ cOpen)) ++ (stsV (d + 1) thn ++ lineV d cEnd))) w5) := zz (by
  have h9 := H5.out
  simp only [List.append_assoc] at h9 ⊢
  exact h9)
 go_wp2_with fail
 try simp only [Exit.inBlock, Exit.then]
 go_end0
 exact ⟨rfl, HZ.out, HB5.out, HO5.out⟩
theorem choice_if {B b d : Nat} {at_ : Nat} {tq vq no eo co : Option Addr} {nn nc en ec cn cc : Nat} {name : Lx.B} {dst val : Ex} {thn els : Sts} {cases : Cas} (hTh : StsW B b thn) (hok : ExOk val) (h0 : els.len = 0) (l : List UInt8) (w : World) (h : PC B b l w) (hB : B <= w.heap.size) (hP : PEnv B w) (hv : StV w (fun k => k < B) (.pointer tq) (.pointer vq) (.slice no nn nc) (.slice eo en ec) (.slice co cn cc) dst val thn els cases) (hlen : l.length + (lineV d (cIf ++ (exV 1 val ++ cOpen)) ++ (stsV (d + 1) thn ++ lineV d cEnd)).length <= 1000000) :
  Writes B b l (lineV d (cIf ++ (exV 1 val ++ cOpen)) ++ (stsV (d + 1) thn ++ lineV d cEnd)) w 127 #[.pointer (some ⟨b, 0, none⟩), .agg #[.int .i64 12, .int .i64 (at_ : Nat), .string (mkT name), .pointer tq, .pointer vq, .slice no nn nc, .slice eo en ec, .slice co cn cc], .int .i64 (d : Nat)] := by
 unfold Writes
 have hbw := fresh_alloc w #[.int .i64 12, .int .i64 (at_ : Nat), .string (mkT name), .pointer tq, .pointer vq, .slice no nn nc, .slice eo en ec, .slice co cn cc] 49
 have hblt := h.1.lt
 have HL : Hid (l.length + ((lineV d (cIf ++ (exV 1 val ++ cOpen))).length + ((stsV (d + 1) thn).length + (lineV d cEnd).length)) <= 1000000) := zz (by rw [List.length_append, List.length_append] at hlen; exact hlen)
 have HTH := zz hTh
 have hen : en = 0 := by rw [<- h0]; exact slAt_len hv.2.2.2.2.1
 subst hen
 have hd : d <= 1000000 := by have := HL.out; simp only [lineV_len] at this; omega
 have hw : IntKind.i64.wrap ((d : Int) + 1) = ((d + 1 : Nat) : Int) := by rw [IntWalk.i64_in _ (by omega)]; omega
 have HB := zz hB
 have HP := zz hP
 have HV := zz hv
 have HB1 := zz (hbw.mono hB)
 have HSZ : Hid (B <= (w.alloc (.cells #[.int .i64 12, .int .i64 (at_ : Nat), .string (mkT name), .pointer tq, .pointer vq, .slice no nn nc, .slice eo 0 ec, .slice co cn cc] 49)).heap.size) := zz (Nat.le_trans hB hbw.size)
 have HO1 : Hid (Others b w (w.alloc (.cells #[.int .i64 12, .int .i64 (at_ : Nat), .string (mkT name), .pointer tq, .pointer vq, .slice no nn nc, .slice eo 0 ec, .slice co cn cc] 49))) := zz (Others.of_new hbw)
 have HLT : Hid (w.heap.size < (w.alloc (.cells #[.int .i64 12, .int .i64 (at_ : Nat), .string (mkT name), .pointer tq, .pointer vq, .slice no nn nc, .slice eo 0 ec, .slice co cn cc] 49)).heap.size) := zz (by rw [alloc_size]; exact Nat.lt_succ_self _)
 have HNE : Hid (w.heap.size ≠ b) := zz (by omega)
 have HH1 : Hid ((w.alloc (.cells #[.int .i64 12, .int .i64 (at_ : Nat), .string (mkT name), .pointer tq, .pointer vq, .slice no nn nc, .slice eo 0 ec, .slice co cn cc] 49)).heap[w.heap.size]? = some (Obj.cells #[.int .i64 12, .int .i64 (at_ : Nat), .string (mkT name), .pointer tq, .pointer vq, .slice no nn nc, .slice eo 0 ec, .slice co cn cc] 49 (0, 0))) := zz (heap_alloc_new w _)
 have HT := zz (text_ex val hok (w.alloc (.cells #[.int .i64 12, .int .i64 (at_ : Nat), .string (mkT name), .pointer tq, .pointer vq, .slice no nn nc, .slice eo 0 ec, .slice co cn cc] 49)) (.pointer vq) (Nat.le_trans hB hbw.size) (hP.below (hbw.mono hB)) (hv.2.1.below (hbw.mono hB)) (by have := HL.out; rw [lineV_len, List.length_append, List.length_append] at this; omega))
 have HF : Hid (∀ V, Below (w.alloc (.cells #[.int .i64 12, .int .i64 (at_ : Nat), .string (mkT name), .pointer tq, .pointer vq, .slice no nn nc, .slice eo 0 ec, .slice co cn cc] 49)).heap.size (w.alloc (.cells #[.int .i64 12, .int .i64 (at_ : Nat), .string (mkT name), .pointer tq, .pointer vq, .slice no nn nc, .slice eo 0 ec, .slice co cn cc] 49)) V -> PC B b l V) := zz fun V hV => (h.fresh hbw).fresh hV
 clear h hB hP hv hlen hbw hblt hok hd hTh h0
 go_enter Tryz.func127, Tryz.ntmps127
 go_wp2_with fail
 refine HT.out.mono ?_
 rintro e w2 ⟨rfl, hb2⟩
 have HB2 := zz (HB1.out.trans (hb2.mono HSZ.out))
 have HO2 : Hid (Others b w w2) := zz (HO1.out.trans (Others.of_new hb2))
 have HH2 : Hid (w2.heap[w.heap.size]? = some (Obj.cells #[.int .i64 12, .int .i64 (at_ : Nat), .string (mkT name), .pointer tq, .pointer vq, .slice no nn nc, .slice eo 0 ec, .slice co cn cc] 49 (0, 0))) := zz (by rw [hb2.block _ HLT.out]; exact HH1.out)
 have H2 := zz (HF.out w2 hb2)
 clear hb2
 have HC2 := zz (line_new B b d _ [mkT cIf, mkT (exV 1 val), mkT cOpen] w2 H2.out (Nat.le_trans HB.out HB2.out.size) (by have := HL.out; rw [catV3]; (try simp only [List.length_append]); omega) (by simp))
 rw [catV3] at HC2
 go_wp2_with fail
 refine HC2.out.mono ?_
 rintro e w3 ⟨rfl, h3, hb3, ho3⟩
 have H3 := zz h3
 have HB3 := zz (HB2.out.trans hb3)
 have HO3 := zz (HO2.out.trans ho3)
 have HH3 := zz (ho3.heap HNE.out (by decide) HH2.out)
 have d3_5 : w3.cell? ⟨w.heap.size, 5, none⟩ = some (.slice no nn nc) := by rw [Lib.cell_of_heap HH3.out]; rfl
 clear h3 hb3 ho3
 have HC3 := zz (HTH.out _ w3 (d + 1) no nn nc H3.out (Nat.le_trans HB.out HB3.out.size) (HP.out.below HB3.out) (StV.below HV.out HB3.out).2.2.1 (StV.below HV.out HB3.out).2.2.2.1 (by have := HL.out; simp only [List.length_append]; omega))
 go_wp2_with fail
 refine HC3.out.mono ?_
 rintro e w4 ⟨rfl, h4, hb4, ho4⟩
 have H4 := zz h4
 have HB4 := zz (HB3.out.trans hb4)
 have HO4 := zz (HO3.out.trans ho4)
 have HH4 := zz (ho4.heap HNE.out (by decide) HH3.out)
 have d4_6 : w4.cell? ⟨w.heap.size, 6, none⟩ = some (.slice eo 0 ec) := by rw [Lib.cell_of_heap HH4.out]; rfl
 clear h4 hb4 ho4
 have HC4 := zz (line_new B b d _ [mkT cEnd] w4 H4.out (Nat.le_trans HB.out HB4.out.size) (by have := HL.out; rw [catV1]; (try simp only [List.length_append]); omega) (by simp))
 rw [catV1] at HC4
 go_wp2_with fail
 refine HC4.out.mono ?_
 rintro e w5 ⟨rfl, h5, hb5, ho5⟩
 have H5 := zz h5
 have HB5 := zz (HB4.out.trans hb5)
 have HO5 := zz (HO4.out.trans ho5)
 have HH5 := zz (ho5.heap HNE.out (by decide) HH4.out)
 clear h5 hb5 ho5
 have HZ : Hid (PC B b (l ++ (lineV d (cIf ++ (exV 1 val ++ cOpen)) ++ (stsV (d + 1) thn ++ lineV d cEnd))) w5) := zz (by
  have h9 := H5.out
  simp only [List.append_assoc] at h9 ⊢
  exact h9)
 go_wp2_with fail
 try simp only [Exit.inBlock, Exit.then]
 go_end0
 exact ⟨rfl, HZ.out, HB5.out, HO5.out⟩
theorem choice_else {B b d : Nat} {at_ : Nat} {tq vq no eo co : Option Addr} {nn nc en ec cn cc : Nat} {name : Lx.B} {dst val : Ex} {thn els : Sts} {cases : Cas} (hTh : StsW B b thn) (hok : ExOk val) (hEl : StsW B b els) (h0 : els.len ≠ 0) (l : List UInt8) (w : World) (h : PC B b l w) (hB : B <= w.heap.size) (hP : PEnv B w) (hv : StV w (fun k => k < B) (.pointer tq) (.pointer vq) (.slice no nn nc) (.slice eo en ec) (.slice co cn cc) dst val thn els cases) (hlen : l.length + (lineV d (cIf ++ (exV 1 val ++ cOpen)) ++ (stsV (d + 1) thn ++ ((lineV d cElse ++ stsV (d + 1) els) ++ lineV d cEnd))).length <= 1000000) :
  Writes B b l (lineV d (cIf ++ (exV 1 val ++ cOpen)) ++ (stsV (d + 1) thn ++ ((lineV d cElse ++ stsV (d + 1) els) ++ lineV d cEnd))) w 127 #[.pointer (some ⟨b, 0, none⟩), .agg #[.int .i64 12, .int .i64 (at_ : Nat), .string (mkT name), .pointer tq, .pointer vq, .slice no nn nc, .slice eo en ec, .slice co cn cc], .int .i64 (d : Nat)] := by
 unfold Writes
 have hbw := fresh_alloc w #[.int .i64 12, .int .i64 (at_ : Nat), .string (mkT name), .pointer tq, .pointer vq, .slice no nn nc, .slice eo en ec, .slice co cn cc] 49
 have hblt := h.1.lt
 have HL : Hid (l.length + ((lineV d (cIf ++ (exV 1 val ++ cOpen))).length + ((stsV (d + 1) thn).length + (((lineV d cElse).length + (stsV (d + 1) els).length) + (lineV d cEnd).length))) <= 1000000) := zz (by simp only [List.length_append] at hlen; simpa only [List.length_append] using hlen)
 have HTH := zz hTh
 have HEL := zz hEl
 have hen : en = els.len := slAt_len hv.2.2.2.2.1
 have hgt : (0 : Int) < (en : Int) := by omega
 have hd : d <= 1000000 := by have := HL.out; simp only [lineV_len] at this; omega
 have hw : IntKind.i64.wrap ((d : Int) + 1) = ((d + 1 : Nat) : Int) := by rw [IntWalk.i64_in _ (by omega)]; omega
 have HB := zz hB
 have HP := zz hP
 have HV := zz hv
 have HB1 := zz (hbw.mono hB)
 have HSZ : Hid (B <= (w.alloc (.cells #[.int .i64 12, .int .i64 (at_ : Nat), .string (mkT name), .pointer tq, .pointer vq, .slice no nn nc, .slice eo en ec, .slice co cn cc] 49)).heap.size) := zz (Nat.le_trans hB hbw.size)
 have HO1 : Hid (Others b w (w.alloc (.cells #[.int .i64 12, .int .i64 (at_ : Nat), .string (mkT name), .pointer tq, .pointer vq, .slice no nn nc, .slice eo en ec, .slice co cn cc] 49))) := zz (Others.of_new hbw)
 have HLT : Hid (w.heap.size < (w.alloc (.cells #[.int .i64 12, .int .i64 (at_ : Nat), .string (mkT name), .pointer tq, .pointer vq, .slice no nn nc, .slice eo en ec, .slice co cn cc] 49)).heap.size) := zz (by rw [alloc_size]; exact Nat.lt_succ_self _)
 have HNE : Hid (w.heap.size ≠ b) := zz (by omega)
 have HH1 : Hid ((w.alloc (.cells #[.int .i64 12, .int .i64 (at_ : Nat), .string (mkT name), .pointer tq, .pointer vq, .slice no nn nc, .slice eo en ec, .slice co cn cc] 49)).heap[w.heap.size]? = some (Obj.cells #[.int .i64 12, .int .i64 (at_ : Nat), .string (mkT name), .pointer tq, .pointer vq, .slice no nn nc, .slice eo en ec, .slice co cn cc] 49 (0, 0))) := zz (heap_alloc_new w _)
 have HT := zz (text_ex val hok (w.alloc (.cells #[.int .i64 12, .int .i64 (at_ : Nat), .string (mkT name), .pointer tq, .pointer vq, .slice no nn nc, .slice eo en ec, .slice co cn cc] 49)) (.pointer vq) (Nat.le_trans hB hbw.size) (hP.below (hbw.mono hB)) (hv.2.1.below (hbw.mono hB)) (by have := HL.out; rw [lineV_len, List.length_append, List.length_append] at this; omega))
 have HF : Hid (∀ V, Below (w.alloc (.cells #[.int .i64 12, .int .i64 (at_ : Nat), .string (mkT name), .pointer tq, .pointer vq, .slice no nn nc, .slice eo en ec, .slice co cn cc] 49)).heap.size (w.alloc (.cells #[.int .i64 12, .int .i64 (at_ : Nat), .string (mkT name), .pointer tq, .pointer vq, .slice no nn nc, .slice eo en ec, .slice co cn cc] 49)) V -> PC B b l V) := zz fun V hV => (h.fresh hbw).fresh hV
 clear h hB hP hv hlen hbw hblt hok hd hTh hEl h0 hen
 go_enter Tryz.func127, Tryz.ntmps127
 go_wp2_with fail
 refine HT.out.mono ?_
 rintro e w2 ⟨rfl, hb2⟩
 have HB2 := zz (HB1.out.trans (hb2.mono HSZ.out))
 have HO2 : Hid (Others b w w2) := zz (HO1.out.trans (Others.of_new hb2))
 have HH2 : Hid (w2.heap[w.heap.size]? = some (Obj.cells #[.int .i64 12, .int .i64 (at_ : Nat), .string (mkT name), .pointer tq, .pointer vq, .slice no nn nc, .slice eo en ec, .slice co cn cc] 49 (0, 0))) := zz (by rw [hb2.block _ HLT.out]; exact HH1.out)
 have H2 := zz (HF.out w2 hb2)
 clear hb2
 have HC2 := zz (line_new B b d _ [mkT cIf, mkT (exV 1 val), mkT cOpen] w2 H2.out (Nat.le_trans HB.out HB2.out.size) (by have := HL.out; rw [catV3]; (try simp only [List.length_append]); omega) (by simp))
 rw [catV3] at HC2
 go_wp2_with fail
 refine HC2.out.mono ?_
 rintro e w3 ⟨rfl, h3, hb3, ho3⟩
 have H3 := zz h3
 have HB3 := zz (HB2.out.trans hb3)
 have HO3 := zz (HO2.out.trans ho3)
 have HH3 := zz (ho3.heap HNE.out (by decide) HH2.out)
 have d3_5 : w3.cell? ⟨w.heap.size, 5, none⟩ = some (.slice no nn nc) := by rw [Lib.cell_of_heap HH3.out]; rfl
 clear h3 hb3 ho3
 have HC3 := zz (HTH.out _ w3 (d + 1) no nn nc H3.out (Nat.le_trans HB.out HB3.out.size) (HP.out.below HB3.out) (StV.below HV.out HB3.out).2.2.1 (StV.below HV.out HB3.out).2.2.2.1 (by have := HL.out; simp only [List.length_append]; omega))
 go_wp2_with fail
 refine HC3.out.mono ?_
 rintro e w4 ⟨rfl, h4, hb4, ho4⟩
 have H4 := zz h4
 have HB4 := zz (HB3.out.trans hb4)
 have HO4 := zz (HO3.out.trans ho4)
 have HH4 := zz (ho4.heap HNE.out (by decide) HH3.out)
 have d4_6 : w4.cell? ⟨w.heap.size, 6, none⟩ = some (.slice eo en ec) := by rw [Lib.cell_of_heap HH4.out]; rfl
 clear h4 hb4 ho4
 have HC4 := zz (line_new B b d _ [mkT cElse] w4 H4.out (Nat.le_trans HB.out HB4.out.size) (by have := HL.out; rw [catV1]; (try simp only [List.length_append]); omega) (by simp))
 rw [catV1] at HC4
 go_wp2_with fail
 refine HC4.out.mono ?_
 rintro e w5 ⟨rfl, h5, hb5, ho5⟩
 have H5 := zz h5
 have HB5 := zz (HB4.out.trans hb5)
 have HO5 := zz (HO4.out.trans ho5)
 have HH5 := zz (ho5.heap HNE.out (by decide) HH4.out)
 have d5_6 : w5.cell? ⟨w.heap.size, 6, none⟩ = some (.slice eo en ec) := by rw [Lib.cell_of_heap HH5.out]; rfl
 clear h5 hb5 ho5
 have HC5 := zz (HEL.out _ w5 (d + 1) eo en ec H5.out (Nat.le_trans HB.out HB5.out.size) (HP.out.below HB5.out) (StV.below HV.out HB5.out).2.2.2.2.1 (StV.below HV.out HB5.out).2.2.2.2.2.1 (by have := HL.out; simp only [List.length_append]; omega))
 go_wp2_with fail
 refine HC5.out.mono ?_
 rintro e w6 ⟨rfl, h6, hb6, ho6⟩
 have H6 := zz h6
 have HB6 := zz (HB5.out.trans hb6)
 have HO6 := zz (HO5.out.trans ho6)
 have HH6 := zz (ho6.heap HNE.out (by decide) HH5.out)
 clear h6 hb6 ho6
 have HC6 := zz (line_new B b d _ [mkT cEnd] w6 H6.out (Nat.le_trans HB.out HB6.out.size) (by have := HL.out; rw [catV1]; (try simp only [List.length_append]); omega) (by simp))
 rw [catV1] at HC6
 go_wp2_with fail
 refine HC6.out.mono ?_
 rintro e w7 ⟨rfl, h7, hb7, ho7⟩
 have H7 := zz h7
 have HB7 := zz (HB6.out.trans hb7)
 have HO7 := zz (HO6.out.trans ho7)
 have HH7 := zz (ho7.heap HNE.out (by decide) HH6.out)
 clear h7 hb7 ho7
 have HZ : Hid (PC B b (l ++ (lineV d (cIf ++ (exV 1 val ++ cOpen)) ++ (stsV (d + 1) thn ++ ((lineV d cElse ++ stsV (d + 1) els) ++ lineV d cEnd)))) w7) := zz (by
  have h9 := H7.out
  simp only [List.append_assoc] at h9 ⊢
  exact h9)
 go_wp2_with fail
 try simp only [Exit.inBlock, Exit.then]
 go_end0
 exact ⟨rfl, HZ.out, HB7.out, HO7.out⟩
theorem stmt_if {B b d : Nat} {at_ : Nat} {tq vq no eo co : Option Addr} {nn nc en ec cn cc : Nat} {name : Lx.B} {dst val : Ex} {thn els : Sts} {cases : Cas} (hTh : StsW B b thn) (hok : ExOk val) (hEl : StsW B b els) (l : List UInt8) (w : World) (h : PC B b l w) (hB : B <= w.heap.size) (hP : PEnv B w) (hv : StV w (fun k => k < B) (.pointer tq) (.pointer vq) (.slice no nn nc) (.slice eo en ec) (.slice co cn cc) dst val thn els cases) (hlen : l.length + (lineV d (cIf ++ (exV 1 val ++ cOpen)) ++ (stsV (d + 1) thn ++ ((if els.len = 0 then [] else lineV d cElse ++ stsV (d + 1) els) ++ lineV d cEnd))).length <= 1000000) :
  Writes B b l (lineV d (cIf ++ (exV 1 val ++ cOpen)) ++ (stsV (d + 1) thn ++ ((if els.len = 0 then [] else lineV d cElse ++ stsV (d + 1) els) ++ lineV d cEnd))) w 97 #[.pointer (some ⟨b, 0, none⟩), .agg #[.int .i64 12, .int .i64 (at_ : Nat), .string (mkT name), .pointer tq, .pointer vq, .slice no nn nc, .slice eo en ec, .slice co cn cc], .int .i64 (d : Nat)] := by
 have hb := fresh_alloc w #[.int .i64 12, .int .i64 (at_ : Nat), .string (mkT name), .pointer tq, .pointer vq, .slice no nn nc, .slice eo en ec, .slice co cn cc] 49
 have HG : Hid (Writes B b l (lineV d (cIf ++ (exV 1 val ++ cOpen)) ++ (stsV (d + 1) thn ++ ((if els.len = 0 then [] else lineV d cElse ++ stsV (d + 1) els) ++ lineV d cEnd))) (w.alloc (.cells #[.int .i64 12, .int .i64 (at_ : Nat), .string (mkT name), .pointer tq, .pointer vq, .slice no nn nc, .slice eo en ec, .slice co cn cc] 49)) 127 #[.pointer (some ⟨b, 0, none⟩), .agg #[.int .i64 12, .int .i64 (at_ : Nat), .string (mkT name), .pointer tq, .pointer vq, .slice no nn nc, .slice eo en ec, .slice co cn cc], .int .i64 (d : Nat)]) := zz (by
  by_cases h0 : els.len = 0
  ·rw [if_pos h0, List.nil_append] at hlen ⊢
   exact choice_if hTh hok h0 l (w.alloc (.cells #[.int .i64 12, .int .i64 (at_ : Nat), .string (mkT name), .pointer tq, .pointer vq, .slice no nn nc, .slice eo en ec, .slice co cn cc] 49)) (h.fresh hb) (Nat.le_trans hB hb.size) (hP.below (hb.mono hB)) (StV.below hv (hb.mono hB)) hlen
  ·rw [if_neg h0] at hlen ⊢
   exact choice_else hTh hok hEl h0 l (w.alloc (.cells #[.int .i64 12, .int .i64 (at_ : Nat), .string (mkT name), .pointer tq, .pointer vq, .slice no nn nc, .slice eo en ec, .slice co cn cc] 49)) (h.fresh hb) (Nat.le_trans hB hb.size) (hP.below (hb.mono hB)) (StV.below hv (hb.mono hB)) hlen)
 obtain ⟨out, hout⟩ : ∃ out, out = lineV d (cIf ++ (exV 1 val ++ cOpen)) ++ (stsV (d + 1) thn ++ ((if els.len = 0 then [] else lineV d cElse ++ stsV (d + 1) els) ++ lineV d cEnd)) := ⟨_, rfl⟩
 rw [<- hout] at HG ⊢
 unfold Writes at HG ⊢
 have HB2 := zz (hb.mono hB)
 have HO2 : Hid (Others b w (w.alloc (.cells #[.int .i64 12, .int .i64 (at_ : Nat), .string (mkT name), .pointer tq, .pointer vq, .slice no nn nc, .slice eo en ec, .slice co cn cc] 49))) := zz (Others.of_new hb)
 clear h hB hP hv hlen hb hok hTh hEl hout
 go_enter Tryz.func97, Tryz.ntmps97
 go_wp2_with fail
 refine HG.out.mono ?_
 rintro e w3 ⟨rfl, h3, hb3, ho3⟩
 have H3 := zz h3
 have HB3 := zz (HB2.out.trans hb3)
 have HO3 := zz (HO2.out.trans ho3)
 clear h3 hb3 ho3
 go_wp2_with fail
 try simp only [Exit.inBlock, Exit.then]
 go_end0
 exact ⟨rfl, H3.out, HB3.out, HO3.out⟩
def Tr.Cas.toList : Cas -> List Ca
 | .nil => []
 | .cons x xs => x :: xs.toList
theorem cas_len : ∀ xs : Cas, xs.toList.length = xs.len
 | .nil => rfl
 | .cons _ xs => congrArg (· + 1) (cas_len xs)
def casL (d : Nat) : List Ca -> Lx.B
 | [] => []
 | x :: xs => caV d x ++ casL d xs
theorem casV_list (d : Nat) : ∀ xs : Cas, casV d xs = casL d xs.toList
 | .nil => by rw [casV]; rfl
 | .cons x xs => by rw [casV, casV_list d xs]; rfl
theorem casL_snoc (d : Nat) : ∀ (l : List Ca) (x : Ca), casL d (l ++ [x]) = casL d l ++ caV d x
 | [], x => by show caV d x ++ [] = [] ++ caV d x; rw [List.append_nil, List.nil_append]
 | y :: l, x => by show caV d y ++ casL d (l ++ [x]) = _; rw [casL_snoc d l x, <- List.append_assoc]; rfl
theorem casL_le (d : Nat) : ∀ (l : List Ca) (k : Nat), (casL d (l.take k)).length <= (casL d l).length
 | [], k => by simp [casL]
 | x :: xs, 0 => Nat.zero_le _
 | x :: xs, k + 1 => by
  show (caV d x ++ casL d (xs.take k)).length <= (caV d x ++ casL d xs).length
  have := casL_le d xs k
  simp only [List.length_append]
  omega
theorem casIn_at {F : Nat -> Prop} {g : Nat} : ∀ (xs : Cas) (i : Nat), CasIn w F g i xs -> ∀ (j : Nat) (x : Ca), xs.toList[j]? = some x -> CaIn w F g ((i + j) * 6) x
 | .nil, _, _, j, x, h => by simp [Tr.Cas.toList] at h
 | .cons y ys, i, ⟨h1, _⟩, 0, x, h => by
  have e : y = x := by simpa [Tr.Cas.toList] using h
  subst e
  exact h1
 | .cons y ys, i, ⟨_, h2⟩, j + 1, x, h => by
  have := casIn_at ys (i + 1) h2 j x (by simpa [Tr.Cas.toList] using h)
  rw [show i + (j + 1) = i + 1 + j by omega]; exact this
def CaW (B b : Nat) : Ca -> Prop
 | .mk _ _ _ dst val body => ExOk dst /\ ExOk val /\ StsW B b body
theorem pchoose_any {B b d : Nat} {at_ : Nat} {tq vq no eo co : Option Addr} {nn nc en ec cn cc : Nat} {name : Lx.B} {dst val : Ex} {thn els : Sts} {cases : Cas} (hA : ∀ x ∈ cases.toList, CaW B b x) (l : List UInt8) (w : World) (h : PC B b l w) (hB : B <= w.heap.size) (hP : PEnv B w) (hv : StV w (fun k => k < B) (.pointer tq) (.pointer vq) (.slice no nn nc) (.slice eo en ec) (.slice co cn cc) dst val thn els cases) (hlen : l.length + (lineV d cSelect ++ (casL d cases.toList ++ lineV d cEnd)).length <= 1000000) :
  Writes B b l (lineV d cSelect ++ (casL d cases.toList ++ lineV d cEnd)) w 128 #[.pointer (some ⟨b, 0, none⟩), .agg #[.int .i64 14, .int .i64 (at_ : Nat), .string (mkT name), .pointer tq, .pointer vq, .slice no nn nc, .slice eo en ec, .slice co cn cc], .int .i64 (d : Nat)] := by
 unfold Writes
 have hbw := fresh_alloc w #[.int .i64 14, .int .i64 (at_ : Nat), .string (mkT name), .pointer tq, .pointer vq, .slice no nn nc, .slice eo en ec, .slice co cn cc] 49
 have hblt := h.1.lt
 have HL : Hid (l.length + ((lineV d cSelect).length + ((casL d cases.toList).length + (lineV d cEnd).length)) <= 1000000) := zz (by rw [List.length_append, List.length_append] at hlen; exact hlen)
 have hd : d <= 1000000 := by have := HL.out; simp only [lineV_len] at this; omega
 have hw : IntKind.i64.wrap ((d : Int) + 1) = ((d + 1 : Nat) : Int) := by rw [IntWalk.i64_in _ (by omega)]; omega
 have hcn : cn = cases.toList.length := by rw [cas_len]; exact slAt_len hv.2.2.2.2.2.2.1
 subst hcn
 have hn0 : cases.toList.length <= 9223372036854775807 := by
  rw [cas_len]
  rcases hv.2.2.2.2.2.2.1 with ⟨_, e2⟩ | ⟨g, cap, _, h1, h2, _⟩
  ·omega
  ·unfold maxLen at h2; omega
 have HA := zz hA
 have HB := zz hB
 have HP := zz hP
 have HG : Hid (∀ k x, cases.toList[k]? = some x -> ∃ g, co = some ⟨g, 0, none⟩ /\ g < B /\ CaIn w (fun k => k < B) g (k * 6) x) := zz fun k x hx => by
  rcases hv.2.2.2.2.2.2.1 with ⟨e, e2⟩ | ⟨g, cap, e, _, _, _, hg⟩
  ·rw [<- cas_len] at e2
   have := List.getElem?_eq_none (l := cases.toList) (i := k) (by omega)
   rw [this] at hx; cases hx
  ·have hst := hv.2.2.2.2.2.2.2 g _ _ e
   injection e with e1 _ _
   refine ⟨g, e1, hg, ?_⟩
   have := casIn_at cases 0 hst k x hx
   rw [Nat.zero_add] at this; exact this
 have HB1 := zz (hbw.mono hB)
 have HO1 : Hid (Others b w (w.alloc (.cells #[.int .i64 14, .int .i64 (at_ : Nat), .string (mkT name), .pointer tq, .pointer vq, .slice no nn nc, .slice eo en ec, .slice co cases.toList.length cc] 49))) := zz (Others.of_new hbw)
 have HNE : Hid (w.heap.size ≠ b) := zz (by omega)
 have HH1 : Hid ((w.alloc (.cells #[.int .i64 14, .int .i64 (at_ : Nat), .string (mkT name), .pointer tq, .pointer vq, .slice no nn nc, .slice eo en ec, .slice co cases.toList.length cc] 49)).heap[w.heap.size]? = some (Obj.cells #[.int .i64 14, .int .i64 (at_ : Nat), .string (mkT name), .pointer tq, .pointer vq, .slice no nn nc, .slice eo en ec, .slice co cases.toList.length cc] 49 (0, 0))) := zz (heap_alloc_new w _)
 have HC1 := zz (line_new B b d l [mkT cSelect] (w.alloc (.cells #[.int .i64 14, .int .i64 (at_ : Nat), .string (mkT name), .pointer tq, .pointer vq, .slice no nn nc, .slice eo en ec, .slice co cases.toList.length cc] 49)) (h.fresh hbw) (Nat.le_trans hB hbw.size) (by have := HL.out; rw [catV1]; omega) (by simp))
 rw [catV1, alloc_size w] at HC1
 clear h hB hP hv hlen hbw hblt hd hA
 go_enter Tryz.func128, Tryz.ntmps128
 go_wp2_with fail
 refine HC1.out.mono ?_
 rintro e w2 ⟨rfl, h2, hb2, ho2⟩
 have H2 := zz h2
 have HB2 := zz (HB1.out.trans hb2)
 have HO2 := zz (HO1.out.trans ho2)
 have hh2 := ho2.heap HNE.out (by decide) HH1.out
 have d2_7 : w2.cell? ⟨w.heap.size, 7, none⟩ = some (.slice co cases.toList.length cc) := by rw [Lib.cell_of_heap hh2]; rfl
 clear h2 hb2 ho2 hh2
 go_wp2_with fail
 go_loopw [15, 7] (fun i _ wr => ∃ k : Nat, k <= cases.toList.length /\ i = .int .i64 k /\ PC B b (l ++ (lineV d cSelect ++ casL d (cases.toList.take k))) wr /\ Below B w wr /\ Others b w wr) (fun i _ _ => cases.toList.length - (intOf i).toNat)
 case atStart => exact ⟨0, Nat.zero_le _, rfl, by rw [List.take_zero]; show PC B b (l ++ (lineV d cSelect ++ [])) w2; rw [List.append_nil]; exact H2.out, HB2.out, HO2.out⟩
 case round =>
  obtain ⟨k, hk, rfl, hp, hb, ho⟩ := hrel
  have HPP := zz hp
  have HBL := zz hb
  have HO := zz ho
  clear hp hb ho d2_7
  by_cases hlt : k < cases.toList.length
  ·obtain ⟨x, hkx⟩ : ∃ x, cases.toList[k]? = some x := ⟨_, List.getElem?_eq_getElem hlt⟩
   obtain ⟨g, rfl, hg, hst⟩ := HG.out k x hkx
   have hmem : x ∈ cases.toList := List.mem_of_getElem? hkx
   have htk : casL d (cases.toList.take (k + 1)) = casL d (cases.toList.take k) ++ caV d x := by rw [List.take_add_one, hkx]; exact casL_snoc d _ x
   have hle := casL_le d cases.toList (k + 1)
   rw [htk, List.length_append] at hle
   have hW := HA.out x hmem
   obtain ⟨code, cat_, cname, cdst, cval, body⟩ := x
   obtain ⟨hok1, hok2, hSW⟩ := hW
   obtain ⟨tv, vv, nv, c0, c1, c2, c3, c4, c5, hv1, hv2, hv3, hv4⟩ := hst
   obtain ⟨ctq, rfl⟩ := exIn_ptr hv1
   obtain ⟨cvq, rfl⟩ := exIn_ptr hv2
   obtain ⟨cbo, cbn, cbc, rfl⟩ := slAt_form hv3
   rw [<- HBL.out.cell (p := ⟨g, k * 6, none⟩) hg] at c0
   rw [<- HBL.out.cell (p := ⟨g, k * 6 + 1, none⟩) hg] at c1
   rw [<- HBL.out.cell (p := ⟨g, k * 6 + 2, none⟩) hg] at c2
   rw [<- HBL.out.cell (p := ⟨g, k * 6 + 3, none⟩) hg] at c3
   rw [<- HBL.out.cell (p := ⟨g, k * 6 + 4, none⟩) hg] at c4
   rw [<- HBL.out.cell (p := ⟨g, k * 6 + 5, none⟩) hg] at c5
   have hcaV : caV d (.mk code cat_ cname cdst cval body) = lineV d (talkV code cname cdst cval ++ cColon) ++ stsV (d + 1) body := by rw [caV]
   rw [hcaV, List.length_append] at hle
   rw [hcaV] at htk
   have hki : (k : Int) < (cases.toList.length : Int) := by omega
   have hkii : (0 : Int) <= (k : Int) /\ (k : Int) < (cases.toList.length : Int) := by omega
   have hw1 : IntKind.i64.wrap ((k : Int) + 1) = (k : Int) + 1 := IntWalk.i64_in _ (by omega)
   have HTK := zz htk
   have HLE : Hid (l.length + ((lineV d cSelect).length + ((casL d (cases.toList.take k)).length + ((lineV d (talkV code cname cdst cval ++ cColon)).length + (stsV (d + 1) body).length))) <= 1000000) := zz (by have := HL.out; omega)
   have hbc := fresh_alloc wr #[.int .i64 (code : Nat), .int .i64 (cat_ : Nat), .string (mkT cname), .pointer ctq, .pointer cvq, .slice cbo cbn cbc] 153
   have hsz := Nat.le_trans HB.out HBL.out.size
   have hbB := HBL.out.trans (hbc.mono hsz)
   have hbltr := HPP.out.1.lt
   have HBc := zz hbB
   have HOc : Hid (Others b w (wr.alloc (.cells #[.int .i64 (code : Nat), .int .i64 (cat_ : Nat), .string (mkT cname), .pointer ctq, .pointer cvq, .slice cbo cbn cbc] 153))) := zz (HO.out.trans (Others.of_new hbc))
   have HTALK := zz (ptalk_any (at_ := (cat_ : Int)) (no := cbo) (nn := cbn) (nc := cbc) (name := cname) (code := code) (wr.alloc (.cells #[.int .i64 (code : Nat), .int .i64 (cat_ : Nat), .string (mkT cname), .pointer ctq, .pointer cvq, .slice cbo cbn cbc] 153)) (Nat.le_trans hsz hbc.size) (HP.out.below hbB) hok1 hok2 (hv1.below hbB) (hv2.below hbB) (by have := HLE.out; have e9 := lineV_len d (talkV code cname cdst cval ++ cColon); rw [List.length_append] at e9; omega))
   have HPc : Hid (∀ V, Below (wr.alloc (.cells #[.int .i64 (code : Nat), .int .i64 (cat_ : Nat), .string (mkT cname), .pointer ctq, .pointer cvq, .slice cbo cbn cbc] 153)).heap.size (wr.alloc (.cells #[.int .i64 (code : Nat), .int .i64 (cat_ : Nat), .string (mkT cname), .pointer ctq, .pointer cvq, .slice cbo cbn cbc] 153)) V -> PC B b (l ++ (lineV d cSelect ++ casL d (cases.toList.take k))) V) := zz fun V hV => (HPP.out.fresh hbc).fresh hV
   have HSZ : Hid (B <= (wr.alloc (.cells #[.int .i64 (code : Nat), .int .i64 (cat_ : Nat), .string (mkT cname), .pointer ctq, .pointer cvq, .slice cbo cbn cbc] 153)).heap.size) := zz (Nat.le_trans hsz hbc.size)
   have HNEc : Hid (wr.heap.size ≠ b) := zz (by omega)
   have HLTc : Hid (wr.heap.size < (wr.alloc (.cells #[.int .i64 (code : Nat), .int .i64 (cat_ : Nat), .string (mkT cname), .pointer ctq, .pointer cvq, .slice cbo cbn cbc] 153)).heap.size) := zz (by rw [alloc_size]; exact Nat.lt_succ_self _)
   have HHc : Hid ((wr.alloc (.cells #[.int .i64 (code : Nat), .int .i64 (cat_ : Nat), .string (mkT cname), .pointer ctq, .pointer cvq, .slice cbo cbn cbc] 153)).heap[wr.heap.size]? = some (Obj.cells #[.int .i64 (code : Nat), .int .i64 (cat_ : Nat), .string (mkT cname), .pointer ctq, .pointer cvq, .slice cbo cbn cbc] 153 (0, 0))) := zz (heap_alloc_new wr _)
   have HSTS : Hid (∀ V (l' : List UInt8), PC B b l' V -> Below B w V -> l'.length + (stsV (d + 1) body).length <= 1000000 -> Writes B b l' (stsV (d + 1) body) V 67 #[.pointer (some ⟨b, 0, none⟩), .slice cbo cbn cbc, .int .i64 ((d + 1 : Nat) : Int)]) := zz fun V l' h1 h2 h3 =>
    hSW l' V (d + 1) cbo cbn cbc h1 (Nat.le_trans HB.out h2.size) (HP.out.below h2) hv3 (fun g' n' cap' e => StsIn.keeps (Keeps.of_below (S := fun k => B <= k) h2 (fun _ _ e => e)) (fun b h1 h2 => by have h3 : b < B := h1; have h4 : B <= b := h2; omega) g' (hv3.mem e) 0 body (hv4 g' n' cap' e)) h3
   clear hkx hg hmem htk hle hv1 hv2 hv3 hv4 hcaV hbc hsz hbB hbltr hok1 hok2 hSW
   go_wp2_with fail
   refine HTALK.out.mono ?_
   rintro e w3 ⟨rfl, hb3⟩
   have H3 := zz (HPc.out w3 hb3)
   have HB3 := zz (HBc.out.trans (hb3.mono HSZ.out))
   have HO3 : Hid (Others b w w3) := zz (HOc.out.trans (Others.of_new hb3))
   have HH3 : Hid (w3.heap[wr.heap.size]? = some (Obj.cells #[.int .i64 (code : Nat), .int .i64 (cat_ : Nat), .string (mkT cname), .pointer ctq, .pointer cvq, .slice cbo cbn cbc] 153 (0, 0))) := zz (by rw [hb3.block _ HLTc.out]; exact HHc.out)
   have HC3 := zz (line_new B b d _ [mkT (talkV code cname cdst cval), mkT cColon] w3 H3.out (Nat.le_trans HB.out HB3.out.size) (by have := HLE.out; rw [catV2]; simp only [List.length_append]; omega) (by simp))
   rw [catV2] at HC3
   clear hb3
   go_wp2_with fail
   refine HC3.out.mono ?_
   rintro e w4 ⟨rfl, h4, hb4, ho4⟩
   have HB4 := zz (HB3.out.trans hb4)
   have HO4 := zz (HO3.out.trans ho4)
   have hh4 := ho4.heap HNEc.out (by decide) HH3.out
   have d4_5 : w4.cell? ⟨wr.heap.size, 5, none⟩ = some (.slice cbo cbn cbc) := by rw [Lib.cell_of_heap hh4]; rfl
   have HC4 := zz (HSTS.out w4 _ h4 HB4.out (by have := HLE.out; simp only [List.length_append]; omega))
   clear h4 hb4 ho4 hh4
   go_wp2_with fail
   refine HC4.out.mono ?_
   rintro e w5 ⟨rfl, h5, hb5, ho5⟩
   have H5 : Hid (PC B b (l ++ (lineV d cSelect ++ casL d (cases.toList.take (k + 1)))) w5) := zz (by
    rw [HTK.out]
    simp only [List.append_assoc] at h5 ⊢
    exact h5)
   have HB5 := zz (HB4.out.trans hb5)
   have HO5 := zz (HO4.out.trans ho5)
   clear h5 hb5 ho5
   go_wp2_with fail
   exact ⟨⟨k + 1, by omega, by simp, H5.out, HB5.out, HO5.out⟩, by simp [intOf]; omega⟩
  ·have hki : ¬ (k : Int) < (cases.toList.length : Int) := by omega
   have hkk : k = cases.toList.length := by omega
   have h1 := HPP.out
   rw [hkk, List.take_length] at h1
   have HC2 := zz (line_new B b d _ [mkT cEnd] wr h1 (Nat.le_trans HB.out HBL.out.size) (by have := HL.out; rw [catV1]; simp only [List.length_append]; omega) (by simp))
   rw [catV1] at HC2
   clear hkk h1
   go_wp2_with fail
   refine HC2.out.mono ?_
   rintro e w3 ⟨rfl, h3, hb3, ho3⟩
   have H3 : Hid (PC B b (l ++ (lineV d cSelect ++ (casL d cases.toList ++ lineV d cEnd))) w3) := zz (by
    simp only [List.append_assoc] at h3 ⊢
    exact h3)
   have HB3 := zz (HBL.out.trans hb3)
   have HO3 := zz (HO.out.trans ho3)
   clear h3 hb3 ho3
   go_wp2_with fail
   try simp only [Exit.inBlock, Exit.then]
   go_end0
   exact ⟨rfl, H3.out, HB3.out, HO3.out⟩
theorem stmt_select {B b d : Nat} {at_ : Nat} {tq vq no eo co : Option Addr} {nn nc en ec cn cc : Nat} {name : Lx.B} {dst val : Ex} {thn els : Sts} {cases : Cas} (hA : ∀ x ∈ cases.toList, CaW B b x) (l : List UInt8) (w : World) (h : PC B b l w) (hB : B <= w.heap.size) (hP : PEnv B w) (hv : StV w (fun k => k < B) (.pointer tq) (.pointer vq) (.slice no nn nc) (.slice eo en ec) (.slice co cn cc) dst val thn els cases) (hlen : l.length + (lineV d cSelect ++ (casL d cases.toList ++ lineV d cEnd)).length <= 1000000) :
  Writes B b l (lineV d cSelect ++ (casL d cases.toList ++ lineV d cEnd)) w 97 #[.pointer (some ⟨b, 0, none⟩), .agg #[.int .i64 14, .int .i64 (at_ : Nat), .string (mkT name), .pointer tq, .pointer vq, .slice no nn nc, .slice eo en ec, .slice co cn cc], .int .i64 (d : Nat)] := by
 have hb := fresh_alloc w #[.int .i64 14, .int .i64 (at_ : Nat), .string (mkT name), .pointer tq, .pointer vq, .slice no nn nc, .slice eo en ec, .slice co cn cc] 49
 have HG : Hid (Writes B b l (lineV d cSelect ++ (casL d cases.toList ++ lineV d cEnd)) (w.alloc (.cells #[.int .i64 14, .int .i64 (at_ : Nat), .string (mkT name), .pointer tq, .pointer vq, .slice no nn nc, .slice eo en ec, .slice co cn cc] 49)) 128 #[.pointer (some ⟨b, 0, none⟩), .agg #[.int .i64 14, .int .i64 (at_ : Nat), .string (mkT name), .pointer tq, .pointer vq, .slice no nn nc, .slice eo en ec, .slice co cn cc], .int .i64 (d : Nat)]) := zz (pchoose_any hA l (w.alloc (.cells #[.int .i64 14, .int .i64 (at_ : Nat), .string (mkT name), .pointer tq, .pointer vq, .slice no nn nc, .slice eo en ec, .slice co cn cc] 49)) (h.fresh hb) (Nat.le_trans hB hb.size) (hP.below (hb.mono hB)) (StV.below hv (hb.mono hB)) hlen)
 obtain ⟨out, hout⟩ : ∃ out, out = lineV d cSelect ++ (casL d cases.toList ++ lineV d cEnd) := ⟨_, rfl⟩
 rw [<- hout] at HG ⊢
 unfold Writes at HG ⊢
 have HB2 := zz (hb.mono hB)
 have HO2 : Hid (Others b w (w.alloc (.cells #[.int .i64 14, .int .i64 (at_ : Nat), .string (mkT name), .pointer tq, .pointer vq, .slice no nn nc, .slice eo en ec, .slice co cn cc] 49))) := zz (Others.of_new hb)
 clear h hB hP hv hlen hb hA hout
 go_enter Tryz.func97, Tryz.ntmps97
 go_wp2_with fail
 refine HG.out.mono ?_
 rintro e w3 ⟨rfl, h3, hb3, ho3⟩
 have H3 := zz h3
 have HB3 := zz (HB2.out.trans hb3)
 have HO3 := zz (HO2.out.trans ho3)
 clear h3 hb3 ho3
 go_wp2_with fail
 try simp only [Exit.inBlock, Exit.then]
 go_end0
 exact ⟨rfl, H3.out, HB3.out, HO3.out⟩
theorem stmt_other {B b d code : Nat} (hc : code = 0 \/ 14 < code) {at_ : Nat} {tq vq no eo co : Option Addr} {nn nc en ec cn cc : Nat} {name : Lx.B} (l : List UInt8) (w : World) (h : PC B b l w) (hB : B <= w.heap.size) :
  Writes B b l [] w 97 #[.pointer (some ⟨b, 0, none⟩), .agg #[.int .i64 (code : Nat), .int .i64 (at_ : Nat), .string (mkT name), .pointer tq, .pointer vq, .slice no nn nc, .slice eo en ec, .slice co cn cc], .int .i64 (d : Nat)] := by
 unfold Writes
 rw [List.append_nil]
 have hb := fresh_alloc w #[.int .i64 (code : Nat), .int .i64 (at_ : Nat), .string (mkT name), .pointer tq, .pointer vq, .slice no nn nc, .slice eo en ec, .slice co cn cc] 49
 have H := zz (h.fresh hb)
 have HB2 := zz (hb.mono hB)
 have HO2 : Hid (Others b w (w.alloc (.cells #[.int .i64 (code : Nat), .int .i64 (at_ : Nat), .string (mkT name), .pointer tq, .pointer vq, .slice no nn nc, .slice eo en ec, .slice co cn cc] 49))) := zz (Others.of_new hb)
 have e1 : ((code : Int) == 1) = false := beq_eq_false_iff_ne.2 (by omega)
 have e2 : ((code : Int) == 2) = false := beq_eq_false_iff_ne.2 (by omega)
 have e3 : ((code : Int) == 3) = false := beq_eq_false_iff_ne.2 (by omega)
 have e4 : ((code : Int) == 4) = false := beq_eq_false_iff_ne.2 (by omega)
 have e5 : ((code : Int) == 5) = false := beq_eq_false_iff_ne.2 (by omega)
 have e6 : ((code : Int) == 6) = false := beq_eq_false_iff_ne.2 (by omega)
 have e7 : ((code : Int) == 7) = false := beq_eq_false_iff_ne.2 (by omega)
 have e8 : ((code : Int) == 8) = false := beq_eq_false_iff_ne.2 (by omega)
 have e9 : ((code : Int) == 9) = false := beq_eq_false_iff_ne.2 (by omega)
 have e10 : ((code : Int) == 10) = false := beq_eq_false_iff_ne.2 (by omega)
 have e11 : ((code : Int) == 11) = false := beq_eq_false_iff_ne.2 (by omega)
 have e12 : ((code : Int) == 12) = false := beq_eq_false_iff_ne.2 (by omega)
 have e13 : ((code : Int) == 13) = false := beq_eq_false_iff_ne.2 (by omega)
 have e14 : ((code : Int) == 14) = false := beq_eq_false_iff_ne.2 (by omega)
 clear h hb hB hc
 go_enter Tryz.func97, Tryz.ntmps97
 go_wp2_with fail
 try simp only [Exit.inBlock, Exit.then]
 go_end0
 exact ⟨rfl, H.out, HB2.out, HO2.out⟩
mutual
theorem st_all {B b : Nat} : ∀ s : St, StOk s -> StW B b s
 | .mk code at_ name dst val thn els cases, hok => by
  obtain ⟨hokd, hokv, hokt, hoke, hokc⟩ := hok
  have hTh := stmts_any thn (sts_all (B := B) (b := b) thn hokt)
  have hEl := stmts_any els (sts_all (B := B) (b := b) els hoke)
  have hCa := cas_all (B := B) (b := b) cases hokc
  intro l w d tq vq no eo co nn nc en ec cn cc h hB hP hv hlen
  by_cases h1 : code = 1
  ·subst h1
   have e : stV d (.mk 1 at_ name dst val thn els cases) = lineV d (name ++ (cLet ++ exV 1 val)) := by rw [stV]; rfl
   rw [e] at hlen ⊢
   exact stmt_let l w h hB hP hokv hv.2.1 hlen
  by_cases h2 : code = 2
  ·subst h2
   have e : stV d (.mk 2 at_ name dst val thn els cases) = lineV d (name ++ (cSet ++ exV 1 val)) := by rw [stV]; rfl
   rw [e] at hlen ⊢
   exact stmt_set l w h hB hP hokv hv.2.1 hlen
  by_cases h3 : code = 3
  ·subst h3
   have e : stV d (.mk 3 at_ name dst val thn els cases) = lineV d (sentV dst val) := by rw [stV]; rfl
   rw [e] at hlen ⊢
   exact stmt_send l w h hB hP hokd hokv hv.1 hv.2.1 hlen
  by_cases h4 : code = 4
  ·subst h4
   have e : stV d (.mk 4 at_ name dst val thn els cases) = lineV d (cClose ++ (exV 1 val ++ cRp)) := by rw [stV]; rfl
   rw [e] at hlen ⊢
   exact stmt_close l w h hB hP hokv hv.2.1 hlen
  by_cases h5 : code = 5
  ·subst h5
   have e : stV d (.mk 5 at_ name dst val thn els cases) = lineV d (cPrint ++ exV 1 val) := by rw [stV]; rfl
   rw [e] at hlen ⊢
   exact stmt_print l w h hB hP hokv hv.2.1 hlen
  by_cases h6 : code = 6
  ·subst h6
   have e : stV d (.mk 6 at_ name dst val thn els cases) = lineV d (cSleep ++ exV 1 val) := by rw [stV]; rfl
   rw [e] at hlen ⊢
   exact stmt_sleep l w h hB hP hokv hv.2.1 hlen
  by_cases h7 : code = 7
  ·subst h7
   have e : stV d (.mk 7 at_ name dst val thn els cases) = lineV d (cGo ++ exV 1 val) := by rw [stV]; rfl
   rw [e] at hlen ⊢
   exact stmt_go l w h hB hP hokv hv.2.1 hlen
  by_cases h8 : code = 8
  ·subst h8
   have e : stV d (.mk 8 at_ name dst val thn els cases) = giveV d val := by rw [stV]; rfl
   rw [e] at hlen ⊢
   exact stmt_return l w h hB hP hokv hv.2.1 hlen
  by_cases h9 : code = 9
  ·subst h9
   have e : stV d (.mk 9 at_ name dst val thn els cases) = lineV d cBreak := by rw [stV]; rfl
   rw [e] at hlen ⊢
   exact stmt_break l w h hB hlen
  by_cases h10 : code = 10
  ·subst h10
   have e : stV d (.mk 10 at_ name dst val thn els cases) = lineV d cContinue := by rw [stV]; rfl
   rw [e] at hlen ⊢
   exact stmt_continue l w h hB hlen
  by_cases h11 : code = 11
  ·subst h11
   have e : stV d (.mk 11 at_ name dst val thn els cases) = lineV d (exV 1 val) := by rw [stV]; rfl
   rw [e] at hlen ⊢
   exact stmt_do l w h hB hP hokv hv.2.1 hlen
  by_cases h12 : code = 12
  ·subst h12
   have e : stV d (.mk 12 at_ name dst val thn els cases) = lineV d (cIf ++ (exV 1 val ++ cOpen)) ++ (stsV (d + 1) thn ++ ((if els.len = 0 then [] else lineV d cElse ++ stsV (d + 1) els) ++ lineV d cEnd)) := by rw [stV]; rfl
   rw [e] at hlen ⊢
   exact stmt_if hTh hokv hEl l w h hB hP hv hlen
  by_cases h13 : code = 13
  ·subst h13
   have e : stV d (.mk 13 at_ name dst val thn els cases) = lineV d (cFor ++ (exV 1 val ++ cOpen)) ++ (stsV (d + 1) thn ++ lineV d cEnd) := by rw [stV]; rfl
   rw [e] at hlen ⊢
   exact stmt_for hTh hokv l w h hB hP hv hlen
  by_cases h14 : code = 14
  ·subst h14
   have e : stV d (.mk 14 at_ name dst val thn els cases) = lineV d cSelect ++ (casL d cases.toList ++ lineV d cEnd) := by rw [stV, casV_list]; rfl
   rw [e] at hlen ⊢
   exact stmt_select hCa l w h hB hP hv hlen
  ·have e : stV d (.mk code at_ name dst val thn els cases) = [] := by rw [stV, if_neg h1, if_neg h2, if_neg h3, if_neg h4, if_neg h5, if_neg h6, if_neg h7, if_neg h8, if_neg h9, if_neg h10, if_neg h11, if_neg h12, if_neg h13, if_neg h14]
   rw [e]
   exact stmt_other (by omega) l w h hB
theorem sts_all {B b : Nat} : ∀ xs : Sts, StsOk xs -> ∀ x ∈ xs.toList, StW B b x
 | .nil, _, x, hx => by cases hx
 | .cons y ys, h, x, hx => by
  rcases List.mem_cons.1 hx with e | e
  ·rw [e]; exact st_all y h.1
  ·exact sts_all ys h.2 x e
theorem ca_all {B b : Nat} : ∀ c : Ca, CaOk c -> CaW B b c
 | .mk _ _ _ _ _ body, h => ⟨h.1, h.2.1, stmts_any body (sts_all body h.2.2)⟩
theorem cas_all {B b : Nat} : ∀ xs : Cas, CasOk xs -> ∀ x ∈ xs.toList, CaW B b x
 | .nil, _, x, hx => by cases hx
 | .cons y ys, h, x, hx => by
  rcases List.mem_cons.1 hx with e | e
  ·rw [e]; exact ca_all y h.1
  ·exact cas_all ys h.2 x e
end
theorem stsW_all {B b : Nat} (xs : Sts) (h : StsOk xs) : StsW B b xs := stmts_any xs (sts_all xs h)
def cFunc : Lx.B := [102, 117, 110, 99, 32]
def paV (p : Pa) : Lx.B := p.name ++ ([32] ++ kindB p.kind)
def parL : Bool -> List Pa -> Lx.B
 | _, [] => []
 | f, x :: xs => (if f then [] else [44, 32]) ++ (paV x ++ parL false xs)
theorem parL_snoc : ∀ (l : List Pa) (f : Bool) (x : Pa), parL f (l ++ [x]) = parL f l ++ ((if f = true /\ l = [] then [] else [44, 32]) ++ paV x)
 | [], f, x => by
  show (if f then [] else [44, 32]) ++ (paV x ++ []) = [] ++ _
  cases f <;> simp
 | y :: l, f, x => by
  show (if f then [] else [44, 32]) ++ (paV y ++ parL false (l ++ [x])) = ((if f then [] else [44, 32]) ++ (paV y ++ parL false l)) ++ _
  rw [parL_snoc l false x, if_neg (show ¬ (false = true /\ l = []) from fun e => by cases e.1), if_neg (show ¬ (f = true /\ y :: l = []) from fun e => by cases e.2)]
  simp only [List.append_assoc]
theorem parL_le : ∀ (l : List Pa) (k : Nat) (f : Bool), (parL f (l.take k)).length <= (parL f l).length
 | [], k, f => by simp [parL]
 | x :: xs, 0, f => Nat.zero_le _
 | x :: xs, k + 1, f => by
  show ((if f then [] else [44, 32]) ++ (paV x ++ parL false (xs.take k))).length <= ((if f then [] else [44, 32]) ++ (paV x ++ parL false xs)).length
  have := parL_le xs k false
  simp only [List.length_append]
  omega
def fuV (g : Fu) : Lx.B := (cFunc ++ (g.name ++ [40])) ++ (parL true g.params ++ ([41, 32] ++ ((if g.kind = 0 then [] else kindB g.kind ++ [32]) ++ ([123, 10] ++ (stsV 1 g.body ++ lineV 0 cEnd)))))
theorem pfunction_any {B b : Nat} {g : Fu} {po bo : Option Addr} {pc bn bc : Nat} (hok : StsOk g.body) (l : List UInt8) (w : World) (h : PC B b l w) (hB : B <= w.heap.size) (hP : PEnv B w) (hpar : PaRow w (fun k => k < B) (.slice po g.params.length pc) g.params) (hbl : SlAt (fun k => k < B) (.slice bo bn bc) g.body.len) (hbi : ∀ g' n' cap, Value.slice bo bn bc = .slice (some ⟨g', 0, none⟩) n' cap -> StsIn w (fun k => k < B) g' 0 g.body) (hlen : l.length + (fuV g).length <= 1000000) :
    Writes B b l (fuV g) w 36 #[.pointer (some ⟨b, 0, none⟩), .agg #[.string (mkT g.name), .int .i64 (g.at_ : Nat), .slice po g.params.length pc, .int .i64 (g.kind : Nat), .slice bo bn bc]] := by
  unfold Writes
  have hbw := fresh_alloc w #[.string (mkT g.name), .int .i64 (g.at_ : Nat), .slice po g.params.length pc, .int .i64 (g.kind : Nat), .slice bo bn bc] 45
  have hblt := h.1.lt
  have HL : Hid (l.length + ((cFunc ++ (g.name ++ [40])).length + ((parL true g.params).length + (2 + ((if g.kind = 0 then [] else kindB g.kind ++ [32]).length + (2 + ((stsV 1 g.body).length + (lineV 0 cEnd).length)))))) <= 1000000) := zz (by
    unfold fuV at hlen
    simp only [List.length_append, List.length_cons, List.length_nil] at hlen ⊢
    omega)
  have hn0 : g.params.length <= 9223372036854775807 := by
    rcases hpar with ⟨_, e2⟩ | ⟨g', cap, _, h1, h2, _⟩
    · rw [e2]; exact Nat.zero_le _
    · unfold maxLen at h2; omega
  have HB := zz hB
  have HP := zz hP
  have HG : Hid (∀ k x, g.params[k]? = some x -> ∃ g', po = some ⟨g', 0, none⟩ /\ g' < B /\ w.cell? ⟨g', k * 3, none⟩ = some (.string (mkT x.name)) /\ w.cell? ⟨g', k * 3 + 1, none⟩ = some (.int .i64 (x.kind : Nat)) /\ w.cell? ⟨g', k * 3 + 2, none⟩ = some (.int .i64 (x.at_ : Nat))) := zz fun k x hx => by
    rcases hpar with ⟨_, e2⟩ | ⟨g', cap, e, _, _, hg, _, h6⟩
    · rw [e2] at hx; cases hx
    · injection e with e1 _ _
      exact ⟨g', e1, hg, h6 k x hx⟩
  have HST : Hid (∀ V l', PC B b l' V -> Below B w V -> l'.length + (stsV 1 g.body).length <= 1000000 -> Writes B b l' (stsV 1 g.body) V 67 #[.pointer (some ⟨b, 0, none⟩), .slice bo bn bc, .int .i64 ((1 : Nat) : Int)]) := zz fun V l' h1 h2 h3 =>
    stsW_all g.body hok l' V 1 bo bn bc h1 (Nat.le_trans hB h2.size) (hP.below h2) hbl (fun g' n' cap' e => StsIn.keeps (Keeps.of_below (S := fun k => B <= k) h2 (fun _ _ e => e)) (fun b h1 h2 => by have h3 : b < B := h1; have h4 : B <= b := h2; omega) g' (hbl.mem e) 0 g.body (hbi g' n' cap' e)) h3
  have HB1 := zz (hbw.mono hB)
  have HO1 : Hid (Others b w (w.alloc (.cells #[.string (mkT g.name), .int .i64 (g.at_ : Nat), .slice po g.params.length pc, .int .i64 (g.kind : Nat), .slice bo bn bc] 45))) := zz (Others.of_new hbw)
  have HNE : Hid (w.heap.size ≠ b) := zz (by omega)
  have HH1 : Hid ((w.alloc (.cells #[.string (mkT g.name), .int .i64 (g.at_ : Nat), .slice po g.params.length pc, .int .i64 (g.kind : Nat), .slice bo bn bc] 45)).heap[w.heap.size]? = some (Obj.cells #[.string (mkT g.name), .int .i64 (g.at_ : Nat), .slice po g.params.length pc, .int .i64 (g.kind : Nat), .slice bo bn bc] 45 (0, 0))) := zz (heap_alloc_new w _)
  have hcat : catV [mkT cFunc, mkT g.name, mkT [40]] = (cFunc ++ (g.name ++ [40])) := catV3 _ _ _
  have HC1 := zz (put_new B b l [mkT cFunc, mkT g.name, mkT [40]] (w.alloc (.cells #[.string (mkT g.name), .int .i64 (g.at_ : Nat), .slice po g.params.length pc, .int .i64 (g.kind : Nat), .slice bo bn bc] 45)) (h.fresh hbw) (Nat.le_trans hB hbw.size) (by have := HL.out; rw [hcat]; omega) (by simp))
  rw [hcat, alloc_size w] at HC1
  clear h hB hP hpar hbl hbi hlen hbw hblt hok hcat
  go_enter Tryz.func36, Tryz.ntmps36
  go_wp2_with fail
  refine HC1.out.mono ?_
  rintro e w2 ⟨rfl, h2, hb2, ho2⟩
  have H2 := zz h2
  have HB2 := zz (HB1.out.trans hb2)
  have HO2 := zz (HO1.out.trans ho2)
  have HH2 := zz (ho2.heap HNE.out (by decide) HH1.out)
  clear h2 hb2 ho2
  have d2 : w2.cell? ⟨w.heap.size, 2, none⟩ = some (.slice po g.params.length pc) := by rw [Lib.cell_of_heap HH2.out]; rfl
  go_wp2_with fail
  clear d2
  go_loopw [14, 4, 5] (fun i _ _ wr => ∃ k : Nat, k <= g.params.length /\ i = .int .i64 k /\ PC B b (l ++ ((cFunc ++ (g.name ++ [40])) ++ parL true (g.params.take k))) wr /\ Below B w wr /\ Others b w wr /\ wr.heap[w.heap.size]? = some (Obj.cells #[.string (mkT g.name), .int .i64 (g.at_ : Nat), .slice po g.params.length pc, .int .i64 (g.kind : Nat), .slice bo bn bc] 45 (0, 0))) (fun i _ _ _ => g.params.length - (intOf i).toNat)
  case atStart => exact ⟨0, Nat.zero_le _, rfl, by rw [List.take_zero]; show PC B b (l ++ ((cFunc ++ (g.name ++ [40])) ++ [])) w2; rw [List.append_nil]; exact H2.out, HB2.out, HO2.out, HH2.out⟩
  case round =>
    obtain ⟨k, hk, rfl, hp, hb, ho, hh⟩ := hrel
    have HHF := zz hh
    have HPP := zz hp
    have HBL := zz hb
    have HO := zz ho
    clear hp hb ho hh
    by_cases hlt : k < g.params.length
    · obtain ⟨p, hkx⟩ : ∃ x, g.params[k]? = some x := ⟨_, List.getElem?_eq_getElem hlt⟩
      obtain ⟨g', rfl, hg, c0, c1, c2⟩ := HG.out k p hkx
      have hki : (k : Int) < (g.params.length : Int) := by omega
      have hkii : (0 : Int) <= (k : Int) /\ (k : Int) < (g.params.length : Int) := by omega
      have hw : IntKind.i64.wrap ((k : Int) + 1) = (k : Int) + 1 := IntWalk.i64_in _ (by omega)
      have hAT : parL true (g.params.take (k + 1)) = parL true (g.params.take k) ++ ((if k = 0 then [] else [44, 32]) ++ paV p) := by
        rw [List.take_add_one, hkx, Option.toList_some, parL_snoc]
        by_cases hk0 : k = 0
        · rw [if_pos hk0, if_pos ⟨rfl, by rw [hk0, List.take_zero]⟩]
        · rw [if_neg hk0, if_neg (fun e => hk0 (by have h7 := congrArg List.length e.2; rw [List.length_take] at h7; have h8 : min k g.params.length = 0 := h7; omega))]
      have hle := parL_le g.params (k + 1) true
      rw [hAT, List.length_append, List.length_append] at hle
      rw [<- HBL.out.cell (p := ⟨g', k * 3, none⟩) hg] at c0
      rw [<- HBL.out.cell (p := ⟨g', k * 3 + 1, none⟩) hg] at c1
      rw [<- HBL.out.cell (p := ⟨g', k * 3 + 2, none⟩) hg] at c2
      have HAT := zz hAT
      have HLE : Hid (l.length + ((cFunc ++ (g.name ++ [40])).length + ((parL true (g.params.take k)).length + ((if k = 0 then [] else [44, 32] : List UInt8).length + (paV p).length))) <= 1000000) := zz (by have := HL.out; omega)
      have hbc := fresh_alloc wr #[.string (mkT p.name), .int .i64 (p.kind : Nat), .int .i64 (p.at_ : Nat)] 85
      have hsz := Nat.le_trans HB.out HBL.out.size
      have hbB := HBL.out.trans (hbc.mono hsz)
      have hbltr := HPP.out.1.lt
      have HBc := zz hbB
      have HOc : Hid (Others b w (wr.alloc (.cells #[.string (mkT p.name), .int .i64 (p.kind : Nat), .int .i64 (p.at_ : Nat)] 85))) := zz (HO.out.trans (Others.of_new hbc))
      have HHc : Hid ((wr.alloc (.cells #[.string (mkT p.name), .int .i64 (p.kind : Nat), .int .i64 (p.at_ : Nat)] 85)).heap[wr.heap.size]? = some (Obj.cells #[.string (mkT p.name), .int .i64 (p.kind : Nat), .int .i64 (p.at_ : Nat)] 85 (0, 0))) := zz (heap_alloc_new wr _)
      have HHFc : Hid ((wr.alloc (.cells #[.string (mkT p.name), .int .i64 (p.kind : Nat), .int .i64 (p.at_ : Nat)] 85)).heap[w.heap.size]? = some (Obj.cells #[.string (mkT g.name), .int .i64 (g.at_ : Nat), .slice (some ⟨g', 0, none⟩) g.params.length pc, .int .i64 (g.kind : Nat), .slice bo bn bc] 45 (0, 0))) := zz (by rw [Below.heap_alloc _ _ _ (Array.getElem?_eq_some_iff.1 HHF.out).1]; exact HHF.out)
      have HNEc : Hid (wr.heap.size ≠ b) := zz (by omega)
      have HPc : Hid (PC B b (l ++ ((cFunc ++ (g.name ++ [40])) ++ parL true (g.params.take k))) (wr.alloc (.cells #[.string (mkT p.name), .int .i64 (p.kind : Nat), .int .i64 (p.at_ : Nat)] 85))) := zz (HPP.out.fresh hbc)
      have HK0 : Hid (decide ((0 : Int) < (k : Int)) = decide (k ≠ 0)) := zz (by by_cases hk0 : k = 0 <;> simp [hk0]; omega)
      have HEND : Hid (∀ V : World, PC B b (l ++ ((cFunc ++ (g.name ++ [40])) ++ (parL true (g.params.take k) ++ (if k = 0 then [] else [44, 32])))) V -> Below B w V ->
          Calls Tryz.prog 65 #[.pointer (some ⟨b, 0, none⟩), .slice (some ⟨V.heap.size, 0, none⟩) [mkT p.name, mkT [32], mkT (kindB p.kind)].length [mkT p.name, mkT [32], mkT (kindB p.kind)].length] (V.alloc (.cells ([mkT p.name, mkT [32], mkT (kindB p.kind)].map Value.string).toArray 9)) fun e w' => e = .returned (.tuple #[]) /\ PC B b (l ++ ((cFunc ++ (g.name ++ [40])) ++ parL true (g.params.take (k + 1)))) w' /\ Below B V w' /\ Others b V w') := zz fun V h1 h2 => by
        refine (put_new B b _ [mkT p.name, mkT [32], mkT (kindB p.kind)] V h1 (Nat.le_trans HB.out h2.size) (by have := HLE.out; rw [catV3]; unfold paV at this; simp only [List.length_append] at this ⊢; omega) (by simp)).mono ?_
        rintro e w' ⟨rfl, a1, a2, a3⟩
        refine ⟨rfl, ?_, a2, a3⟩
        rw [catV3] at a1
        have e : l ++ ((cFunc ++ (g.name ++ [40])) ++ parL true (g.params.take (k + 1))) = l ++ ((cFunc ++ (g.name ++ [40])) ++ (parL true (g.params.take k) ++ (if k = 0 then [] else [44, 32]))) ++ (p.name ++ ([32] ++ kindB p.kind)) := by
          rw [HAT.out]; unfold paV; simp only [List.append_assoc]
        rw [e]; exact a1
      clear hkx hg hAT hle hbc hsz hbB hbltr HAT
      by_cases hk0 : k = 0
      · have hgt : ¬ (0 : Int) < (k : Int) := by omega
        have hPc' : PC B b (l ++ ((cFunc ++ (g.name ++ [40])) ++ (parL true (g.params.take k) ++ (if k = 0 then [] else [44, 32])))) (wr.alloc (.cells #[.string (mkT p.name), .int .i64 (p.kind : Nat), .int .i64 (p.at_ : Nat)] 85)) := by rw [if_pos hk0, List.append_nil]; exact HPc.out
        have HPc' := zz hPc'
        clear hk0 hPc'
        go_wp2_with fail
        have HB8 : Hid (Below B w (wr.alloc (.cells #[.string (mkT p.name), .int .i64 (p.kind : Nat), .int .i64 (p.at_ : Nat)] 85)).drew) := zz (HBc.out.trans (Below.drew (Below.refl _ _)))
        have HO8 : Hid (Others b w (wr.alloc (.cells #[.string (mkT p.name), .int .i64 (p.kind : Nat), .int .i64 (p.at_ : Nat)] 85)).drew) := zz (HOc.out.trans (Others.of_new (Below.drew (Below.refl _ _))))
        have HH8 : Hid ((wr.alloc (.cells #[.string (mkT p.name), .int .i64 (p.kind : Nat), .int .i64 (p.at_ : Nat)] 85)).drew.heap[wr.heap.size]? = some (Obj.cells #[.string (mkT p.name), .int .i64 (p.kind : Nat), .int .i64 (p.at_ : Nat)] 85 (0, 0))) := zz HHc.out
        have HHF8 : Hid ((wr.alloc (.cells #[.string (mkT p.name), .int .i64 (p.kind : Nat), .int .i64 (p.at_ : Nat)] 85)).drew.heap[w.heap.size]? = some (Obj.cells #[.string (mkT g.name), .int .i64 (g.at_ : Nat), .slice (some ⟨g', 0, none⟩) g.params.length pc, .int .i64 (g.kind : Nat), .slice bo bn bc] 45 (0, 0))) := zz HHFc.out
        have HLT8 : Hid (wr.heap.size < (wr.alloc (.cells #[.string (mkT p.name), .int .i64 (p.kind : Nat), .int .i64 (p.at_ : Nat)] 85)).drew.heap.size) := zz (Array.getElem?_eq_some_iff.1 HH8.out).1
        have HCL : Hid (∀ V : World, V.heap[wr.heap.size]? = some (Obj.cells #[.string (mkT p.name), .int .i64 (p.kind : Nat), .int .i64 (p.at_ : Nat)] 85 (0, 0)) -> V.cell? ⟨wr.heap.size, 0, none⟩ = some (.string (mkT p.name)) /\ V.cell? ⟨wr.heap.size, 1, none⟩ = some (.int .i64 (p.kind : Nat))) := zz fun V hV => ⟨by rw [Lib.cell_of_heap hV]; rfl, by rw [Lib.cell_of_heap hV]; rfl⟩
        have HKT := zz (kindText_any p.kind (wr.alloc (.cells #[.string (mkT p.name), .int .i64 (p.kind : Nat), .int .i64 (p.at_ : Nat)] 85)).drew (HP.out.below HB8.out).kinds)
        have HE := zz (HEND.out (wr.alloc (.cells #[.string (mkT p.name), .int .i64 (p.kind : Nat), .int .i64 (p.at_ : Nat)] 85)).drew (HPc'.out.fresh (Below.drew (Below.refl _ _))) HB8.out)
        refine wp_region_held_drew (S := (fun W' : World => W'.cell? ⟨wr.heap.size, 0, none⟩ = some (.string (mkT p.name)) /\ W'.cell? ⟨wr.heap.size, 1, none⟩ = some (.int .i64 (p.kind : Nat)))) (by kernel_rfl) (HCL.out _ HH8.out) (fun hHeld => ?_)
        generalize (wr.alloc (.cells #[.string (mkT p.name), .int .i64 (p.kind : Nat), .int .i64 (p.at_ : Nat)] 85)).drew = V8 at *
        refine tk 0 24 (.pointer (some ⟨b, 0, none⟩)) rfl (.inl ⟨by rfl, ?_⟩) hHeld ?_
        ·intro W9 hSW; (try dsimp only at hSW); go_simp
        try simp only [Act.put, List.setIfInBounds_toArray, List.set_cons_zero, List.set_cons_succ]
        refine tk 1 25 (.pointer (some ⟨wr.heap.size, 0, none⟩)) rfl (.inl ⟨by rfl, ?_⟩) hHeld ?_
        ·intro W9 hSW; (try dsimp only at hSW); go_simp
        try simp only [Act.put, List.setIfInBounds_toArray, List.set_cons_zero, List.set_cons_succ]
        refine tk 2 26 (.string (mkT p.name)) rfl (.inl ⟨by rfl, ?_⟩) hHeld ?_
        ·intro W9 hSW; (try dsimp only at hSW); go_simp
        try simp only [Act.put, List.setIfInBounds_toArray, List.set_cons_zero, List.set_cons_succ]
        refine tk 3 27 (.pointer (some ⟨wr.heap.size, 1, none⟩)) rfl (.inl ⟨by rfl, ?_⟩) hHeld ?_
        ·intro W9 hSW; (try dsimp only at hSW); go_simp
        try simp only [Act.put, List.setIfInBounds_toArray, List.set_cons_zero, List.set_cons_succ]
        refine tk 4 28 (.int .i64 (p.kind : Nat)) rfl (.inl ⟨by rfl, ?_⟩) hHeld ?_
        ·intro W9 hSW; (try dsimp only at hSW); go_simp
        try simp only [Act.put, List.setIfInBounds_toArray, List.set_cons_zero, List.set_cons_succ]
        refine wpAnyH_ready (rs := [5]) (by kernel_rfl) (by simp) ?_
        refine AllReadyH.cons (o := { dst := some 29, op := _, type := _, pos := _, after := _, guard := _ }) rfl (fun K hK => ?_) AllReadyH.nil
        go_simp
        go_at_call 66
        refine HKT.out.mono ?_
        rintro e w9 ⟨rfl, rfl⟩
        refine hK.out _ _ hHeld (fun hHeld => ?_)
        clear hK K
        refine wpAnyH_ready (rs := [6]) (by kernel_rfl) (by simp) ?_
        refine AllReadyH.cons (o := { dst := some 30, op := _, type := _, pos := _, after := _, guard := _ }) rfl (fun K hK => ?_) AllReadyH.nil
        go_simp
        refine hK.out _ _ (HCL.out _ (by rw [Below.heap_alloc _ _ _ HLT8.out]; exact HH8.out)) (fun hHeld => ?_)
        clear hK K
        refine wpAnyH_ready (rs := [7]) (by kernel_rfl) (by simp) ?_
        refine AllReadyH.cons (o := { dst := some 31, op := _, type := _, pos := _, after := _, guard := _ }) rfl (fun K hK => ?_) AllReadyH.nil
        go_simp
        go_at_call 65
        refine HE.out.mono ?_
        rintro e w9 ⟨rfl, h9, hb9, ho9⟩
        have H9 := zz h9
        have HB9 := zz (HB8.out.trans hb9)
        have HO9 := zz (HO8.out.trans ho9)
        have HH9 := zz (ho9.heap HNEc.out (by decide) HH8.out)
        have HHF9 := zz (ho9.heap HNE.out (by decide) HHF8.out)
        clear h9 hb9 ho9
        refine hK.out _ _ (HCL.out _ HH9.out) (fun hHeld => ?_)
        clear hK K
        refine wpAnyH_done (by kernel_rfl) ?_ _
        go_wp2_with fail
        exact ⟨⟨k + 1, by omega, by simp, H9.out, HB9.out, HO9.out, HHF9.out⟩, by simp [intOf]; omega⟩
      · have hgt : (0 : Int) < (k : Int) := by omega
        have HPUT := zz (put_new B b _ [mkT [44, 32]] (wr.alloc (.cells #[.string (mkT p.name), .int .i64 (p.kind : Nat), .int .i64 (p.at_ : Nat)] 85)) HPc.out (Nat.le_trans HB.out HBc.out.size) (by have := HLE.out; rw [if_neg hk0] at this; rw [catV1]; simp only [List.length_append, List.length_cons, List.length_nil] at this ⊢; omega) (by simp))
        rw [catV1, alloc_size wr] at HPUT
        have HK := zz hk0
        clear hk0
        go_wp2_with fail
        refine HPUT.out.mono ?_
        rintro e w4 ⟨rfl, h4, hb4, ho4⟩
        have H4 : Hid (PC B b (l ++ ((cFunc ++ (g.name ++ [40])) ++ (parL true (g.params.take k) ++ (if k = 0 then [] else [44, 32])))) w4) := zz (by
          rw [if_neg HK.out]
          simp only [List.append_assoc] at h4 ⊢
          exact h4)
        have HB4 := zz (HBc.out.trans hb4)
        have HO4 := zz (HOc.out.trans ho4)
        have HH4 := zz (ho4.heap HNEc.out (by decide) HHc.out)
        have HHF4 := zz (ho4.heap HNE.out (by decide) HHFc.out)
        clear h4 hb4 ho4
        go_wp2_with fail
        have HB8 : Hid (Below B w w4.drew) := zz (HB4.out.trans (Below.drew (Below.refl _ _)))
        have HO8 : Hid (Others b w w4.drew) := zz (HO4.out.trans (Others.of_new (Below.drew (Below.refl _ _))))
        have HH8 : Hid (w4.drew.heap[wr.heap.size]? = some (Obj.cells #[.string (mkT p.name), .int .i64 (p.kind : Nat), .int .i64 (p.at_ : Nat)] 85 (0, 0))) := zz HH4.out
        have HHF8 : Hid (w4.drew.heap[w.heap.size]? = some (Obj.cells #[.string (mkT g.name), .int .i64 (g.at_ : Nat), .slice (some ⟨g', 0, none⟩) g.params.length pc, .int .i64 (g.kind : Nat), .slice bo bn bc] 45 (0, 0))) := zz HHF4.out
        have HLT8 : Hid (wr.heap.size < w4.drew.heap.size) := zz (Array.getElem?_eq_some_iff.1 HH8.out).1
        have HCL : Hid (∀ V : World, V.heap[wr.heap.size]? = some (Obj.cells #[.string (mkT p.name), .int .i64 (p.kind : Nat), .int .i64 (p.at_ : Nat)] 85 (0, 0)) -> V.cell? ⟨wr.heap.size, 0, none⟩ = some (.string (mkT p.name)) /\ V.cell? ⟨wr.heap.size, 1, none⟩ = some (.int .i64 (p.kind : Nat))) := zz fun V hV => ⟨by rw [Lib.cell_of_heap hV]; rfl, by rw [Lib.cell_of_heap hV]; rfl⟩
        have HKT := zz (kindText_any p.kind w4.drew (HP.out.below HB8.out).kinds)
        have HE := zz (HEND.out w4.drew (H4.out.fresh (Below.drew (Below.refl _ _))) HB8.out)
        refine wp_region_held_drew (S := (fun W' : World => W'.cell? ⟨wr.heap.size, 0, none⟩ = some (.string (mkT p.name)) /\ W'.cell? ⟨wr.heap.size, 1, none⟩ = some (.int .i64 (p.kind : Nat)))) (by kernel_rfl) (HCL.out _ HH8.out) (fun hHeld => ?_)
        generalize w4.drew = V8 at *
        refine tk 0 24 (.pointer (some ⟨b, 0, none⟩)) rfl (.inl ⟨by rfl, ?_⟩) hHeld ?_
        ·intro W9 hSW; (try dsimp only at hSW); go_simp
        try simp only [Act.put, List.setIfInBounds_toArray, List.set_cons_zero, List.set_cons_succ]
        refine tk 1 25 (.pointer (some ⟨wr.heap.size, 0, none⟩)) rfl (.inl ⟨by rfl, ?_⟩) hHeld ?_
        ·intro W9 hSW; (try dsimp only at hSW); go_simp
        try simp only [Act.put, List.setIfInBounds_toArray, List.set_cons_zero, List.set_cons_succ]
        refine tk 2 26 (.string (mkT p.name)) rfl (.inl ⟨by rfl, ?_⟩) hHeld ?_
        ·intro W9 hSW; (try dsimp only at hSW); go_simp
        try simp only [Act.put, List.setIfInBounds_toArray, List.set_cons_zero, List.set_cons_succ]
        refine tk 3 27 (.pointer (some ⟨wr.heap.size, 1, none⟩)) rfl (.inl ⟨by rfl, ?_⟩) hHeld ?_
        ·intro W9 hSW; (try dsimp only at hSW); go_simp
        try simp only [Act.put, List.setIfInBounds_toArray, List.set_cons_zero, List.set_cons_succ]
        refine tk 4 28 (.int .i64 (p.kind : Nat)) rfl (.inl ⟨by rfl, ?_⟩) hHeld ?_
        ·intro W9 hSW; (try dsimp only at hSW); go_simp
        try simp only [Act.put, List.setIfInBounds_toArray, List.set_cons_zero, List.set_cons_succ]
        refine wpAnyH_ready (rs := [5]) (by kernel_rfl) (by simp) ?_
        refine AllReadyH.cons (o := { dst := some 29, op := _, type := _, pos := _, after := _, guard := _ }) rfl (fun K hK => ?_) AllReadyH.nil
        go_simp
        go_at_call 66
        refine HKT.out.mono ?_
        rintro e w9 ⟨rfl, rfl⟩
        refine hK.out _ _ hHeld (fun hHeld => ?_)
        clear hK K
        refine wpAnyH_ready (rs := [6]) (by kernel_rfl) (by simp) ?_
        refine AllReadyH.cons (o := { dst := some 30, op := _, type := _, pos := _, after := _, guard := _ }) rfl (fun K hK => ?_) AllReadyH.nil
        go_simp
        refine hK.out _ _ (HCL.out _ (by rw [Below.heap_alloc _ _ _ HLT8.out]; exact HH8.out)) (fun hHeld => ?_)
        clear hK K
        refine wpAnyH_ready (rs := [7]) (by kernel_rfl) (by simp) ?_
        refine AllReadyH.cons (o := { dst := some 31, op := _, type := _, pos := _, after := _, guard := _ }) rfl (fun K hK => ?_) AllReadyH.nil
        go_simp
        go_at_call 65
        refine HE.out.mono ?_
        rintro e w9 ⟨rfl, h9, hb9, ho9⟩
        have H9 := zz h9
        have HB9 := zz (HB8.out.trans hb9)
        have HO9 := zz (HO8.out.trans ho9)
        have HH9 := zz (ho9.heap HNEc.out (by decide) HH8.out)
        have HHF9 := zz (ho9.heap HNE.out (by decide) HHF8.out)
        clear h9 hb9 ho9
        refine hK.out _ _ (HCL.out _ HH9.out) (fun hHeld => ?_)
        clear hK K
        refine wpAnyH_done (by kernel_rfl) ?_ _
        go_wp2_with fail
        exact ⟨⟨k + 1, by omega, by simp, H9.out, HB9.out, HO9.out, HHF9.out⟩, by simp [intOf]; omega⟩
    · have hki : ¬ (k : Int) < (g.params.length : Int) := by omega
      have hkk : k = g.params.length := by omega
      have h1 := HPP.out
      rw [hkk, List.take_length] at h1
      have hr := Nat.le_trans HB.out HBL.out.size
      have HC5 := zz (put_new B b _ [mkT [41, 32]] wr h1 hr (by have := HL.out; rw [catV1]; simp only [List.length_append, List.length_cons, List.length_nil] at this ⊢; omega) (by simp))
      rw [catV1] at HC5
      have HH5 : Hid (wr.heap[w.heap.size]? = some (Obj.cells #[.string (mkT g.name), .int .i64 (g.at_ : Nat), .slice po g.params.length pc, .int .i64 (g.kind : Nat), .slice bo bn bc] 45 (0, 0))) := zz HHF.out
      have HB5 := zz HBL.out
      have HO5 := zz HO.out
      clear hkk h1 hr
      go_wp2_with fail
      refine HC5.out.mono ?_
      rintro e w6 ⟨rfl, h6, hb6, ho6⟩
      have H6 := zz h6
      have HB6 := zz (HB5.out.trans hb6)
      have HO6 := zz (HO5.out.trans ho6)
      have HH6 := zz (ho6.heap HNE.out (by decide) HH5.out)
      clear h6 hb6 ho6
      have d6 : w6.cell? ⟨w.heap.size, 3, none⟩ = some (.int .i64 (g.kind : Nat)) := by rw [Lib.cell_of_heap HH6.out]; rfl
      by_cases hk0 : g.kind = 0
      · have hz : ((g.kind : Int) == 0) = true := by rw [hk0]; rfl
        have HKZ := zz hk0
        clear hk0
        go_wp2_with fail
        clear d6 hz
        have hr7 := Nat.le_trans HB.out HB6.out.size
        have HC7 := zz (put_new B b _ [mkT [123, 10]] w6 H6.out hr7 (by have := HL.out; rw [catV1]; simp only [List.length_append, List.length_cons, List.length_nil] at this ⊢; rw [if_pos HKZ.out] at this; simp only [List.length_nil] at this; omega) (by simp))
        rw [catV1] at HC7
        clear hr7
        go_wp2_with fail
        refine HC7.out.mono ?_
        rintro e w7 ⟨rfl, h7, hb7, ho7⟩
        have H7 := zz h7
        have HB7 := zz (HB6.out.trans hb7)
        have HO7 := zz (HO6.out.trans ho7)
        have HH7 := zz (ho7.heap HNE.out (by decide) HH6.out)
        clear h7 hb7 ho7
        have d7 : w7.cell? ⟨w.heap.size, 4, none⟩ = some (.slice bo bn bc) := by rw [Lib.cell_of_heap HH7.out]; rfl
        have HS := zz (HST.out w7 _ H7.out HB7.out (by have := HL.out; simp only [List.length_append, List.length_cons, List.length_nil] at this ⊢; rw [if_pos HKZ.out] at this; simp only [List.length_nil] at this; omega))
        unfold Writes at HS
        rw [show ((1 : Nat) : Int) = 1 from rfl] at HS
        go_wp2_with fail
        refine HS.out.mono ?_
        rintro e w8 ⟨rfl, h8, hb8, ho8⟩
        have H8 := zz h8
        have HB8 := zz (HB7.out.trans (hb8.mono (Nat.le_refl _)))
        have HO8 := zz (HO7.out.trans ho8)
        clear h8 hb8 ho8 d7
        have hr9 := Nat.le_trans HB.out HB8.out.size
        have HC9 := zz (line_new B b 0 _ [mkT cEnd] w8 H8.out hr9 (by have := HL.out; rw [catV1]; simp only [List.length_append, List.length_cons, List.length_nil] at this ⊢; rw [if_pos HKZ.out] at this; simp only [List.length_nil] at this; omega) (by simp))
        rw [catV1, show ((0 : Nat) : Int) = 0 from rfl] at HC9
        clear hr9
        go_wp2_with fail
        refine HC9.out.mono ?_
        rintro e w9 ⟨rfl, h9, hb9, ho9⟩
        have H9 := zz h9
        have HB9 := zz (HB8.out.trans hb9)
        have HO9 := zz (HO8.out.trans ho9)
        clear h9 hb9 ho9
        go_wp2_with fail
        try simp only [Exit.inBlock, Exit.then]
        go_end0
        refine ⟨rfl, ?_, HB9.out, HO9.out⟩
        have hq := H9.out
        unfold fuV
        rw [if_pos HKZ.out]
        simp only [List.append_assoc, List.nil_append] at hq ⊢
        exact hq
      · have hz : ((g.kind : Int) == 0) = false := beq_eq_false_iff_ne.2 (by omega)
        have HKZ := zz hk0
        clear hk0
        have HKT := zz (kindText_any g.kind w6 (HP.out.below HB6.out).kinds)
        have hr6 := Nat.le_trans HB.out HB6.out.size
        have HC10 := zz (put_new B b _ [mkT (kindB g.kind), mkT [32]] w6 H6.out hr6 (by have := HL.out; rw [catV2]; rw [if_neg HKZ.out] at this; simp only [List.length_append, List.length_cons, List.length_nil] at this ⊢; omega) (by simp))
        rw [catV2] at HC10
        clear hr6
        go_wp2_with fail
        refine HKT.out.mono ?_
        rintro e w9 ⟨rfl, rfl⟩
        go_wp2_with fail
        refine HC10.out.mono ?_
        rintro e wk ⟨rfl, h10, hb10, ho10⟩
        have H10 := zz h10
        have HB10 := zz (HB6.out.trans hb10)
        have HO10 := zz (HO6.out.trans ho10)
        have HH10 := zz (ho10.heap HNE.out (by decide) HH6.out)
        clear h10 hb10 ho10 d6 hz
        have hr7 := Nat.le_trans HB.out HB10.out.size
        have HC7 := zz (put_new B b _ [mkT [123, 10]] wk H10.out hr7 (by have := HL.out; rw [catV1]; simp only [List.length_append, List.length_cons, List.length_nil] at this ⊢; rw [if_neg HKZ.out] at this; simp only [List.length_append, List.length_cons, List.length_nil] at this; omega) (by simp))
        rw [catV1] at HC7
        clear hr7
        go_wp2_with fail
        refine HC7.out.mono ?_
        rintro e w7 ⟨rfl, h7, hb7, ho7⟩
        have H7 := zz h7
        have HB7 := zz (HB10.out.trans hb7)
        have HO7 := zz (HO10.out.trans ho7)
        have HH7 := zz (ho7.heap HNE.out (by decide) HH10.out)
        clear h7 hb7 ho7
        have d7 : w7.cell? ⟨w.heap.size, 4, none⟩ = some (.slice bo bn bc) := by rw [Lib.cell_of_heap HH7.out]; rfl
        have HS := zz (HST.out w7 _ H7.out HB7.out (by have := HL.out; simp only [List.length_append, List.length_cons, List.length_nil] at this ⊢; rw [if_neg HKZ.out] at this; simp only [List.length_append, List.length_cons, List.length_nil] at this; omega))
        unfold Writes at HS
        rw [show ((1 : Nat) : Int) = 1 from rfl] at HS
        go_wp2_with fail
        refine HS.out.mono ?_
        rintro e w8 ⟨rfl, h8, hb8, ho8⟩
        have H8 := zz h8
        have HB8 := zz (HB7.out.trans (hb8.mono (Nat.le_refl _)))
        have HO8 := zz (HO7.out.trans ho8)
        clear h8 hb8 ho8 d7
        have hr9 := Nat.le_trans HB.out HB8.out.size
        have HC9 := zz (line_new B b 0 _ [mkT cEnd] w8 H8.out hr9 (by have := HL.out; rw [catV1]; simp only [List.length_append, List.length_cons, List.length_nil] at this ⊢; rw [if_neg HKZ.out] at this; simp only [List.length_append, List.length_cons, List.length_nil] at this; omega) (by simp))
        rw [catV1, show ((0 : Nat) : Int) = 0 from rfl] at HC9
        clear hr9
        go_wp2_with fail
        refine HC9.out.mono ?_
        rintro e w9 ⟨rfl, h9, hb9, ho9⟩
        have H9 := zz h9
        have HB9 := zz (HB8.out.trans hb9)
        have HO9 := zz (HO8.out.trans ho9)
        clear h9 hb9 ho9
        go_wp2_with fail
        try simp only [Exit.inBlock, Exit.then]
        go_end0
        refine ⟨rfl, ?_, HB9.out, HO9.out⟩
        have hq := H9.out
        unfold fuV
        rw [if_neg HKZ.out]
        simp only [List.append_assoc] at hq ⊢
        exact hq
def cVar : Lx.B := [118, 97, 114, 32]
def glV (g : Gl) : Lx.B := lineV 0 (cVar ++ g.name)
def printV (s : Src) : Lx.B := s.globals.flatMap glV ++ s.funcs.flatMap fuV
def SrcOk (s : Src) : Prop := ∀ g ∈ s.funcs, StsOk g.body
theorem flat_le {α : Type} (f : α -> Lx.B) (l : List α) (k : Nat) : ((l.take k).flatMap f).length <= (l.flatMap f).length := by
 have h : l.flatMap f = (l.take k).flatMap f ++ (l.drop k).flatMap f := by rw [<- List.flatMap_append, List.take_append_drop]
 rw [h, List.length_append]
 exact Nat.le_add_right _ _
theorem flat_take {α : Type} (f : α -> Lx.B) {l : List α} {k : Nat} {x : α} (h : l[k]? = some x) : (l.take (k + 1)).flatMap f = (l.take k).flatMap f ++ f x := by
 rw [List.take_add_one, h, Option.toList_some, List.flatMap_append, List.flatMap_cons, List.flatMap_nil, List.append_nil]
theorem paRow_form {F : Nat -> Prop} {v : Value} {l : List Pa} (h : PaRow w F v l) : ∃ o c, v = .slice o l.length c := by
 rcases h with ⟨e, e2⟩ | ⟨g, cap, e, _⟩
 ·exact ⟨none, 0, by rw [e, e2]; rfl⟩
 ·exact ⟨_, _, e⟩
theorem print_any {src : Src} {gv fv : Value} (w : World) (hs : SrcF w (fun k => k < w.heap.size) src gv fv) (hP : PEnv w.heap.size w) (hok : SrcOk src) (hlen : (printV src).length <= 1000000) :
  Tells w 14 #[.agg #[gv, fv]] (printV src) := by
 unfold Tells
 obtain ⟨go, gc, rfl⟩ : ∃ o c, gv = .slice o src.globals.length c := by
  rcases hs.1 with ⟨e, e2⟩ | ⟨g, cap, e, _⟩
  ·exact ⟨none, 0, by rw [e, e2]; rfl⟩
  ·exact ⟨_, _, e⟩
 obtain ⟨fo, fc, rfl⟩ : ∃ o c, fv = .slice o src.funcs.length c := by
  rcases hs.2 with ⟨e, e2⟩ | ⟨g, cap, e, _⟩
  ·exact ⟨none, 0, by rw [e, e2]; rfl⟩
  ·exact ⟨_, _, e⟩
 have hgn : src.globals.length <= 9223372036854775807 := by
  rcases hs.1 with ⟨_, e2⟩ | ⟨g, cap, _, h1, h2, _⟩
  ·rw [e2]; exact Nat.zero_le _
  ·unfold maxLen at h2; omega
 have hfn : src.funcs.length <= 9223372036854775807 := by
  rcases hs.2 with ⟨_, e2⟩ | ⟨g, cap, _, h1, h2, _⟩
  ·rw [e2]; exact Nat.zero_le _
  ·unfold maxLen at h2; omega
 have HG : Hid (∀ k x, src.globals[k]? = some x -> ∃ g', go = some ⟨g', 0, none⟩ /\ g' < w.heap.size /\ w.cell? ⟨g', k * 2, none⟩ = some (.string (mkT x.name)) /\ w.cell? ⟨g', k * 2 + 1, none⟩ = some (.int .i64 (x.at_ : Nat))) := zz fun k x hx => by
  rcases hs.1 with ⟨_, e2⟩ | ⟨g', cap, e, _, _, hg, _, h6⟩
  ·rw [e2] at hx; cases hx
  ·injection e with e1 _ _
   exact ⟨g', e1, hg, h6 k x hx⟩
 have HF : Hid (∀ k x, src.funcs[k]? = some x -> ∃ g', fo = some ⟨g', 0, none⟩ /\ g' < w.heap.size /\ FuAt w (fun k => k < w.heap.size) g' (k * 5) x) := zz fun k x hx => by
  rcases hs.2 with ⟨_, e2⟩ | ⟨g', cap, e, _, _, hg, _, h6⟩
  ·rw [e2] at hx; cases hx
  ·injection e with e1 _ _
   exact ⟨g', e1, hg, h6 k x hx⟩
 have hb1 := fresh_alloc w #[.slice go src.globals.length gc, .slice fo src.funcs.length fc] 26
 have hb2 := fresh_alloc (w.alloc (.cells #[.slice go src.globals.length gc, .slice fo src.funcs.length fc] 26)) #[.pointer none, .slice none 0 0] 80
 have hpc := pc_new (w.alloc (.cells #[.slice go src.globals.length gc, .slice fo src.funcs.length fc] 26))
 rw [alloc_size w] at hpc hb2
 have HPC := zz hpc
 have HB := zz (hb1.trans (hb2.mono (Nat.le_succ _)))
 have HCE : Hid (((w.alloc (.cells #[.slice go src.globals.length gc, .slice fo src.funcs.length fc] 26)).alloc (.cells #[.pointer none, .slice none 0 0] 80)).cell? ⟨w.heap.size, 1, none⟩ = some (.slice fo src.funcs.length fc)) := zz (by
  rw [hb2.cell (p := ⟨w.heap.size, 1, none⟩) (Nat.lt_succ_self _), Lib.cell_of_heap (heap_alloc_new w _)]; rfl)
 have HP := zz hP
 have HOK := zz hok
 have HL := zz hlen
 unfold printV at HL
 clear hs hP hok hlen hb1 hb2 hpc
 go_enter Tryz.func14, Tryz.ntmps14
 go_wp2_with fail
 go_loopw [11, 5] (fun i _ wr => ∃ k : Nat, k <= src.globals.length /\ i = .int .i64 k /\ PC (w.heap.size + 1) (w.heap.size + 1) ((src.globals.take k).flatMap glV) wr /\ Below w.heap.size w wr /\ wr.cell? ⟨w.heap.size, 1, none⟩ = some (.slice fo src.funcs.length fc)) (fun i _ _ => src.globals.length - (intOf i).toNat)
 case atStart => exact ⟨0, Nat.zero_le _, rfl, HPC.out, HB.out, HCE.out⟩
 case round =>
  obtain ⟨k, hk, rfl, hp, hb, hce⟩ := hrel
  have HPP := zz hp
  have HBL := zz hb
  have HCF := zz hce
  clear hp hb hce
  by_cases hlt : k < src.globals.length
  ·obtain ⟨x, hkx⟩ : ∃ x, src.globals[k]? = some x := ⟨_, List.getElem?_eq_getElem hlt⟩
   obtain ⟨g', rfl, hg, c0, c1⟩ := HG.out k x hkx
   have hki : (k : Int) < (src.globals.length : Int) := by omega
   have hkii : (0 : Int) <= (k : Int) /\ (k : Int) < (src.globals.length : Int) := by omega
   have hw : IntKind.i64.wrap ((k : Int) + 1) = (k : Int) + 1 := IntWalk.i64_in _ (by omega)
   have hat := flat_take glV hkx
   have hle := flat_le glV src.globals (k + 1)
   rw [hat, List.length_append] at hle
   rw [<- HBL.out.cell (p := ⟨g', k * 2, none⟩) hg] at c0
   rw [<- HBL.out.cell (p := ⟨g', k * 2 + 1, none⟩) hg] at c1
   have HAT := zz hat
   have hbc := fresh_alloc wr #[.string (mkT x.name), .int .i64 (x.at_ : Nat)] 64
   have hsz : (w.heap.size + 1) <= wr.heap.size := Nat.le_of_lt HPP.out.1.lt
   have HC := zz (line_new (w.heap.size + 1) (w.heap.size + 1) 0 ((src.globals.take k).flatMap glV) [mkT cVar, mkT x.name] (wr.alloc (.cells #[.string (mkT x.name), .int .i64 (x.at_ : Nat)] 64)) (HPP.out.fresh hbc) (Nat.le_trans hsz hbc.size) (by have h7 := HL.out; rw [List.length_append] at h7; rw [catV2]; unfold glV at hle h7 ⊢; omega) (by simp))
   rw [catV2, alloc_size wr, show ((0 : Nat) : Int) = 0 from rfl] at HC
   have HBc := zz (HBL.out.trans (hbc.mono (Nat.le_trans (Nat.le_succ _) hsz)))
   have HCc : Hid ((wr.alloc (.cells #[.string (mkT x.name), .int .i64 (x.at_ : Nat)] 64)).cell? ⟨w.heap.size, 1, none⟩ = some (.slice fo src.funcs.length fc)) := zz (by rw [hbc.cell (p := ⟨w.heap.size, 1, none⟩) hsz]; exact HCF.out)
   clear hkx hg hat hle hbc hsz
   go_wp2_with fail
   refine HC.out.mono ?_
   rintro e w3 ⟨rfl, h3, hb3, ho3⟩
   have H3 : Hid (PC (w.heap.size + 1) (w.heap.size + 1) ((src.globals.take (k + 1)).flatMap glV) w3) := zz (by rw [HAT.out]; exact h3)
   have HC3 : Hid (w3.cell? ⟨w.heap.size, 1, none⟩ = some (.slice fo src.funcs.length fc)) := zz (by rw [hb3.cell (p := ⟨w.heap.size, 1, none⟩) (Nat.lt_succ_self _)]; exact HCc.out)
   have HB3 := zz (HBc.out.trans (hb3.mono (Nat.le_succ _)))
   clear h3 hb3 ho3
   go_wp2_with fail
   exact ⟨⟨k + 1, by omega, by simp, H3.out, HB3.out, HC3.out⟩, by simp [intOf]; omega⟩
  ·have hki : ¬ (k : Int) < (src.globals.length : Int) := by omega
   have hkk : k = src.globals.length := by omega
   have h1 := HPP.out
   rw [hkk, List.take_length] at h1
   have HP1 := zz h1
   have HB1 := zz HBL.out
   have d1 := HCF.out
   clear hkk h1
   go_wp2_with fail
   clear d1
   rename World => wz
   go_loopw [23, 7] (fun i _ wq => ∃ k : Nat, k <= src.funcs.length /\ i = .int .i64 k /\ PC (w.heap.size + 1) (w.heap.size + 1) (src.globals.flatMap glV ++ (src.funcs.take k).flatMap fuV) wq /\ Below w.heap.size w wq) (fun i _ _ => src.funcs.length - (intOf i).toNat)
   case atStart => exact ⟨0, Nat.zero_le _, rfl, by rw [List.take_zero]; show PC (w.heap.size + 1) (w.heap.size + 1) (src.globals.flatMap glV ++ []) wz; rw [List.append_nil]; exact HP1.out, HB1.out⟩
   case round =>
    obtain ⟨k, hk, rfl, hp, hb⟩ := hrel
    have HPQ := zz hp
    have HBQ := zz hb
    clear hp hb
    by_cases hlt : k < src.funcs.length
    ·obtain ⟨x, hkx⟩ : ∃ x, src.funcs[k]? = some x := ⟨_, List.getElem?_eq_getElem hlt⟩
     obtain ⟨g', rfl, hg, pv, bv, c0, c1, c2, c3, c4, hpa, hst⟩ := HF.out k x hkx
     obtain ⟨po, pc, rfl⟩ := paRow_form hpa
     obtain ⟨bo, bn, bc, rfl⟩ := slAt_form hst.1
     have hki : (k : Int) < (src.funcs.length : Int) := by omega
     have hkii : (0 : Int) <= (k : Int) /\ (k : Int) < (src.funcs.length : Int) := by omega
     have hw : IntKind.i64.wrap ((k : Int) + 1) = (k : Int) + 1 := IntWalk.i64_in _ (by omega)
     have hat := flat_take fuV hkx
     have hle := flat_le fuV src.funcs (k + 1)
     rw [hat, List.length_append] at hle
     have hbc := fresh_alloc wr #[.string (mkT x.name), .int .i64 (x.at_ : Nat), .slice po x.params.length pc, .int .i64 (x.kind : Nat), .slice bo bn bc] 45
     have hsz : (w.heap.size + 1) <= wr.heap.size := Nat.le_of_lt HPQ.out.1.lt
     have hbf := HBQ.out.trans (hbc.mono (Nat.le_trans (Nat.le_succ _) hsz))
     have hkf : Keeps (fun k => w.heap.size <= k) w (wr.alloc (.cells #[.string (mkT x.name), .int .i64 (x.at_ : Nat), .slice po x.params.length pc, .int .i64 (x.kind : Nat), .slice bo bn bc] 45)) := Keeps.of_below (S := fun k => w.heap.size <= k) hbf (fun _ _ e => e)
     have hdj : ∀ b : Nat, b < w.heap.size -> ¬ (w.heap.size <= b) := fun b h1 h2 => by omega
     have hup : ∀ b : Nat, b < w.heap.size -> b < (w.heap.size + 1) := fun b h1 => Nat.lt_succ_of_lt h1
     have HC := zz (pfunction_any (B := (w.heap.size + 1)) (b := (w.heap.size + 1)) (g := x) (po := po) (bo := bo) (pc := pc) (bn := bn) (bc := bc) (HOK.out x (List.mem_of_getElem? hkx)) (src.globals.flatMap glV ++ (src.funcs.take k).flatMap fuV) (wr.alloc (.cells #[.string (mkT x.name), .int .i64 (x.at_ : Nat), .slice po x.params.length pc, .int .i64 (x.kind : Nat), .slice bo bn bc] 45)) (HPQ.out.fresh hbc) (Nat.le_trans hsz hbc.size) ((HP.out.below hbf).mono (Nat.le_succ _)) (PaRow.mono (fun b _ h => hup b h) (hpa.keeps hkf hdj)) (hst.1.mono hup) (fun g n cap e => StsIn.mono hup g 0 _ ((hst.keeps hkf hdj).2 g n cap e)) (by have h7 := HL.out; rw [List.length_append] at h7 ⊢; omega))
     unfold Writes at HC
     rw [<- HBQ.out.cell (p := ⟨g', k * 5, none⟩) hg] at c0
     rw [<- HBQ.out.cell (p := ⟨g', k * 5 + 1, none⟩) hg] at c1
     rw [<- HBQ.out.cell (p := ⟨g', k * 5 + 2, none⟩) hg] at c2
     rw [<- HBQ.out.cell (p := ⟨g', k * 5 + 3, none⟩) hg] at c3
     rw [<- HBQ.out.cell (p := ⟨g', k * 5 + 4, none⟩) hg] at c4
     have HAT := zz hat
     have HBF := zz hbf
     clear hkx hg hat hle hbc hsz hbf hkf hdj hup hpa hst
     go_wp2_with fail
     refine HC.out.mono ?_
     rintro e w3 ⟨rfl, h3, hb3, ho3⟩
     have H3 : Hid (PC (w.heap.size + 1) (w.heap.size + 1) (src.globals.flatMap glV ++ (src.funcs.take (k + 1)).flatMap fuV) w3) := zz (by rw [HAT.out, <- List.append_assoc]; exact h3)
     have HB3 := zz (HBF.out.trans (hb3.mono (Nat.le_succ _)))
     clear h3 hb3 ho3
     go_wp2_with fail
     exact ⟨⟨k + 1, by omega, by simp, H3.out, HB3.out⟩, by simp [intOf]; omega⟩
    ·have hki : ¬ (k : Int) < (src.funcs.length : Int) := by omega
     have hkk : k = src.funcs.length := by omega
     have h1 := HPQ.out
     rw [hkk, List.take_length] at h1
     have HS := zz (pString_any _ _ _ _ h1)
     clear hkk h1
     go_wp2_with fail
     refine HS.out.mono ?_
     rintro e w3 ⟨rfl, hb3⟩
     have HB3 := zz (HBQ.out.trans (hb3.mono (Nat.le_succ _)))
     clear hb3
     go_wp2_with fail
     try simp only [Exit.inBlock, Exit.then]
     go_ret
     exact ⟨rfl, HB3.out⟩
end Go.Proofs.YtjejcajnnbilmaaGreatDoor
namespace Go.Proofs.YtjejcajnnbilmaaGreatDoor
open Lx Tr
namespace Tr
def paT : Bool -> List Pa -> List (Nat × B)
 | _, [] => []
 | f, p :: ps => (if f then [] else [(4, [44])]) ++ ([(1, p.name), (2, kindB p.kind)] ++ paT false ps)
def fuT (g : Fu) : List (Nat × B) := (2, tFunc) :: (1, g.name) :: (4, [40]) :: (paT true g.params ++ ((4, [41]) :: ((if g.kind = 0 then [] else [(2, kindB g.kind)]) ++ ((4, tLb) :: (stsT g.body ++ ((4, tRb) :: nlT))))))
def glT (g : Gl) : List (Nat × B) := [(2, tVar), (1, g.name), (5, [10])]
def srcT (s : Src) : List (Nat × B) := s.globals.flatMap glT ++ s.funcs.flatMap fuT
def GoodP (p : Pa) : Prop := WordT 1 p.name /\ 1 <= p.kind /\ p.kind <= 3
structure GoodF (g : Fu) : Prop where
 name : WordT 1 g.name
 params : ∀ p ∈ g.params, GoodP p
 kind : g.kind <= 3
 body : GoodSs g.body 1
structure GoodSrc (s : Src) : Prop where
 gls : ∀ g ∈ s.globals, WordT 1 g.name
 fus : ∀ g ∈ s.funcs, GoodF g
 ng : s.globals.length <= 8
 nf : s.funcs.length <= 12
theorem kindV_B : ∀ k, 1 <= k -> k <= 3 -> kindV (kindB k) = k /\ kindB k ≠ [41] := by
 intro k h1 h3
 rcases (by omega : k = 1 \/ k = 2 \/ k = 3) with rfl | rfl | rfl <;> decide
theorem takeKind_ev {E : Env} {k n : Nat} (h : (pk E n).kind = k) : takeKind E k n = .ok (pk E n) (n + 1) := by unfold takeKind; rw [if_pos h]
theorem params_rd {E : Env} : ∀ (ps : List Pa) (acc acc' : List Pa) (n : Nat), ps ≠ [] -> (∀ p ∈ ps, GoodP p) -> acc'.map paE = acc.map paE -> At E n (paT true ps ++ [(4, [41])]) -> ∃ l, l.map paE = (acc ++ ps).map paE /\ Ev (fun f => params E f acc' n) (.ok l (n + (paT true ps).length + 1))
 | [], _, _, _, h, _, _, _ => absurd rfl h
 | [p], acc, acc', n, _, hg, he, ha => by
  have ha' : At E n ((1, p.name) :: (2, kindB p.kind) :: (4, [41]) :: []) := ha
  obtain ⟨g1, g2, g3⟩ := hg p (List.mem_cons_self ..)
  obtain ⟨k1, k2⟩ := kindV_B p.kind g2 g3
  have h1 := ha'.head
  have h2 := ha'.tail.head
  have h3 := ha'.tail.tail.head
  refine ⟨acc' ++ [⟨(pk E n).text, kindV (pk E (n + 1)).text, (pk E n).at_⟩], ?_, Ev.now (fun e => by cases e) fun f => ?_⟩
  ·rw [List.map_append, List.map_append, he, h1.2, h2.2, k1]; rfl
  ·rw [paramsQ_eq, takeKind_ev h1.1]
   show (if kindV (pk E (n + 1)).text = 0 then _ else if (pk E (n + 1 + 1)).text = tComma then _ else _) = _
   rw [if_neg (by rw [h2.2, k1]; omega), if_neg (by rw [h3.2]; decide), take_ev (show (pk E (n + 1 + 1)).text = tRp from h3.2)]
   rfl
 | p :: q :: ps, acc, acc', n, _, hg, he, ha => by
  have ha' : At E n ((1, p.name) :: (2, kindB p.kind) :: (4, [44]) :: (paT true (q :: ps) ++ [(4, [41])])) := ha
  obtain ⟨g1, g2, g3⟩ := hg p (List.mem_cons_self ..)
  obtain ⟨k1, k2⟩ := kindV_B p.kind g2 g3
  have h1 := ha'.head
  have h2 := ha'.tail.head
  have h3 := ha'.tail.tail.head
  obtain ⟨l, e, hev⟩ := params_rd (q :: ps) (acc ++ [p]) (acc' ++ [⟨(pk E n).text, kindV (pk E (n + 1)).text, (pk E n).at_⟩]) (n + 1 + 1 + 1) (by simp) (fun x hx => hg x (List.mem_cons_of_mem _ hx)) (by rw [List.map_append, List.map_append, he, h1.2, h2.2, k1]; rfl) ha'.tail.tail.tail
  refine ⟨l, by rw [e]; simp, Ev.step (h := fun f => params E f (acc' ++ [⟨(pk E n).text, kindV (pk E (n + 1)).text, (pk E n).at_⟩]) (n + 1 + 1 + 1)) (fun f => ?_) ?_⟩
  ·rw [paramsQ_eq, takeKind_ev h1.1]
   show (if kindV (pk E (n + 1)).text = 0 then _ else if (pk E (n + 1 + 1)).text = tComma then _ else _) = _
   rw [if_neg (by rw [h2.2, k1]; omega), if_pos (show (pk E (n + 1 + 1)).text = tComma from h3.2)]
  ·have hl : n + (paT true (p :: q :: ps)).length + 1 = n + 1 + 1 + 1 + (paT true (q :: ps)).length + 1 := by
    show n + ((1, p.name) :: (2, kindB p.kind) :: (4, [44]) :: paT true (q :: ps)).length + 1 = _
    simp only [List.length_cons]; omega
   rw [hl]
   exact hev
theorem fu_rd {E : Env} {n : Nat} {g : Fu} (hg : GoodF g) (ha : At E n (fuT g)) : ∃ g' m, fuE g' = fuE g /\ m + 1 = n + (fuT g).length /\ (pk E m).kind = 5 /\ Ev (fun f => Tr.function E f n) (.ok g' m) := by
 unfold fuT at ha ⊢
 have h1 := ha.head
 have h2 := ha.tail.head
 have h3 := ha.tail.tail.head
 have h4 := ha.tail.tail.tail
 have h5 := h4.right
 obtain ⟨ps, e1, hps⟩ : ∃ ps, ps.map paE = g.params.map paE /\ Ev (fun f => if (pk E (n + 1 + 1 + 1)).text = tRp then Res.ok [] (n + 1 + 1 + 1 + 1) else params E f [] (n + 1 + 1 + 1)) (.ok ps (n + 1 + 1 + 1 + (paT true g.params).length + 1)) := by
  cases hp : g.params with
  | nil =>
   rw [hp] at h4
   have h6 := (At.head (k := 4) (t := [41]) (ks := _) h4).2
   exact ⟨[], rfl, Ev.pure (fun e => by cases e) fun f => by rw [if_pos (show (pk E (n + 1 + 1 + 1)).text = tRp from h6)]; rfl⟩
  | cons p ps =>
   rw [hp] at h4
   obtain ⟨l, e, hev⟩ := params_rd (E := E) (p :: ps) [] [] (n + 1 + 1 + 1) (by simp) (fun x hx => hg.params x (by rw [hp]; exact hx)) rfl (At.left (k2 := (if g.kind = 0 then [] else [(2, kindB g.kind)]) ++ ((4, tLb) :: (stsT g.body ++ ((4, tRb) :: nlT)))) (by rw [List.append_assoc]; exact h4))
   refine ⟨l, e, Ev.step' (fun f => ?_) hev⟩
   have h6 : (pk E (n + 1 + 1 + 1)).text = p.name := (At.head (k := 1) (t := p.name) (ks := _) h4).2
   rw [if_neg]
   rw [h6]
   exact word_no41 (hg.params p (by rw [hp]; exact List.mem_cons_self ..)).1
 have h6 := h5.tail
 obtain ⟨hk, hb⟩ : kindV (pk E (n + 1 + 1 + 1 + (paT true g.params).length + 1)).text = g.kind /\ At E (if kindV (pk E (n + 1 + 1 + 1 + (paT true g.params).length + 1)).text = 0 then n + 1 + 1 + 1 + (paT true g.params).length + 1 else n + 1 + 1 + 1 + (paT true g.params).length + 1 + 1) ((4, tLb) :: (stsT g.body ++ ((4, tRb) :: nlT))) := by
  by_cases h0 : g.kind = 0
  ·rw [if_pos h0] at h6
   have h7 : At E (n + 1 + 1 + 1 + (paT true g.params).length + 1) ((4, tLb) :: (stsT g.body ++ ((4, tRb) :: nlT))) := h6
   have e : kindV (pk E (n + 1 + 1 + 1 + (paT true g.params).length + 1)).text = 0 := by rw [h7.head.2]; decide
   rw [if_pos e]
   exact ⟨by rw [e, h0], h7⟩
  ·rw [if_neg h0] at h6
   have h7 : At E (n + 1 + 1 + 1 + (paT true g.params).length + 1) ((2, kindB g.kind) :: (4, tLb) :: (stsT g.body ++ ((4, tRb) :: nlT))) := h6
   have e : kindV (pk E (n + 1 + 1 + 1 + (paT true g.params).length + 1)).text = g.kind := by rw [h7.head.2]; exact (kindV_B g.kind (by omega) hg.kind).1
   rw [if_neg (by rw [e]; exact h0)]
   exact ⟨e, h7.tail⟩
 obtain ⟨ys, e2, hev2, h8⟩ := block_rd (sts_all' g.body) (by decide) hg.body hb
 refine ⟨⟨(pk E (n + 1)).text, (pk E (n + 1)).at_, ps, kindV (pk E (n + 1 + 1 + 1 + (paT true g.params).length + 1)).text, ys⟩, _, ?_, ?_, h8.head.1, Ev.step' (h := fun f => (if (pk E (n + 1 + 1 + 1)).text = tRp then Res.ok [] (n + 1 + 1 + 1 + 1) else params E f [] (n + 1 + 1 + 1)).bind fun ps n4 => (block E f 0 (if kindV (pk E n4).text = 0 then n4 else n4 + 1)).bind fun b n5 => .ok ⟨(pk E (n + 1)).text, (pk E (n + 1)).at_, ps, kindV (pk E n4).text, b⟩ n5) (fun f => ?_) (Ev.then hps (Ev.then hev2 (Ev.pure (fun e => by cases e) fun f => rfl)))⟩
 ·unfold fuE
  simp only
  rw [e1, e2, hk, h2.2]
 ·by_cases h0 : g.kind = 0
  ·rw [hk, if_pos h0, if_pos h0]
   simp only [List.length_cons, List.length_append, nlT, List.length_nil]; omega
  ·rw [hk, if_neg h0, if_neg h0]
   simp only [List.length_cons, List.length_append, nlT, List.length_nil]; omega
 ·unfold Tr.function
  rw [take_ev (show (pk E n).text = tFunc from h1.2)]
  show (takeKind E 1 (n + 1)).bind _ = _
  rw [takeKind_ev h2.1]
  show (take E tLp (n + 1 + 1)).bind _ = _
  rw [take_ev (show (pk E (n + 1 + 1)).text = tLp from h3.2)]
  rfl
theorem fus_rd {E : Env} {gs : List Gl} : ∀ (l : List Fu) (fs : List Fu) (n : Nat), (∀ g ∈ l, GoodF g) -> fs.length + l.length <= 12 -> At E n (l.flatMap fuT) -> E.toks.length = n + (l.flatMap fuT).length -> ∃ l', l'.map fuE = l.map fuE /\ Ev (fun f => Tr.program E f ⟨gs, fs⟩ n) (.ok ⟨gs, fs ++ l'⟩ E.toks.length)
  | [], fs, n, _, _, _, hl => ⟨[], rfl, Ev.now (fun e => by cases e) fun f => by
      have hl' : E.toks.length = n := hl
      rw [programQ_eq, if_pos (by omega), List.append_nil, hl']⟩
  | g :: l, fs, n, hg, hlen, ha, hl => by
    rw [List.flatMap_cons] at ha hl
    obtain ⟨g', m, e, hm, hk, hev⟩ := fu_rd (hg g (List.mem_cons_self ..)) ha.left
    have h2 : At E (m + 1) (l.flatMap fuT) := by rw [hm]; exact ha.right
    rw [List.length_append] at hl
    have hlen' : fs.length + (l.length + 1) <= 12 := hlen
    obtain ⟨l', e2, hev2⟩ := fus_rd (gs := gs) l (fs ++ [g']) (m + 1) (fun x hx => hg x (List.mem_cons_of_mem _ hx)) (by simp; omega) h2 (by omega)
    have h1 : (pk E n).text = tFunc := (At.head (k := 2) (ks := _) ha.left).2
    have hpos : 0 < (fuT g).length := by unfold fuT; simp
    refine ⟨g' :: l', by rw [List.map_cons, List.map_cons, e, e2], Ev.step (h := fun f => (Tr.function E f n).bind fun g m => (takeKind E 5 m).bind fun _ m2 => Tr.program E f ⟨gs, fs ++ [g]⟩ m2) (fun f => ?_) (Ev.then hev (Ev.step' (h := fun f => Tr.program E f ⟨gs, fs ++ [g']⟩ (m + 1)) (fun f => ?_) ?_))⟩
    · rw [programQ_eq, if_neg (by omega), if_neg (by rw [h1]; decide), if_pos h1, if_neg (by show ¬ 12 <= fs.length; omega)]
    · rw [takeKind_ev hk]
      rfl
    · rw [List.append_assoc] at hev2
      exact hev2
theorem gls_rd {E : Env} {fl : List Fu} (hf : ∀ g ∈ fl, GoodF g) (hfl : fl.length <= 12) : ∀ (l : List Gl) (gs : List Gl) (n : Nat), gs.length + l.length <= 8 -> At E n (l.flatMap glT ++ fl.flatMap fuT) -> E.toks.length = n + (l.flatMap glT ++ fl.flatMap fuT).length -> ∃ l' fl', l'.map glE = l.map glE /\ fl'.map fuE = fl.map fuE /\ Ev (fun f => Tr.program E f ⟨gs, []⟩ n) (.ok ⟨gs ++ l', fl'⟩ E.toks.length)
 | [], gs, n, _, ha, hl => by
  obtain ⟨l', e, hev⟩ := fus_rd (gs := gs) fl [] n hf (by simpa using hfl) ha hl
  exact ⟨[], l', rfl, e, by rw [List.append_nil]; exact hev⟩
 | g :: l, gs, n, hlen, ha, hl => by
  have ha' : At E n ((2, tVar) :: (1, g.name) :: (5, [10]) :: (l.flatMap glT ++ fl.flatMap fuT)) := ha
  have hl' : E.toks.length = n + ((2, tVar) :: (1, g.name) :: (5, [10]) :: (l.flatMap glT ++ fl.flatMap fuT)).length := hl
  simp only [List.length_cons] at hl'
  have h1 := ha'.head
  have h2 := ha'.tail.head
  have h3 := ha'.tail.tail.head
  have hlen' : gs.length + (l.length + 1) <= 8 := hlen
  obtain ⟨l', fl', e, e2, hev⟩ := gls_rd hf hfl l (gs ++ [⟨(pk E (n + 1)).text, (pk E (n + 1)).at_⟩]) (n + 1 + 1 + 1) (by simp; omega) ha'.tail.tail.tail (by omega)
  refine ⟨⟨(pk E (n + 1)).text, (pk E (n + 1)).at_⟩ :: l', fl', by rw [List.map_cons, List.map_cons, e]; unfold glE; rw [h2.2], e2, Ev.step (h := fun f => Tr.program E f ⟨gs ++ [⟨(pk E (n + 1)).text, (pk E (n + 1)).at_⟩], []⟩ (n + 1 + 1 + 1)) (fun f => ?_) ?_⟩
  ·rw [programQ_eq, if_neg (by omega), if_pos h1.2, if_neg (by show ¬ 8 <= gs.length; omega), takeKind_ev h2.1]
   show (takeKind E 5 (n + 1 + 1)).bind _ = _
   rw [takeKind_ev h3.1]
   rfl
  ·rw [List.append_assoc] at hev
   exact hev
theorem src_rd {ts : List Tok} {en : Nat} {s : Src} (hg : GoodSrc s) (ht : ts.map kt = srcT s) : ∃ s', s'.globals.map glE = s.globals.map glE /\ s'.funcs.map fuE = s.funcs.map fuE /\ Ev (fun f => Tr.program ⟨ts, en⟩ f ⟨[], []⟩ 0) (.ok s' ts.length) := by
 have ha : At ⟨ts, en⟩ 0 (srcT s) := fun i q hi => by
  rw [<- ht, List.getElem?_map] at hi
  obtain ⟨t, h1, rfl⟩ := Option.map_eq_some_iff.1 hi
  rw [Nat.zero_add]
  unfold pk
  rw [h1]
  exact ⟨rfl, rfl⟩
 have hl : (⟨ts, en⟩ : Env).toks.length = 0 + (srcT s).length := by rw [<- ht, List.length_map, Nat.zero_add]
 obtain ⟨l', fl', e1, e2, hev⟩ := gls_rd (E := ⟨ts, en⟩) hg.fus hg.nf s.globals [] 0 (by simpa using hg.ng) ha hl
 exact ⟨⟨l', fl'⟩, e1, e2, hev⟩
theorem Lz.ks {t r : B} {k k' : List (Nat × B)} {m : Bool -> Bool} (h : Lz t k m r) (e : k = k') : Lz t k' m r := e ▸ h
theorem Lz.fl {t r : B} {k : List (Nat × B)} {m m' : Bool -> Bool} (h : Lz t k m r) (e : ∀ b, m b = m' b) : Lz t k m' r := by
 have : m = m' := funext e
 exact this ▸ h
theorem pad_lz : ∀ (d : Nat) (r : B), Lz (padV d) [] id r
 | 0, r => Lz.nil r
 | d + 1, r => (pad_lz d ([32, 32] ++ r)).app (m2 := id) (k2 := []) (show Lz [32, 32] [] id r from (Lz.sp ([32] ++ r)).app (Lz.sp r))
theorem line_ends {d : Nat} {t r : B} {ks : List (Nat × B)} (h : Lz t ks (fun _ => true) (10 :: r)) : Lz (lineV d t) (ks ++ nlT) (fun _ => false) r := (pad_lz d ((t ++ [10]) ++ r)).app (Lz.line h)
theorem line_open {d : Nat} {t r : B} {ks : List (Nat × B)} (h : Lz t ks (fun _ => false) (10 :: r)) : Lz (lineV d t) ks (fun _ => false) r := (pad_lz d ((t ++ [10]) ++ r)).app (Lz.noline h)
theorem ex_cut {x : Ex} {d : Nat} (k : Nat) (h : GoodB x d) {r : B} (hr : BdR r) : Lz (exV k x) (exT k x) (fun _ => true) r := (((lex_ex x d h).w (least := k)).cut r hr)
theorem kw {t : B} (h : wordV t = t.length /\ 0 < letV t /\ isKeyV t = true) {r : B} (hr : BdR r) : Lz t [(2, t)] (fun _ => mayV 2 t) r := Lz.word (key_word h) hr
theorem sg {z x : B} {b : UInt8} (hz : z ∈ sigsL) (hb : isStop b = true) : Lz z [(4, z)] (fun _ => mayV 4 z) (b :: x) := Lz.sig (SigT.stop hz hb)
theorem kw_ex {t : B} (h : wordV t = t.length /\ 0 < letV t /\ isKeyV t = true) {x : Ex} {d : Nat} (hx : GoodB x d) (r : B) : Lz (t ++ ([32] ++ exV 1 x)) ([(2, t)] ++ exT 1 x) (fun _ => true) (10 :: r) :=
 (kw h (BdR.cons bd_32)).app ((Lz.sp _).app (ex_cut 1 hx (BdR.cons bd_10)))
theorem kw_open {t : B} (h : wordV t = t.length /\ 0 < letV t /\ isKeyV t = true) {x : Ex} {d : Nat} (hx : GoodB x d) (r : B) : Lz (t ++ ([32] ++ (exV 1 x ++ ([32] ++ tLb)))) ([(2, t)] ++ (exT 1 x ++ [(4, tLb)])) (fun _ => false) (10 :: r) :=
 (kw h (BdR.cons bd_32)).app ((Lz.sp _).app ((ex_cut 1 hx (BdR.cons bd_32)).app ((Lz.sp _).app (Lz.sig (sig_lb _)))))
def nilS : Sts -> Bool
 | .nil => true
 | .cons _ _ => false
def nilC : Cas -> Bool
 | .nil => true
 | .cons _ _ => false
def StLz (s : St) : Prop := ∀ dep, GoodS s dep -> ∀ d r, Lz (stV d s) (stT s) (fun _ => false) r
def StsLz (s : Sts) : Prop := ∀ dep, GoodSs s dep -> ∀ d r, Lz (stsV d s) (stsT s) (fun m => if nilS s then m else false) r
def CaLz (s : Ca) : Prop := ∀ dep, GoodC s dep -> ∀ d r, Lz (caV d s) (caT s) (fun _ => false) r
def CasLz (s : Cas) : Prop := ∀ dep, GoodCs s dep -> ∀ d r, Lz (casV d s) (casT s) (fun m => if nilC s then m else false) r
theorem end_lz (d : Nat) (r : B) : Lz (lineV d cEnd) ((4, tRb) :: nlT) (fun _ => false) r := line_ends (ks := [(4, tRb)]) (Lz.sig (sig_rb _))
theorem st_lz {code a : Nat} {name : B} {dst val : Ex} {thn els : Sts} {cases : Cas} (hThn : StsLz thn) (hEls : StsLz els) (hCas : CasLz cases) : StLz (.mk code a name dst val thn els cases) := fun dep hg d r => by
 rw [GoodS] at hg
 rcases hg with ⟨rfl | rfl, hw, rfl, hv, rfl, rfl, rfl⟩ | ⟨rfl, rfl, hd, hv, rfl, rfl, rfl⟩ | ⟨rfl, rfl, rfl, hv, rfl, rfl, rfl⟩ | ⟨rfl | rfl, rfl, rfl, hv, rfl, rfl, rfl⟩ | ⟨rfl, rfl, rfl, hv, hc, rfl, rfl, rfl⟩ | ⟨rfl, rfl, rfl, hv, rfl, rfl, rfl⟩ | ⟨rfl | rfl, rfl, rfl, rfl, rfl, rfl, rfl⟩ | ⟨rfl, rfl, rfl, hv, hc, rfl, rfl, rfl⟩ | ⟨rfl, rfl, rfl, hv, hdp, hg1, hg2, rfl⟩ | ⟨rfl, rfl, rfl, hv, hdp, hg1, rfl, rfl⟩ | ⟨rfl, rfl, rfl, rfl, rfl, rfl, hdp, h6, hg1⟩
 ·rw [show stV d (.mk 1 a name .nil val .nil .nil .nil) = lineV d (name ++ ([32] ++ (tLet ++ ([32] ++ exV 1 val)))) by rw [stV]; rfl, show stT (.mk 1 a name .nil val .nil .nil .nil) = ([(1, name)] ++ ([(4, tLet)] ++ exT 1 val)) ++ nlT by rw [stT]; rfl]
  exact line_ends ((Lz.word hw (BdR.cons bd_32)).app ((Lz.sp _).app ((sg (by decide) stop_32).app ((Lz.sp _).app (ex_cut 1 hv (BdR.cons bd_10))))))
 ·rw [show stV d (.mk 2 a name .nil val .nil .nil .nil) = lineV d (name ++ ([32] ++ (tSet ++ ([32] ++ exV 1 val)))) by rw [stV]; rfl, show stT (.mk 2 a name .nil val .nil .nil .nil) = ([(1, name)] ++ ([(4, tSet)] ++ exT 1 val)) ++ nlT by rw [stT]; rfl]
  exact line_ends ((Lz.word hw (BdR.cons bd_32)).app ((Lz.sp _).app ((sg (by decide) stop_32).app ((Lz.sp _).app (ex_cut 1 hv (BdR.cons bd_10))))))
 ·rw [show stV d (.mk 3 a [] dst val .nil .nil .nil) = lineV d (exV 6 dst ++ ([32] ++ (tArrow ++ ([32] ++ exV 1 val)))) by rw [stV]; rfl, show stT (.mk 3 a [] dst val .nil .nil .nil) = (exT 6 dst ++ ([(4, tArrow)] ++ exT 1 val)) ++ nlT by rw [stT]; simp]
  exact line_ends ((ex_cut 6 hd (BdR.cons bd_32)).app ((Lz.sp _).app ((sg (by decide) stop_32).app ((Lz.sp _).app (ex_cut 1 hv (BdR.cons bd_10))))))
 ·rw [show stV d (.mk 4 a [] .nil val .nil .nil .nil) = lineV d (tClose ++ ([40] ++ (exV 1 val ++ [41]))) by rw [stV]; rfl, show stT (.mk 4 a [] .nil val .nil .nil .nil) = ([(2, tClose)] ++ ([(4, [40])] ++ (exT 1 val ++ [(4, [41])]))) ++ nlT by rw [stT]; rfl]
  exact line_ends ((kw (by decide) (BdR.cons bd_40)).app ((Lz.sig (sig_lp _)).app ((ex_cut 1 hv (BdR.cons bd_41)).app (Lz.sig (sig_rp _)))))
 ·rw [show stV d (.mk 5 a [] .nil val .nil .nil .nil) = lineV d (tPrint ++ ([32] ++ exV 1 val)) by rw [stV]; rfl, show stT (.mk 5 a [] .nil val .nil .nil .nil) = ([(2, tPrint)] ++ exT 1 val) ++ nlT by rw [stT]; rfl]
  exact line_ends (kw_ex (by decide) hv r)
 ·rw [show stV d (.mk 6 a [] .nil val .nil .nil .nil) = lineV d (tSleep ++ ([32] ++ exV 1 val)) by rw [stV]; rfl, show stT (.mk 6 a [] .nil val .nil .nil .nil) = ([(2, tSleep)] ++ exT 1 val) ++ nlT by rw [stT]; rfl]
  exact line_ends (kw_ex (by decide) hv r)
 ·rw [show stV d (.mk 7 a [] .nil val .nil .nil .nil) = lineV d (tGo ++ ([32] ++ exV 1 val)) by rw [stV]; rfl, show stT (.mk 7 a [] .nil val .nil .nil .nil) = ([(2, tGo)] ++ exT 1 val) ++ nlT by rw [stT]; rfl]
  exact line_ends (kw_ex (by decide) hv r)
 ·rcases hv with rfl | hv
  ·rw [show stV d (.mk 8 a [] .nil .nil .nil .nil .nil) = lineV d tReturn by rw [stV]; rfl, show stT (.mk 8 a [] .nil .nil .nil .nil .nil) = [(2, tReturn)] ++ nlT by rw [stT]; rfl]
   exact line_ends (kw (by decide) (BdR.cons bd_10))
  ·have e1 : stV d (.mk 8 a [] .nil val .nil .nil .nil) = lineV d (tReturn ++ ([32] ++ exV 1 val)) := by
    rw [stV]
    cases val with
    | nil => rw [GoodB] at hv; exact hv.elim
    | mk => rfl
   have e2 : stT (.mk 8 a [] .nil val .nil .nil .nil) = ([(2, tReturn)] ++ exT 1 val) ++ nlT := by
    rw [stT]
    cases val with
    | nil => rw [GoodB] at hv; exact hv.elim
    | mk => rfl
   rw [e1, e2]
   exact line_ends (kw_ex (by decide) hv r)
 ·rw [show stV d (.mk 9 a [] .nil .nil .nil .nil .nil) = lineV d tBreak by rw [stV]; rfl, show stT (.mk 9 a [] .nil .nil .nil .nil .nil) = [(2, tBreak)] ++ nlT by rw [stT]; rfl]
  exact line_ends (kw (by decide) (BdR.cons bd_10))
 ·rw [show stV d (.mk 10 a [] .nil .nil .nil .nil .nil) = lineV d tContinue by rw [stV]; rfl, show stT (.mk 10 a [] .nil .nil .nil .nil .nil) = [(2, tContinue)] ++ nlT by rw [stT]; rfl]
  exact line_ends (kw (by decide) (BdR.cons bd_10))
 ·rw [show stV d (.mk 11 a [] .nil val .nil .nil .nil) = lineV d (exV 1 val) by rw [stV]; rfl, show stT (.mk 11 a [] .nil val .nil .nil .nil) = exT 1 val ++ nlT by rw [stT]; rfl]
  exact line_ends (ex_cut 1 hv (BdR.cons bd_10))
 ·by_cases h0 : els.len = 0
  ·rw [show stV d (.mk 12 a [] .nil val thn els .nil) = lineV d (tIf ++ ([32] ++ (exV 1 val ++ ([32] ++ tLb)))) ++ (stsV (d + 1) thn ++ lineV d cEnd) by rw [stV]; simp only [reduceIte, Nat.reduceEqDiff, h0]; rfl, show stT (.mk 12 a [] .nil val thn els .nil) = ([(2, tIf)] ++ (exT 1 val ++ [(4, tLb)])) ++ (stsT thn ++ ((4, tRb) :: nlT)) by rw [stT]; simp only [reduceIte, Nat.reduceEqDiff, h0]; simp]
   exact (line_open (kw_open (by decide) hv _)).app ((hThn _ hg1 (d + 1) _).app (end_lz d r))
  ·rw [show stV d (.mk 12 a [] .nil val thn els .nil) = lineV d (tIf ++ ([32] ++ (exV 1 val ++ ([32] ++ tLb)))) ++ (stsV (d + 1) thn ++ (lineV d (tRb ++ ([32] ++ (tElse ++ ([32] ++ tLb)))) ++ (stsV (d + 1) els ++ lineV d cEnd))) by rw [stV]; simp only [reduceIte, Nat.reduceEqDiff, h0, List.append_assoc]; rfl, show stT (.mk 12 a [] .nil val thn els .nil) = ([(2, tIf)] ++ (exT 1 val ++ [(4, tLb)])) ++ (stsT thn ++ (([(4, tRb)] ++ ([(2, tElse)] ++ [(4, tLb)])) ++ (stsT els ++ ((4, tRb) :: nlT)))) by rw [stT]; simp only [reduceIte, Nat.reduceEqDiff, h0]; simp]
   exact (line_open (kw_open (by decide) hv _)).app ((hThn _ hg1 (d + 1) _).app ((line_open ((Lz.sig (sig_rb _)).app ((Lz.sp _).app ((kw (by decide) (BdR.cons bd_32)).app ((Lz.sp _).app (Lz.sig (sig_lb _))))))).app ((hEls _ hg2 (d + 1) _).app (end_lz d r))))
 ·rw [show stV d (.mk 13 a [] .nil val thn .nil .nil) = lineV d (tFor ++ ([32] ++ (exV 1 val ++ ([32] ++ tLb)))) ++ (stsV (d + 1) thn ++ lineV d cEnd) by rw [stV]; rfl, show stT (.mk 13 a [] .nil val thn .nil .nil) = ([(2, tFor)] ++ (exT 1 val ++ [(4, tLb)])) ++ (stsT thn ++ ((4, tRb) :: nlT)) by rw [stT]; simp]
  exact (line_open (kw_open (by decide) hv _)).app ((hThn _ hg1 (d + 1) _).app (end_lz d r))
 ·rw [show stV d (.mk 14 a [] .nil .nil .nil .nil cases) = lineV d (tSelect ++ ([32] ++ tLb)) ++ (casV d cases ++ lineV d cEnd) by rw [stV]; rfl, show stT (.mk 14 a [] .nil .nil .nil .nil cases) = ([(2, tSelect)] ++ [(4, tLb)]) ++ (casT cases ++ ((4, tRb) :: nlT)) by rw [stT]; rfl]
  exact (line_open ((kw (by decide) (BdR.cons bd_32)).app ((Lz.sp _).app (Lz.sig (sig_lb _))))).app ((hCas _ hg1 d _).app (end_lz d r))
theorem ca_lz {code a : Nat} {name : B} {dst val : Ex} {body : Sts} (hb : StsLz body) : CaLz (.mk code a name dst val body) := fun dep hg d r => by
 rw [GoodC] at hg
 obtain ⟨hg, hgb⟩ := hg
 have hbody := hb dep hgb (d + 1) r
 have fin : ∀ {t : B} {ks : List (Nat × B)}, Lz t ks (fun _ => false) (10 :: (stsV (d + 1) body ++ r)) -> Lz (lineV d t ++ stsV (d + 1) body) (ks ++ stsT body) (fun _ => false) r := fun h => ((line_open h).app hbody).fl (fun b => by show (if nilS body then false else false) = false; split <;> rfl)
 rcases hg with ⟨rfl, rfl, hd, hv⟩ | ⟨rfl, rfl, hd, rfl⟩ | ⟨rfl, hw, hd, rfl⟩ | ⟨rfl, rfl, rfl, rfl⟩
 ·rw [show caV d (.mk 3 a [] dst val body) = lineV d (tCase ++ ([32] ++ (exV 6 dst ++ ([32] ++ (tArrow ++ ([32] ++ (exV 1 val ++ tColon))))))) ++ stsV (d + 1) body by rw [caV]; unfold talkV sentV; rw [if_pos rfl]; simp [cCase, cColon, tCase, tArrow, tColon], show caT (.mk 3 a [] dst val body) = ([(2, tCase)] ++ (exT 6 dst ++ ([(4, tArrow)] ++ (exT 1 val ++ [(4, tColon)])))) ++ stsT body by rw [caT]; unfold talkT; rw [if_pos rfl]; simp]
  exact fin ((kw (by decide) (BdR.cons bd_32)).app ((Lz.sp _).app ((ex_cut 6 hd (BdR.cons bd_32)).app ((Lz.sp _).app ((sg (by decide) stop_32).app ((Lz.sp _).app ((ex_cut 1 hv (BdR.cons bd_58)).app (sg (by decide) stop_10))))))))
 ·rw [show caV d (.mk 10 a [] dst .nil body) = lineV d (tCase ++ ([32] ++ (tArrow ++ (exV 6 dst ++ tColon)))) ++ stsV (d + 1) body by rw [caV]; unfold talkV; rw [if_neg (by decide), if_pos rfl, if_pos rfl]; simp [cCaseRecv, cColon, tCase, tArrow, tColon], show caT (.mk 10 a [] dst .nil body) = ([(2, tCase)] ++ ([(4, tArrow)] ++ (exT 6 dst ++ [(4, tColon)]))) ++ stsT body by rw [caT]; unfold talkT; rw [if_neg (by decide), if_pos rfl, if_pos rfl]; simp]
  exact fin ((kw (by decide) (BdR.cons bd_32)).app ((Lz.sp _).app ((Lz.sig (sig_arrow _)).app ((ex_cut 6 hd (BdR.cons bd_58)).app (sg (by decide) stop_10)))))
 ·rw [show caV d (.mk 10 a name dst .nil body) = lineV d (tCase ++ ([32] ++ (name ++ ([32] ++ (tLet ++ ([32] ++ (tArrow ++ (exV 6 dst ++ tColon)))))))) ++ stsV (d + 1) body by rw [caV]; unfold talkV; rw [if_neg (by decide), if_pos rfl, if_neg hw.ne]; simp [cCase, cLetRecv, cColon, tCase, tArrow, tColon, tLet], show caT (.mk 10 a name dst .nil body) = ([(2, tCase)] ++ ([(1, name)] ++ ([(4, tLet)] ++ ([(4, tArrow)] ++ (exT 6 dst ++ [(4, tColon)]))))) ++ stsT body by rw [caT]; unfold talkT; rw [if_neg (by decide), if_pos rfl, if_neg hw.ne]; simp]
  exact fin ((kw (by decide) (BdR.cons bd_32)).app ((Lz.sp _).app ((Lz.word hw (BdR.cons bd_32)).app ((Lz.sp _).app ((sg (by decide) stop_32).app ((Lz.sp _).app ((Lz.sig (sig_arrow _)).app ((ex_cut 6 hd (BdR.cons bd_58)).app (sg (by decide) stop_10)))))))))
 ·rw [show caV d (.mk 40 a [] .nil .nil body) = lineV d (tDefault ++ tColon) ++ stsV (d + 1) body by rw [caV]; rfl, show caT (.mk 40 a [] .nil .nil body) = ([(2, tDefault)] ++ [(4, tColon)]) ++ stsT body by rw [caT]; rfl]
  exact fin ((kw (by decide) (BdR.cons bd_58)).app (sg (by decide) stop_10))
mutual
theorem st_lzs : ∀ s : St, StLz s
 | .mk _ _ _ _ _ thn els cases => st_lz (sts_lzs thn) (sts_lzs els) (cas_lzs cases)
theorem sts_lzs : ∀ xs : Sts, StsLz xs
 | .nil => fun _ _ d r => by rw [stsV, stsT]; exact Lz.nil r
 | .cons x xs => fun dep hg d r => by
  rw [GoodSs] at hg
  rw [stsV, stsT]
  exact ((st_lzs x dep hg.1 d _).app (sts_lzs xs dep hg.2 d r)).fl (fun b => by show (if nilS xs then false else false) = false; split <;> rfl)
theorem ca_lzs : ∀ c : Ca, CaLz c
 | .mk _ _ _ _ _ body => ca_lz (sts_lzs body)
theorem cas_lzs : ∀ xs : Cas, CasLz xs
 | .nil => fun _ _ d r => by rw [casV, casT]; exact Lz.nil r
 | .cons x xs => fun dep hg d r => by
  rw [GoodCs] at hg
  rw [casV, casT]
  exact ((ca_lzs x dep hg.1 d _).app (cas_lzs xs dep hg.2 d r)).fl (fun b => by show (if nilC xs then false else false) = false; split <;> rfl)
end
theorem kind_word : ∀ k, 1 <= k -> k <= 3 -> WordT 2 (kindB k) := by
 intro k h1 h3
 rcases (by omega : k = 1 \/ k = 2 \/ k = 3) with rfl | rfl | rfl <;> exact key_word (by decide)
def nilP : List Pa -> Bool
 | [] => true
 | _ :: _ => false
theorem par_bd (ps : List Pa) {r : B} (hr : BdR r) : BdR (parL false ps ++ r) := by
 cases ps with
 | nil => exact hr
 | cons p ps => exact BdR.cons bd_44
theorem par_lz : ∀ (ps : List Pa) (f : Bool) (r : B), (∀ p ∈ ps, GoodP p) -> BdR r -> Lz (parL f ps) (paT f ps) (fun m => if nilP ps then m else true) r
 | [], _, r, _, _ => Lz.nil r
 | p :: ps, f, r, hg, hr => by
  obtain ⟨g1, g2, g3⟩ := hg p (List.mem_cons_self ..)
  have hm : mayV 2 (kindB p.kind) = true := by rcases (by omega : p.kind = 1 \/ p.kind = 2 \/ p.kind = 3) with h | h | h <;> rw [h] <;> decide
  have k0 := (Lz.word g1 (r := [32] ++ (kindB p.kind ++ (parL false ps ++ r))) (BdR.cons bd_32)).app (t2 := [32] ++ kindB p.kind) (r := parL false ps ++ r) ((Lz.sp _).app (Lz.word (kind_word p.kind g2 g3) (par_bd ps hr)))
  have k1 : Lz (paV p) [(1, p.name), (2, kindB p.kind)] (fun _ => true) (parL false ps ++ r) := k0.fl (fun _ => hm)
  have k2 := par_lz ps false r (fun x hx => hg x (List.mem_cons_of_mem _ hx)) hr
  have k3 : Lz (paV p ++ parL false ps) ([(1, p.name), (2, kindB p.kind)] ++ paT false ps) (fun _ => true) r := (k1.app k2).fl (fun b => by show (if nilP ps then true else true) = true; split <;> rfl)
  cases f with
  | true => exact k3
  | false =>
   have k4 : Lz ([44] ++ [32]) ([(4, [44])] ++ []) (id ∘ fun _ => mayV 4 [44]) ((paV p ++ parL false ps) ++ r) := (Lz.sig (sig_comma _)).app (Lz.sp _)
   exact k4.app k3
theorem fu_lz {g : Fu} (hg : GoodF g) (r : B) : Lz (fuV g) (fuT g) (fun _ => false) r := by
 have hend := (sts_lzs g.body 1 hg.body 1 (lineV 0 cEnd ++ r)).app (end_lz 0 r)
 have hhead : ∀ {K : B} {ks : List (Nat × B)} {m : Bool -> Bool}, (∀ q, BdR ([32] ++ (K ++ (tLb ++ q)))) -> (∀ q, Lz K ks m (tLb ++ q)) -> Lz ((tFunc ++ ([32] ++ (g.name ++ ([40] ++ (parL true g.params ++ ([41] ++ ([32] ++ (K ++ tLb)))))))) ++ [10]) ([(2, tFunc)] ++ ([(1, g.name)] ++ ([(4, [40])] ++ (paT true g.params ++ ([(4, [41])] ++ (ks ++ [(4, tLb)])))))) (fun _ => false) ((stsV 1 g.body ++ lineV 0 cEnd) ++ r) := fun hb hK =>
  Lz.noline ((kw (by decide) (BdR.cons bd_32)).app ((Lz.sp _).app ((Lz.word hg.name (BdR.cons bd_40)).app ((Lz.sig (sig_lp _)).app ((par_lz g.params true _ hg.params (BdR.cons bd_41)).app ((Lz.sig (sig_rp _)).app ((Lz.sp _).app ((hK _).app (Lz.sig (sig_lb _))))))))))
 by_cases h0 : g.kind = 0
 ·have e1 : fuV g = ((tFunc ++ ([32] ++ (g.name ++ ([40] ++ (parL true g.params ++ ([41] ++ ([32] ++ ([] ++ tLb)))))))) ++ [10]) ++ (stsV 1 g.body ++ lineV 0 cEnd) := by
   unfold fuV
   rw [if_pos h0]
   simp [cFunc, tFunc, tLb]
  have e2 : fuT g = ([(2, tFunc)] ++ ([(1, g.name)] ++ ([(4, [40])] ++ (paT true g.params ++ ([(4, [41])] ++ ([] ++ [(4, tLb)])))))) ++ (stsT g.body ++ ((4, tRb) :: nlT)) := by
   unfold fuT
   rw [if_pos h0]
   simp
  rw [e1, e2]
  exact ((hhead (fun q => BdR.cons bd_32) (fun q => Lz.nil _)).app hend).fl (fun b => rfl)
 ·have e1 : fuV g = ((tFunc ++ ([32] ++ (g.name ++ ([40] ++ (parL true g.params ++ ([41] ++ ([32] ++ ((kindB g.kind ++ [32]) ++ tLb)))))))) ++ [10]) ++ (stsV 1 g.body ++ lineV 0 cEnd) := by
   unfold fuV
   rw [if_neg h0]
   simp [cFunc, tFunc, tLb]
  have e2 : fuT g = ([(2, tFunc)] ++ ([(1, g.name)] ++ ([(4, [40])] ++ (paT true g.params ++ ([(4, [41])] ++ ([(2, kindB g.kind)] ++ [(4, tLb)])))))) ++ (stsT g.body ++ ((4, tRb) :: nlT)) := by
   unfold fuT
   rw [if_neg h0]
   simp
  rw [e1, e2]
  exact ((hhead (ks := [(2, kindB g.kind)] ++ []) (fun q => BdR.cons bd_32) (fun q => (Lz.word (kind_word g.kind (by omega) hg.kind) (BdR.cons bd_32)).app (Lz.sp _))).app hend).fl (fun b => rfl)
theorem gls_lz : ∀ (l : List Gl) (r : B), (∀ g ∈ l, WordT 1 g.name) -> Lz (l.flatMap glV) (l.flatMap glT) (fun m => if l.isEmpty then m else false) r
 | [], r, _ => Lz.nil r
 | g :: l, r, hg => by
  have k1 : Lz (glV g) (glT g) (fun _ => false) (l.flatMap glV ++ r) := line_ends (ks := [(2, tVar), (1, g.name)]) ((kw (t := tVar) (by decide) (BdR.cons bd_32)).app ((Lz.sp _).app (Lz.word (hg g (List.mem_cons_self ..)) (BdR.cons bd_10))))
  rw [List.flatMap_cons, List.flatMap_cons]
  exact (k1.app (gls_lz l r (fun x hx => hg x (List.mem_cons_of_mem _ hx)))).fl (fun b => by show (if l.isEmpty then false else false) = false; split <;> rfl)
theorem fus_lz : ∀ (l : List Fu) (r : B), (∀ g ∈ l, GoodF g) -> Lz (l.flatMap fuV) (l.flatMap fuT) (fun m => if l.isEmpty then m else false) r
 | [], r, _ => Lz.nil r
 | g :: l, r, hg => by
  rw [List.flatMap_cons, List.flatMap_cons]
  exact ((fu_lz (hg g (List.mem_cons_self ..)) _).app (fus_lz l r (fun x hx => hg x (List.mem_cons_of_mem _ hx)))).fl (fun b => by show (if l.isEmpty then false else false) = false; split <;> rfl)
theorem src_lx {s : Src} (hg : GoodSrc s) : ∃ ts, lx (printV s) 0 false = (ts, none) /\ ts.map kt = srcT s := by
 have h := ((gls_lz s.globals (s.funcs.flatMap fuV ++ []) hg.gls).app (fus_lz s.funcs [] hg.fus)) 0 false
 obtain ⟨ts, e, hl⟩ := h
 refine ⟨ts, ?_, e⟩
 rw [List.append_nil, lx_nil] at hl
 have hb : (((fun m => if s.funcs.isEmpty then m else false) ∘ fun m => if s.globals.isEmpty then m else false) false) = false := by
  show (if s.funcs.isEmpty then (if s.globals.isEmpty then false else false) else false) = false
  split
  ·split <;> rfl
  ·rfl
 rw [hb] at hl
 show lx (s.globals.flatMap glV ++ s.funcs.flatMap fuV) 0 false = _
 rw [hl]
 simp [endV]
end Tr
end Go.Proofs.YtjejcajnnbilmaaGreatDoor
namespace Go.Proofs.YtjejcajnnbilmaaGreatDoor
open Go.RowKit Lx Tr
def wsT (E : Env) : Nat -> Nat
 | 0 => 0
 | n + 1 => wsT E n + ((pk E n).text.length + 128)
theorem ws_add (E : Env) (n k : Nat) : wsT E n + 128 * k <= wsT E (n + k) := by
 induction k with
 | zero => simp
 | succ k ih => show _ <= wsT E (n + k) + _; omega
theorem ws_mono (E : Env) {n m : Nat} (h : n <= m) : wsT E n + 128 * (m - n) <= wsT E m := by
 have := ws_add E n (m - n)
 rw [show n + (m - n) = m by omega] at this
 exact this
theorem ws_one (E : Env) (n : Nat) : wsT E (n + 1) = wsT E n + ((pk E n).text.length + 128) := rfl
theorem signL_len (k : Nat) : (signL k).length <= 3 := by
 unfold signL
 by_cases h : k < signsL.length
 ·have : ∀ x ∈ signsL, x.length <= 3 := by decide
  rw [List.getD_eq_getElem?_getD, List.getElem?_eq_getElem h]
  exact this _ (List.getElem_mem h)
 ·rw [List.getD_eq_getElem?_getD, List.getElem?_eq_none (by omega)]
  exact Nat.zero_le _
theorem sgV_len (k : Nat) : (sgV k).length <= 3 := by
 unfold sgV
 split
 ·decide
 ·split
  ·decide
  ·exact signL_len k
theorem kindB_len (k : Nat) : (kindB k).length <= 4 := by
 unfold kindB
 by_cases h : k < kindsL.length
 ·have : ∀ x ∈ kindsL, x.length <= 4 := by decide
  rw [List.getD_eq_getElem?_getD, List.getElem?_eq_getElem h]
  exact this _ (List.getElem_mem h)
 ·rw [List.getD_eq_getElem?_getD, List.getElem?_eq_none (by omega)]
  exact Nat.zero_le _
theorem exW_len (least : Nat) (x : Ex) (b : Lx.B) : (exW least x b).length <= b.length + 2 := by
 unfold exW
 split
 ·exact Nat.zero_le _
 ·split
  ·simp
  ·omega
def ExL (E : Env) (n m : Nat) (x : Ex) : Prop := ExOk x /\ (bareV x).length + 64 + wsT E n <= wsT E m
def ExsL (E : Env) (n m : Nat) (x : Exs) : Prop := ExsOk x /\ (argV true x).length + 64 + wsT E n <= wsT E m
theorem ExL.ex {E : Env} {n m : Nat} {x : Ex} (h : ExL E n m x) (least : Nat) : (exV least x).length + 62 + wsT E n <= wsT E m := by
 have := exW_len least x (bareV x)
 have := h.2
 unfold exV; omega
theorem argV_snoc : ∀ (xs : Exs) (f : Bool) (y : Ex), (argV f (xs.snoc y)).length <= (argV f xs).length + (bareV y).length + 4
 | .nil, f, y => by
  rw [Exs.snoc, argV, argV, argV]
  have := exW_len 1 y (bareV y)
  cases f <;> simp <;> omega
 | .cons x xs, f, y => by
  rw [Exs.snoc, argV, argV]
  have := argV_snoc xs false y
  simp only [List.length_append]
  omega
theorem ExsOk_snoc : ∀ (xs : Exs) (y : Ex), ExsOk xs -> ExOk y -> ExsOk (xs.snoc y)
 | .nil, _, _, h => ⟨h, trivial⟩
 | .cons _ xs, y, h, h2 => ⟨h.1, ExsOk_snoc xs y h.2 h2⟩
theorem ExL.leaf {E : Env} {n code at_ k : Nat} {nm : Lx.B} (hk : k <= 9223372036854775807) (hnm : nm.length <= (pk E n).text.length) : ExL E n (n + 1) (Tr.leaf code at_ k nm) := by
 refine ⟨⟨hk, trivial, trivial, trivial⟩, ?_⟩
 rw [ws_one]
 have h1 : (sOfB k).length <= 21 := Lib.itoa_length_le _ (by omega) (by omega)
 have h2 : (bareV (Tr.leaf code at_ k nm)).length <= (pk E n).text.length + 64 := by
  unfold Tr.leaf
  rw [bareV]
  have e0 : exW 6 Ex.nil (bareV .nil) = [] := rfl
  have e1 : exW 1 Ex.nil (bareV .nil) = [] := rfl
  have e2 : exW (levV 0) Ex.nil (bareV .nil) = [] := rfl
  have e3 : exW (levV 0 + 1) Ex.nil (bareV .nil) = [] := rfl
  have e4 : argV true Exs.nil = [] := by rw [argV]
  have h3 := sgV_len 0
  have h4 := signL_len 0
  rw [e0, e1, e2, e3, e4]
  repeat' split
  all_goals ((try simp only [List.length_append, List.length_cons, List.length_nil, List.append_nil, tTrue, tFalse, tNil, tArrow, tMake, tLen]); omega)
 omega
structure Lens (E : Env) (f : Nat) : Prop where
 one : ∀ d n x m, one E f d n = .ok x m -> ExL E n m x
 bracketed : ∀ d n x m, bracketed E f d n = .ok x m -> ExL E n m x
 tied : ∀ l d n x m, tied E f l d n = .ok x m -> ExL E n m x
 tloop : ∀ l d a n0 n x m, tloop E f l d a n = .ok x m -> ExL E n0 n a -> ExL E n0 m x
 named : ∀ d n x m, named E f d n = .ok x m -> ExL E n m x
 call : ∀ d t n0 n x m, call E f d t n = .ok x m -> wsT E n0 + t.text.length + 128 <= wsT E n -> ExL E n0 m x
 args : ∀ d a n0 n x m, args E f d a n = .ok x m -> ExsL E n0 n a -> ExsL E n0 m x
theorem take_one {E : Env} {t : Lx.B} {n m : Nat} {x : Tok} (h : take E t n = .ok x m) : m = n + 1 := by
 unfold take Tr.fail at h
 split at h
 ·cases h; rfl
 ·cases h
theorem takeKind_one {E : Env} {q n m : Nat} {x : Tok} (h : takeKind E q n = .ok x m) : m = n + 1 /\ x = pk E n := by
 unfold takeKind Tr.fail at h
 split at h
 ·cases h; exact ⟨rfl, rfl⟩
 ·cases h
theorem un_len {E : Env} {n m code at_ k op : Nat} {x : Ex} (hk : k <= 9223372036854775807) (hc : code = 6 \/ code = 10 \/ code = 8 \/ code = 9) (h : ExL E (n + 1) m x) : ExL E n m (.mk code at_ k op [] x .nil .nil) := by
 refine ⟨⟨hk, h.1, trivial, trivial⟩, ?_⟩
 have h2 := h.2
 rw [ws_one] at h2
 have h3 : (bareV (.mk code at_ k op [] x .nil .nil)).length <= (bareV x).length + 8 := by
  have a1 := exW_len 6 x (bareV x)
  have a2 := exW_len 1 x (bareV x)
  have a3 := signL_len op
  rw [bareV]
  rcases hc with rfl | rfl | rfl | rfl
  all_goals (simp only [reduceIte, List.length_append, List.length_cons, List.length_nil, tTrue, tFalse, tNil, tArrow, tMake, tLen, Nat.reduceEqDiff]; omega)
 omega
theorem lens {E : Env} (hnum : ∀ n, (pk E n).kind = 3 -> numV (pk E n).text <= 9223372036854775807) (f : Nat) : Lens E f := by
 induction f with
 | zero =>
  constructor
  ·intro _ _ _ _ h; rw [Tr.one] at h; cases h
  ·intro _ _ _ _ h; rw [Tr.bracketed] at h; cases h
  ·intro _ _ _ _ _ h; rw [Tr.tied] at h; cases h
  ·intro _ _ _ _ _ _ _ h; rw [Tr.tloop] at h; cases h
  ·intro _ _ _ _ h; rw [Tr.named] at h; cases h
  ·intro _ _ _ _ _ _ h; rw [Tr.call] at h; cases h
  ·intro _ _ _ _ _ _ h; rw [Tr.args] at h; cases h
 | succ f ih =>
  constructor
  ·intro d n x m h
   rw [Tr.one] at h
   by_cases c0 : 12 < d
   ·rw [if_pos c0] at h; exact (fail_ok h).elim
   rw [if_neg c0] at h
   by_cases c1 : (pk E n).kind = 3
   ·rw [if_pos c1] at h
    cases h
    exact ExL.leaf (hnum n c1) (Nat.zero_le _)
   rw [if_neg c1] at h
   by_cases c2 : (pk E n).kind = 1
   ·rw [if_pos c2] at h
    exact ih.named _ _ _ _ h
   rw [if_neg c2] at h
   by_cases c3 : (pk E n).text = tLp
   ·rw [if_pos c3] at h
    exact ih.bracketed _ _ _ _ h
   rw [if_neg c3] at h
   by_cases c4 : (pk E n).text = [45] \/ (pk E n).text = [94] \/ (pk E n).text = [33]
   ·rw [if_pos c4] at h
    obtain ⟨y, n1, h1, h⟩ := bind_ok h
    cases h
    exact un_len (by omega) (by simp) (ih.one _ _ _ _ h1)
   rw [if_neg c4] at h
   by_cases c5 : (pk E n).text = tArrow
   ·rw [if_pos c5] at h
    obtain ⟨y, n1, h1, h⟩ := bind_ok h
    cases h
    exact un_len (by omega) (by simp) (ih.one _ _ _ _ h1)
   rw [if_neg c5] at h
   by_cases c6 : (pk E n).text = tMake
   ·rw [if_pos c6] at h
    obtain ⟨y, n1, h1, h⟩ := bind_ok h
    cases h
    exact un_len (by omega) (by simp) (ih.bracketed _ _ _ _ h1)
   rw [if_neg c6] at h
   by_cases c7 : (pk E n).text = tLen
   ·rw [if_pos c7] at h
    obtain ⟨y, n1, h1, h⟩ := bind_ok h
    cases h
    exact un_len (by omega) (by simp) (ih.bracketed _ _ _ _ h1)
   rw [if_neg c7] at h
   by_cases c8 : (pk E n).text = tTrue
   ·rw [if_pos c8] at h
    cases h
    exact ExL.leaf (by omega) (Nat.zero_le _)
   rw [if_neg c8] at h
   by_cases c9 : (pk E n).text = tFalse
   ·rw [if_pos c9] at h
    cases h
    exact ExL.leaf (by omega) (Nat.zero_le _)
   rw [if_neg c9] at h
   by_cases c10 : (pk E n).text = tNil
   ·rw [if_pos c10] at h
    cases h
    exact ExL.leaf (by omega) (Nat.zero_le _)
   rw [if_neg c10] at h
   exact (fail_ok h).elim
  ·intro d n x m h
   rw [bracketed_eq] at h
   obtain ⟨_, n1, h1, h⟩ := bind_ok h
   obtain ⟨y, n2, h2, h⟩ := bind_ok h
   obtain ⟨_, n3, h3, h⟩ := bind_ok h
   cases h
   have q := ih.tied _ _ _ _ _ h2
   have a1 := ws_mono E (Nat.le_of_lt (take_on h1))
   have a3 := ws_mono E (Nat.le_of_lt (take_on h3))
   exact ⟨q.1, by have := q.2; omega⟩
  ·intro l d n x m h
   rw [tied_eq] at h
   by_cases c : l = 6
   ·rw [if_pos c] at h
    exact ih.one _ _ _ _ h
   ·rw [if_neg c] at h
    obtain ⟨y, n1, h1, h⟩ := bind_ok h
    exact ih.tloop _ _ _ _ _ _ _ h (ih.tied _ _ _ _ _ h1)
  ·intro l d a n0 n x m h ha
   rw [tloop_eq] at h
   by_cases c : levV (opV (pk E n).text) = l
   ·rw [if_pos c] at h
    obtain ⟨y, n1, h1, h⟩ := bind_ok h
    have q := ih.tied _ _ _ _ _ h1
    refine ih.tloop _ _ _ n0 _ _ _ h ⟨⟨by omega, ha.1, q.1, trivial⟩, ?_⟩
    have b1 := ha.2
    have b2 := q.2
    rw [ws_one] at b2
    have b3 := exW_len (levV (opV (pk E n).text)) a (bareV a)
    have b4 := exW_len (levV (opV (pk E n).text) + 1) y (bareV y)
    have b5 := sgV_len (opV (pk E n).text)
    rw [bareV]
    simp only [reduceIte, List.length_append, List.length_cons, List.length_nil, Nat.reduceEqDiff]
    omega
   ·rw [if_neg c] at h
    cases h
    exact ha
  ·intro d n x m h
   rw [named_eq] at h
   by_cases c : (pk E (n + 1)).text = tLp
   ·rw [if_pos c] at h
    exact ih.call _ _ n _ _ _ h (by rw [ws_one]; omega)
   ·rw [if_neg c] at h
    cases h
    exact ExL.leaf (by omega) (Nat.le_refl _)
  ·intro d t n0 n x m h ht
   rw [call_eq] at h
   obtain ⟨_, n1, h1, h⟩ := bind_ok h
   have a1 := ws_mono E (Nat.le_of_lt (take_on h1))
   by_cases c : (pk E n1).text = tRp
   ·rw [if_pos c] at h
    cases h
    refine ⟨⟨by omega, trivial, trivial, trivial⟩, ?_⟩
    rw [bareV, ws_one]
    have e4 : argV true Exs.nil = [] := by rw [argV]
    rw [e4]
    simp only [reduceIte, List.length_append, List.length_cons, List.length_nil, Nat.reduceEqDiff]
    omega
   ·rw [if_neg c] at h
    obtain ⟨y, n2, h2, h⟩ := bind_ok h
    cases h
    have q := ih.args _ .nil n _ _ _ h2 ⟨trivial, by
     have e4 : argV true Exs.nil = [] := by rw [argV]
     rw [e4]
     have := take_one h1
     subst this
     rw [ws_one]
     simp only [List.length_nil]
     omega⟩
    refine ⟨⟨by omega, trivial, trivial, q.1⟩, ?_⟩
    have b1 := q.2
    rw [bareV]
    simp only [reduceIte, List.length_append, List.length_cons, List.length_nil, Nat.reduceEqDiff]
    omega
  ·intro d a n0 n x m h ha
   rw [args_eq] at h
   obtain ⟨y, n1, h1, h⟩ := bind_ok h
   have q := ih.tied _ _ _ _ _ h1
   have b0 := argV_snoc a true y
   have b1 := ha.2
   have b2 := q.2
   by_cases c : (pk E n1).text = tComma
   ·rw [if_pos c] at h
    refine ih.args _ _ n0 _ _ _ h ⟨ExsOk_snoc _ _ ha.1 q.1, ?_⟩
    rw [ws_one]
    omega
   ·rw [if_neg c] at h
    obtain ⟨_, n2, h2, h⟩ := bind_ok h
    have a2 := ws_mono E (Nat.le_of_lt (take_on h2))
    have a3 := take_one h2
    cases h
    refine ⟨ExsOk_snoc _ _ ha.1 q.1, ?_⟩
    subst a3
    rw [ws_one] at a2 ⊢
    omega
def StL (E : Env) (d n m : Nat) (s : St) : Prop := StOk s /\ (stV d s).length + wsT E n <= wsT E m
def StsL (E : Env) (d n m : Nat) (s : Sts) : Prop := StsOk s /\ (stsV d s).length + wsT E n <= wsT E m
def CaL (E : Env) (d n m : Nat) (s : Ca) : Prop := CaOk s /\ (caV d s).length + wsT E n <= wsT E m
def CasL (E : Env) (d n m : Nat) (s : Cas) : Prop := CasOk s /\ (casV d s).length + wsT E n <= wsT E m
theorem stsV_snoc (d : Nat) : ∀ (xs : Sts) (y : St), stsV d (xs.snoc y) = stsV d xs ++ stV d y
 | .nil, y => by rw [Sts.snoc, stsV, stsV, stsV, List.append_nil, List.nil_append]
 | .cons x xs, y => by rw [Sts.snoc, stsV, stsV, stsV_snoc d xs y, List.append_assoc]
theorem casV_snoc (d : Nat) : ∀ (xs : Cas) (y : Ca), casV d (xs.snoc y) = casV d xs ++ caV d y
 | .nil, y => by rw [Cas.snoc, casV, casV, casV, List.append_nil, List.nil_append]
 | .cons x xs, y => by rw [Cas.snoc, casV, casV, casV_snoc d xs y, List.append_assoc]
theorem StsOk_snoc : ∀ (xs : Sts) (y : St), StsOk xs -> StOk y -> StsOk (xs.snoc y)
 | .nil, _, _, h => ⟨h, trivial⟩
 | .cons _ xs, y, h, h2 => ⟨h.1, StsOk_snoc xs y h.2 h2⟩
theorem CasOk_snoc : ∀ (xs : Cas) (y : Ca), CasOk xs -> CaOk y -> CasOk (xs.snoc y)
 | .nil, _, _, h => ⟨h, trivial⟩
 | .cons _ xs, y, h, h2 => ⟨h.1, CasOk_snoc xs y h.2 h2⟩
theorem StsL.snoc {E : Env} {d n0 n m : Nat} {xs : Sts} {y : St} (h : StsL E d n0 n xs) (h2 : StL E d n m y) : StsL E d n0 m (xs.snoc y) := by
 refine ⟨StsOk_snoc _ _ h.1 h2.1, ?_⟩
 rw [stsV_snoc, List.length_append]
 have := h.2
 have := h2.2
 omega
theorem CasL.snoc {E : Env} {d n0 n m : Nat} {xs : Cas} {y : Ca} (h : CasL E d n0 n xs) (h2 : CaL E d n m y) : CasL E d n0 m (xs.snoc y) := by
 refine ⟨CasOk_snoc _ _ h.1 h2.1, ?_⟩
 rw [casV_snoc, List.length_append]
 have := h.2
 have := h2.2
 omega
theorem StsL.on {E : Env} {d n0 n m : Nat} {xs : Sts} (h : StsL E d n0 n xs) (hm : n <= m) : StsL E d n0 m xs := ⟨h.1, by have := h.2; have := ws_mono E hm; omega⟩
theorem exV_nil (least : Nat) : exV least .nil = [] := rfl
theorem stsV_nil (d : Nat) : stsV d .nil = [] := by rw [stsV]
theorem casV_nil (d : Nat) : casV d .nil = [] := by rw [casV]
theorem giveV_len (d : Nat) (x : Ex) : (giveV d x).length <= 2 * d + 8 + (exV 1 x).length := by
 unfold giveV
 split
 ·rw [lineV_len]; simp only [cReturn0, List.length_cons, List.length_nil]; omega
 ·rw [lineV_len]; simp only [cReturn, List.length_append, List.length_cons, List.length_nil]; omega
theorem stz_len {E : Env} {d n m code at_ : Nat} {nm : Lx.B} {dst v : Ex} (hd : d <= 12) (h1 : ExOk dst) (h2 : ExOk v) (hl : nm.length + (exV 6 dst).length + (exV 1 v).length + 40 + wsT E n <= wsT E m) (hc : code < 12) : StL E d n m (stz code at_ nm dst v) := by
 refine ⟨⟨h1, h2, trivial, trivial, trivial⟩, ?_⟩
 have hg := giveV_len d v
 have : (stV d (stz code at_ nm dst v)).length <= 40 + nm.length + (exV 6 dst).length + (exV 1 v).length := by
  unfold stz
  rcases (by omega : code = 0 \/ code = 1 \/ code = 2 \/ code = 3 \/ code = 4 \/ code = 5 \/ code = 6 \/ code = 7 \/ code = 8 \/ code = 9 \/ code = 10 \/ code = 11) with rfl | rfl | rfl | rfl | rfl | rfl | rfl | rfl | rfl | rfl | rfl | rfl
  all_goals (rw [stV]; simp only [reduceIte, Nat.reduceEqDiff, sentV, lineV_len, cLet, cSet, cClose, cRp, cPrint, cSleep, cGo, cBreak, cContinue, List.length_append, List.length_cons, List.length_nil]; omega)
 omega
theorem expr_len {E : Env} (hnum : ∀ n, (pk E n).kind = 3 -> numV (pk E n).text <= 9223372036854775807) {f d n m : Nat} {x : Ex} (h : expr E f d n = .ok x m) : ExL E n m x := (lens hnum f).tied _ _ _ _ _ h
theorem ws_two (E : Env) (n : Nat) : wsT E (n + 2) = wsT E n + ((pk E n).text.length + 128) + ((pk E (n + 1)).text.length + 128) := rfl
theorem left_len {E : Env} {n m : Nat} {x : Ex} (h : ExL E n m x) (hc : Tr.codeOf x = 10) : ExOk (Tr.leftOf x) /\ (exV 6 (Tr.leftOf x)).length + 64 + wsT E n <= wsT E m := by
 cases x with
 | nil => cases hc
 | mk code at_ k op nm l r zs =>
  have hc' : code = 10 := hc
  subst hc'
  refine ⟨h.1.2.1, ?_⟩
  have h2 := h.2
  rw [bareV] at h2
  simp only [reduceIte, List.length_append, List.length_cons, List.length_nil, Nat.reduceEqDiff, tArrow] at h2
  show (exW 6 l (bareV l)).length + 64 + wsT E n <= wsT E m
  omega
theorem plain_len {E : Env} (hnum : ∀ n, (pk E n).kind = 3 -> numV (pk E n).text <= 9223372036854775807) {f d n m : Nat} {s : St} (hd : d <= 12) (h : plain E f n = .ok s m) : StL E d n m s := by
 unfold plain at h
 by_cases c1 : (pk E n).kind = 1 /\ (pk E (n + 1)).text = tLet
 ·rw [if_pos c1] at h
  obtain ⟨y, n1, h1, h⟩ := bind_ok h
  cases h
  have q := expr_len hnum h1
  have q1 := q.ex 1
  rw [ws_two] at q1
  exact stz_len hd trivial q.1 (by rw [exV_nil]; simp only [List.length_nil]; omega) (by decide)
 rw [if_neg c1] at h
 by_cases c2 : (pk E n).kind = 1 /\ (pk E (n + 1)).text = tSet
 ·rw [if_pos c2] at h
  obtain ⟨y, n1, h1, h⟩ := bind_ok h
  cases h
  have q := expr_len hnum h1
  have q1 := q.ex 1
  rw [ws_two] at q1
  exact stz_len hd trivial q.1 (by rw [exV_nil]; simp only [List.length_nil]; omega) (by decide)
 rw [if_neg c2] at h
 obtain ⟨y, n1, h1, h⟩ := bind_ok h
 have q := (lens hnum f).one _ _ _ _ h1
 by_cases c3 : (pk E n1).text = tArrow
 ·rw [if_pos c3] at h
  obtain ⟨z, n2, h2, h⟩ := bind_ok h
  cases h
  have p := expr_len hnum h2
  have q1 := q.ex 6
  have p1 := p.ex 1
  rw [ws_one] at p1
  exact stz_len hd q.1 p.1 (by simp only [List.length_nil]; omega) (by decide)
 rw [if_neg c3] at h
 by_cases c4 : Tr.codeOf y = 7 \/ Tr.codeOf y = 10
 ·rw [if_pos c4] at h
  cases h
  have q1 := q.ex 1
  exact stz_len hd trivial q.1 (by rw [exV_nil]; simp only [List.length_nil]; omega) (by decide)
 rw [if_neg c4] at h
 exact (fail_ok h).elim
theorem talk_len {E : Env} (hnum : ∀ n, (pk E n).kind = 3 -> numV (pk E n).text <= 9223372036854775807) {f n m : Nat} {s : Nat × B × Ex × Ex} (h : talk E f n = .ok s m) : ExOk s.2.2.1 /\ ExOk s.2.2.2 /\ (talkV s.1 s.2.1 s.2.2.1 s.2.2.2).length + wsT E n <= wsT E m := by
 unfold talk at h
 by_cases c1 : (pk E n).kind = 1 /\ (pk E (n + 1)).text = tLet
 ·rw [if_pos c1] at h
  obtain ⟨_, n0, h0, h⟩ := bind_ok h
  obtain ⟨y, n1, h1, h⟩ := bind_ok h
  cases h
  have q := (lens hnum f).one _ _ _ _ h1
  have a0 := take_one h0
  subst a0
  have q1 := q.ex 6
  rw [ws_one, ws_two] at q1
  refine ⟨q.1, trivial, ?_⟩
  unfold talkV
  rw [if_neg (show ¬ (10 : Nat) = 3 by decide), if_pos rfl]
  split
  all_goals (simp only [cCaseRecv, cCase, cLetRecv, List.length_append, List.length_cons, List.length_nil]; omega)
 rw [if_neg c1] at h
 obtain ⟨y, n1, h1, h⟩ := bind_ok h
 have q := (lens hnum f).one _ _ _ _ h1
 by_cases c3 : (pk E n1).text = tArrow
 ·rw [if_pos c3] at h
  obtain ⟨z, n2, h2, h⟩ := bind_ok h
  cases h
  have p := expr_len hnum h2
  have q1 := q.ex 6
  have p1 := p.ex 1
  rw [ws_one] at p1
  refine ⟨q.1, p.1, ?_⟩
  unfold talkV sentV
  rw [if_pos rfl]
  simp only [cCase, List.length_append, List.length_cons, List.length_nil]
  omega
 rw [if_neg c3] at h
 by_cases c4 : Tr.codeOf y = 10
 ·rw [if_pos c4] at h
  cases h
  obtain ⟨q1, q2⟩ := left_len q c4
  refine ⟨q1, trivial, ?_⟩
  unfold talkV
  rw [if_neg (show ¬ (10 : Nat) = 3 by decide), if_pos rfl, if_pos rfl]
  simp only [cCaseRecv, List.length_append, List.length_cons, List.length_nil]
  omega
 rw [if_neg c4] at h
 exact (fail_ok h).elim
theorem open_one {E : Env} {dep n m : Nat} {t : Tok} (h : open_ E dep n = .ok t m) : m = n + 1 /\ dep < 12 := by
 unfold open_ at h
 by_cases c : (pk E n).text = tLb /\ 12 <= dep
 ·rw [if_pos c] at h; exact (fail_ok h).elim
 ·rw [if_neg c] at h
  refine ⟨take_one h, ?_⟩
  by_cases c2 : (pk E n).text = tLb
  ·exact Nat.lt_of_not_le fun e => c ⟨c2, e⟩
  ·unfold take at h
   rw [if_neg c2] at h
   exact (fail_ok h).elim
structure Slens (E : Env) (f : Nat) : Prop where
 block : ∀ dep n x m, block E f dep n = .ok x m -> dep <= 12 -> StsOk x /\ (stsV (dep + 1) x).length + 256 + wsT E n <= wsT E m
 stmts : ∀ dep cs a n0 n x m, stmts E f dep cs a n = .ok x m -> dep <= 12 -> StsL E dep n0 n a -> StsL E dep n0 m x
 stmt : ∀ dep n x m, stmt E f dep n = .ok x m -> dep <= 12 -> StL E dep n m x
 cases : ∀ d a n0 n x m, cases E f (d + 1) a n = .ok x m -> d + 1 <= 12 -> CasL E d n0 n a -> CasL E d n0 m x
 oneCase : ∀ d n x m, oneCase E f (d + 1) n = .ok x m -> d + 1 <= 12 -> CaL E d n m x
theorem slens {E : Env} (hnum : ∀ n, (pk E n).kind = 3 -> numV (pk E n).text <= 9223372036854775807) (f : Nat) : Slens E f := by
 induction f with
 | zero =>
  constructor
  ·intro _ _ _ _ h; rw [Tr.block] at h; cases h
  ·intro _ _ _ _ _ _ _ h; rw [Tr.stmts] at h; cases h
  ·intro _ _ _ _ h; rw [Tr.stmt] at h; cases h
  ·intro _ _ _ _ _ _ h; rw [Tr.cases] at h; cases h
  ·intro _ _ _ _ h; rw [Tr.oneCase] at h; cases h
 | succ f ih =>
  constructor
  ·intro dep n x m h hd
   rw [block_eq] at h
   obtain ⟨_, n1, h1, h⟩ := bind_ok h
   obtain ⟨y, n2, h2, h⟩ := bind_ok h
   obtain ⟨_, n3, h3, h⟩ := bind_ok h
   cases h
   obtain ⟨rfl, hlt⟩ := open_one h1
   have a3 := take_one h3
   subst a3
   have q := ih.stmts _ _ .nil (n + 1) _ _ _ h2 (by omega) ⟨trivial, by rw [stsV_nil]; simp⟩
   have q2 := q.2
   rw [ws_one] at q2 ⊢
   exact ⟨q.1, by omega⟩
  ·intro dep cs a n0 n x m h hd ha
   rw [stmts_eq] at h
   by_cases c : (pk E n).text = tRb \/ (cs = true /\ ((pk E n).text = tCase \/ (pk E n).text = tDefault))
   ·rw [if_pos c] at h
    cases h
    exact ha
   rw [if_neg c] at h
   obtain ⟨y, n1, h1, h⟩ := bind_ok h
   have q := ha.snoc (ih.stmt _ _ _ _ h1 hd)
   by_cases c2 : (pk E n1).text = tRb
   ·rw [if_pos c2] at h
    exact ih.stmts _ _ _ n0 _ _ _ h hd q
   ·rw [if_neg c2] at h
    obtain ⟨_, n2, h2, h⟩ := bind_ok h
    exact ih.stmts _ _ _ n0 _ _ _ h hd (q.on (Nat.le_of_lt (takeKind_on h2)))
  ·intro dep n x m h hd
   rw [stmt_eq] at h
   by_cases c0 : (pk E n).text = tClose
   ·rw [if_pos c0] at h
    obtain ⟨y, n1, h1, h⟩ := bind_ok h
    cases h
    have q := (lens hnum f).bracketed _ _ _ _ h1
    have q1 := q.ex 1
    rw [ws_one] at q1
    exact stz_len hd trivial q.1 (by rw [exV_nil]; simp only [List.length_nil]; omega) (by decide)
   rw [if_neg c0] at h
   by_cases c1 : (pk E n).text = tPrint
   ·rw [if_pos c1] at h
    obtain ⟨y, n1, h1, h⟩ := bind_ok h
    cases h
    have q := expr_len hnum h1
    have q1 := q.ex 1
    rw [ws_one] at q1
    exact stz_len hd trivial q.1 (by rw [exV_nil]; simp only [List.length_nil]; omega) (by decide)
   rw [if_neg c1] at h
   by_cases c2 : (pk E n).text = tSleep
   ·rw [if_pos c2] at h
    obtain ⟨y, n1, h1, h⟩ := bind_ok h
    cases h
    have q := expr_len hnum h1
    have q1 := q.ex 1
    rw [ws_one] at q1
    exact stz_len hd trivial q.1 (by rw [exV_nil]; simp only [List.length_nil]; omega) (by decide)
   rw [if_neg c2] at h
   by_cases c3 : (pk E n).text = tGo
   ·rw [if_pos c3] at h
    obtain ⟨t, n1, h1, h⟩ := bind_ok h
    obtain ⟨y, n2, h2, h⟩ := bind_ok h
    cases h
    obtain ⟨rfl, rfl⟩ := takeKind_one h1
    have q := (lens hnum f).call _ _ (n + 1) _ _ _ h2 (by rw [ws_one E (n + 1)]; omega)
    have q1 := q.ex 1
    rw [ws_one] at q1
    exact stz_len hd trivial q.1 (by rw [exV_nil]; simp only [List.length_nil]; omega) (by decide)
   rw [if_neg c3] at h
   by_cases c4 : (pk E n).text = tReturn
   ·rw [if_pos c4] at h
    by_cases c : (pk E (n + 1)).kind = 5 \/ (pk E (n + 1)).text = tRb
    ·rw [if_pos c] at h
     cases h
     exact stz_len hd trivial trivial (by rw [exV_nil, exV_nil, ws_one]; simp only [List.length_nil]; omega) (by decide)
    ·rw [if_neg c] at h
     obtain ⟨y, n1, h1, h⟩ := bind_ok h
     cases h
     have q := expr_len hnum h1
     have q1 := q.ex 1
     rw [ws_one] at q1
     exact stz_len hd trivial q.1 (by rw [exV_nil]; simp only [List.length_nil]; omega) (by decide)
   rw [if_neg c4] at h
   by_cases c5 : (pk E n).text = tBreak
   ·rw [if_pos c5] at h
    cases h
    exact stz_len hd trivial trivial (by rw [exV_nil, exV_nil, ws_one]; simp only [List.length_nil]; omega) (by decide)
   rw [if_neg c5] at h
   by_cases c6 : (pk E n).text = tContinue
   ·rw [if_pos c6] at h
    cases h
    exact stz_len hd trivial trivial (by rw [exV_nil, exV_nil, ws_one]; simp only [List.length_nil]; omega) (by decide)
   rw [if_neg c6] at h
   by_cases c7 : (pk E n).text = tIf
   ·rw [if_pos c7] at h
    obtain ⟨y, n1, h1, h⟩ := bind_ok h
    obtain ⟨a, n2, h2, h⟩ := bind_ok h
    have q := expr_len hnum h1
    have q1 := q.ex 1
    rw [ws_one] at q1
    obtain ⟨p1, p2⟩ := ih.block _ _ _ _ h2 hd
    by_cases c : (pk E n2).text = tElse
    ·rw [if_pos c] at h
     obtain ⟨b, n3, h3, h⟩ := bind_ok h
     cases h
     obtain ⟨r1, r2⟩ := ih.block _ _ _ _ h3 hd
     rw [ws_one] at r2
     refine ⟨⟨trivial, q.1, p1, r1, trivial⟩, ?_⟩
     rw [stV]
     simp only [reduceIte, Nat.reduceEqDiff, List.length_append, lineV_len, cIf, cOpen, cEnd, List.length_cons, List.length_nil]
     split
     all_goals (simp only [List.length_append, lineV_len, cElse, List.length_cons, List.length_nil]; omega)
    ·rw [if_neg c] at h
     cases h
     refine ⟨⟨trivial, q.1, p1, trivial, trivial⟩, ?_⟩
     rw [stV]
     simp only [reduceIte, Nat.reduceEqDiff, List.length_append, lineV_len, cIf, cOpen, cEnd, List.length_cons, List.length_nil, Sts.len]
     omega
   rw [if_neg c7] at h
   by_cases c8 : (pk E n).text = tFor
   ·rw [if_pos c8] at h
    obtain ⟨y, n1, h1, h⟩ := bind_ok h
    obtain ⟨a, n2, h2, h⟩ := bind_ok h
    cases h
    have q := expr_len hnum h1
    have q1 := q.ex 1
    rw [ws_one] at q1
    obtain ⟨p1, p2⟩ := ih.block _ _ _ _ h2 hd
    refine ⟨⟨trivial, q.1, p1, trivial, trivial⟩, ?_⟩
    rw [stV]
    simp only [reduceIte, Nat.reduceEqDiff, List.length_append, lineV_len, cFor, cOpen, cEnd, List.length_cons, List.length_nil]
    omega
   rw [if_neg c8] at h
   by_cases c9 : (pk E n).text = tSelect
   ·rw [if_pos c9] at h
    obtain ⟨_, n1, h1, h⟩ := bind_ok h
    obtain ⟨a, n2, h2, h⟩ := bind_ok h
    obtain ⟨_, n3, h3, h⟩ := bind_ok h
    cases h
    obtain ⟨rfl, hlt⟩ := open_one h1
    have a3 := take_one h3
    subst a3
    have q := ih.cases _ .nil (n + 1 + 1) _ _ _ h2 (by omega) ⟨trivial, by rw [casV_nil]; simp⟩
    have q2 := q.2
    rw [ws_one, ws_one] at q2
    refine ⟨⟨trivial, trivial, trivial, trivial, q.1⟩, ?_⟩
    rw [stV, ws_one]
    simp only [reduceIte, Nat.reduceEqDiff, List.length_append, lineV_len, cSelect, cEnd, List.length_cons, List.length_nil]
    omega
   rw [if_neg c9] at h
   exact plain_len hnum hd h
  ·intro d a n0 n x m h hd ha
   rw [cases_eq] at h
   by_cases c : (pk E n).text = tRb
   ·rw [if_pos c] at h
    cases h
    exact ha
   rw [if_neg c] at h
   by_cases c2 : 6 <= a.len
   ·rw [if_pos c2] at h; exact (fail_ok h).elim
   rw [if_neg c2] at h
   obtain ⟨y, n1, h1, h⟩ := bind_ok h
   exact ih.cases _ _ n0 _ _ _ h hd (ha.snoc (ih.oneCase _ _ _ _ h1 hd))
  ·intro d n x m h hd
   rw [oneCase_eq] at h
   by_cases c : (pk E n).text = tDefault
   ·rw [if_pos c] at h
    obtain ⟨_, n1, h1, h⟩ := bind_ok h
    obtain ⟨l, n2, h2, h⟩ := bind_ok h
    cases h
    have a1 := take_one h1
    subst a1
    have q := ih.stmts _ _ .nil (n + 1 + 1) _ _ _ h2 hd ⟨trivial, by rw [stsV_nil]; simp⟩
    refine ⟨⟨trivial, trivial, q.1⟩, ?_⟩
    have q2 := q.2
    rw [ws_one, ws_one] at q2
    rw [caV, List.length_append, lineV_len]
    unfold talkV
    rw [if_neg (show ¬ (40 : Nat) = 3 by decide), if_neg (show ¬ (40 : Nat) = 10 by decide)]
    simp only [cDefault, cColon, List.length_append, List.length_cons, List.length_nil]
    omega
   rw [if_neg c] at h
   obtain ⟨_, n1, h1, h⟩ := bind_ok h
   obtain ⟨t, n2, h2, h⟩ := bind_ok h
   obtain ⟨_, n3, h3, h⟩ := bind_ok h
   obtain ⟨l, n4, h4, h⟩ := bind_ok h
   cases h
   have a1 := take_one h1
   subst a1
   have a3 := take_one h3
   subst a3
   obtain ⟨b1, b2, b3⟩ := talk_len hnum h2
   have q := ih.stmts _ _ .nil (n2 + 1) _ _ _ h4 hd ⟨trivial, by rw [stsV_nil]; simp⟩
   refine ⟨⟨b1, b2, q.1⟩, ?_⟩
   have q2 := q.2
   rw [ws_one] at q2 b3
   rw [caV, List.length_append, lineV_len]
   simp only [cColon, List.length_append, List.length_cons, List.length_nil]
   omega
theorem params_len {E : Env} : ∀ (f : Nat) (acc : List Pa) (n0 n : Nat) (x : List Pa) (m : Nat), params E f acc n = .ok x m -> (parL true acc).length + wsT E n0 <= wsT E n -> (parL true x).length + wsT E n0 <= wsT E m
 | 0, _, _, _, _, _, h, _ => by rw [params] at h; cases h
 | f + 1, acc, n0, n, x, m, h, ha => by
  rw [paramsQ_eq] at h
  obtain ⟨t, n1, h1, h⟩ := bind_ok h
  obtain ⟨rfl, rfl⟩ := takeKind_one h1
  have hs : (parL true (acc ++ [⟨(pk E n).text, kindV (pk E (n + 1)).text, (pk E n).at_⟩])).length + wsT E n0 <= wsT E (n + 2) := by
   have hk := kindB_len (kindV (pk E (n + 1)).text)
   rw [parL_snoc, ws_two]
   unfold paV
   split
   all_goals (simp only [List.length_append, List.length_cons, List.length_nil]; omega)
  by_cases q : kindV (pk E (n + 1)).text = 0
  ·rw [if_pos q] at h; exact (fail_ok h).elim
  rw [if_neg q] at h
  by_cases q2 : (pk E (n + 1 + 1)).text = tComma
  ·rw [if_pos q2] at h
   exact params_len f _ n0 _ _ _ h (Nat.le_trans hs (by have := ws_mono E (show n + 2 <= n + 1 + 2 by omega); omega))
  ·rw [if_neg q2] at h
   obtain ⟨_, n2, h2, h⟩ := bind_ok h
   cases h
   have a2 := take_one h2
   subst a2
   exact Nat.le_trans hs (by have := ws_mono E (show n + 2 <= n + 1 + 1 + 1 by omega); omega)
theorem function_len {E : Env} (hnum : ∀ n, (pk E n).kind = 3 -> numV (pk E n).text <= 9223372036854775807) {f n m : Nat} {g : Fu} (h : Tr.function E f n = .ok g m) : StsOk g.body /\ (fuV g).length + wsT E n <= wsT E m := by
 unfold Tr.function at h
 obtain ⟨_, n1, h1, h⟩ := bind_ok h
 obtain ⟨t, n2, h2, h⟩ := bind_ok h
 obtain ⟨_, n3, h3, h⟩ := bind_ok h
 obtain ⟨ps, n4, h4, h⟩ := bind_ok h
 obtain ⟨b, n5, h5, h⟩ := bind_ok h
 cases h
 have a1 := take_one h1
 subst a1
 obtain ⟨rfl, rfl⟩ := takeKind_one h2
 have a3 := take_one h3
 subst a3
 have hp : (parL true ps).length + wsT E (n + 1 + 1 + 1) <= wsT E n4 := by
  by_cases q : (pk E (n + 1 + 1 + 1)).text = tRp
  ·rw [if_pos q] at h4
   cases h4
   have := ws_mono E (show n + 1 + 1 + 1 <= n + 1 + 1 + 1 + 1 by omega)
   show ([] : Lx.B).length + _ <= _
   simp only [List.length_nil]
   omega
  ·rw [if_neg q] at h4
   exact params_len f [] _ _ _ _ h4 (by show ([] : Lx.B).length + _ <= _; simp)
 obtain ⟨q1, q2⟩ := (slens hnum f).block _ _ _ _ h5 (by omega)
 refine ⟨q1, ?_⟩
 have hk := kindB_len (kindV (pk E n4).text)
 have q3 : wsT E n4 <= wsT E (if kindV (pk E n4).text = 0 then n4 else n4 + 1) := by
  split
  ·exact Nat.le_refl _
  ·rw [ws_one]; omega
 rw [ws_one, ws_one, ws_one] at hp
 unfold fuV
 split
 all_goals (simp only [List.length_append, lineV_len, cFunc, cEnd, List.length_cons, List.length_nil]; simp only [Nat.zero_add] at q2; omega)
theorem glV_len (g : Gl) : (glV g).length = g.name.length + 5 := by
 unfold glV
 simp only [lineV_len, cVar, List.length_append, List.length_cons, List.length_nil]
 omega
theorem program_len {E : Env} (hnum : ∀ n, (pk E n).kind = 3 -> numV (pk E n).text <= 9223372036854775807) : ∀ (f : Nat) (src : Src) (n : Nat) (x : Src) (m : Nat), Tr.program E f src n = .ok x m -> n <= E.toks.length -> SrcOk src -> (printV src).length <= wsT E n -> SrcOk x /\ (printV x).length <= wsT E E.toks.length
 | 0, _, _, _, _, h, _, _, _ => by rw [Tr.program] at h; cases h
 | f + 1, src, n, x, m, h, hn, hok, hl => by
  rw [programQ_eq] at h
  by_cases c0 : E.toks.length <= n
  ·rw [if_pos c0] at h
   cases h
   have : n = E.toks.length := by omega
   rw [<- this]
   exact ⟨hok, hl⟩
  rw [if_neg c0] at h
  by_cases c1 : (pk E n).text = tVar
  ·rw [if_pos c1] at h
   by_cases c2 : 8 <= src.globals.length
   ·rw [if_pos c2] at h; exact (fail_ok h).elim
   rw [if_neg c2] at h
   obtain ⟨t, n1, h1, h⟩ := bind_ok h
   obtain ⟨_, n2, h2, h⟩ := bind_ok h
   obtain ⟨rfl, rfl⟩ := takeKind_one h1
   obtain ⟨rfl, _⟩ := takeKind_one h2
   obtain ⟨b2, _⟩ := takeKind_lt (by decide) h2
   refine program_len hnum f _ _ _ _ h (by omega) hok ?_
   rw [ws_one, ws_one, ws_one]
   unfold printV at hl ⊢
   simp only [List.flatMap_append, List.flatMap_cons, List.flatMap_nil, List.length_append, List.length_nil] at hl ⊢
   have hg := glV_len ⟨(pk E (n + 1)).text, (pk E (n + 1)).at_⟩
   simp only at hg
   omega
  rw [if_neg c1] at h
  by_cases c2 : (pk E n).text = tFunc
  ·rw [if_pos c2] at h
   by_cases c3 : 12 <= src.funcs.length
   ·rw [if_pos c3] at h; exact (fail_ok h).elim
   rw [if_neg c3] at h
   obtain ⟨g, n1, h1, h⟩ := bind_ok h
   obtain ⟨_, n2, h2, h⟩ := bind_ok h
   obtain ⟨q1, q2⟩ := function_len hnum h1
   obtain ⟨rfl, _⟩ := takeKind_one h2
   obtain ⟨b2, _⟩ := takeKind_lt (by decide) h2
   refine program_len hnum f _ _ _ _ h (by omega) (fun g' hg' => ?_) ?_
   ·rcases List.mem_append.1 hg' with e | e
    ·exact hok g' e
    ·rw [List.mem_singleton.1 e]; exact q1
   rw [ws_one]
   unfold printV at hl ⊢
   simp only [List.flatMap_append, List.flatMap_cons, List.flatMap_nil, List.length_append, List.length_nil] at hl ⊢
   omega
  rw [if_neg c2] at h
  exact (fail_ok h).elim
def wlT : List Tok -> Nat
 | [] => 0
 | t :: ts => (t.text.length + 128) + wlT ts
theorem wlT_snoc : ∀ (l : List Tok) (t : Tok), wlT (l ++ [t]) = wlT l + (t.text.length + 128)
 | [], t => by simp [wlT]
 | x :: l, t => by show (x.text.length + 128) + wlT (l ++ [t]) = _; rw [wlT_snoc l t, wlT]; omega
theorem wsT_row (ts : List Tok) (e : Nat) : ∀ n, n <= ts.length -> wsT ⟨ts, e⟩ n = wlT (ts.take n)
 | 0, _ => by rw [List.take_zero]; rfl
 | n + 1, h => by
  have h1 : ts[n]? = some ts[n] := List.getElem?_eq_getElem (by omega)
  rw [List.take_add_one, h1, Option.toList_some, wlT_snoc, ws_one, wsT_row ts e n (by omega)]
  unfold pk
  rw [h1]
  rfl
theorem wl_text : ∀ (l : Lx.B) (a : Nat) (may : Bool) (ts : List Tok), lx l a may = (ts, none) -> wlT ts <= 129 * l.length + 128 := by
 refine lx_induct (fun l _ _ ts => wlT ts <= 129 * l.length + 128) ?_ ?_ ?_
 ·intro a may
  unfold endV
  split
  ·simp [wlT]
  ·simp [wlT]
 ·intro l a may n ts _ _ _ _ _ ih
  rw [List.length_drop] at ih
  omega
 ·intro l a may k n ts hl hs h1 h2 _ ih
  rw [List.length_drop] at ih
  rw [wlT]
  simp only [List.length_take]
  omega
theorem nums_text : ∀ (l : Lx.B) (a : Nat) (may : Bool) (ts : List Tok), lx l a may = (ts, none) -> ∀ t ∈ ts, t.kind = 3 -> numV t.text <= 9223372036854775807 := by
 refine lx_induct (fun _ _ _ ts => ∀ t ∈ ts, t.kind = 3 -> numV t.text <= 9223372036854775807) ?_ ?_ ?_
 ·intro a may t ht hk
  unfold endV at ht
  split at ht
  ·simp at ht; subst ht; cases hk
  ·cases ht
 ·intro l a may n ts _ _ _ _ _ ih
  exact ih
 ·intro l a may k n ts hl hs h1 h2 _ ih t ht hk
  rcases List.mem_cons.1 ht with rfl | ht
  ·have hk' : k = 3 := hk
   subst hk'
   exact Nat.le_of_not_lt (of_decide_eq_false (tok3 hl hs).2.1)
  ·exact ih t ht hk
theorem text_len {l : Lx.B} {ts : List Tok} {e m : Nat} {s : Src} (hts : lx l 0 false = (ts, none)) (h : Ev (fun f => Tr.program ⟨ts, e⟩ f ⟨[], []⟩ 0) (.ok s m)) : SrcOk s /\ (printV s).length <= 129 * l.length + 128 := by
 obtain ⟨_, f0, h⟩ := h
 have hn := nums_text _ _ _ _ hts
 obtain ⟨h1, h2⟩ := program_len (E := ⟨ts, e⟩) (fun n hk => by
  have hlt := pk_kind_lt (E := ⟨ts, e⟩) (n := n) (by rw [hk]; decide)
  have h1 : ts[n]? = some ts[n] := List.getElem?_eq_getElem hlt
  have h2 : pk ⟨ts, e⟩ n = ts[n] := by unfold pk; rw [h1]; rfl
  rw [h2] at hk ⊢
  exact hn _ (List.getElem_mem hlt) hk) f0 ⟨[], []⟩ 0 s m (h f0 (Nat.le_refl _)) (Nat.zero_le _) (fun g hg => by cases hg) (Nat.zero_le _)
 refine ⟨h1, Nat.le_trans h2 ?_⟩
 have := wl_text _ _ _ _ hts
 rw [show (⟨ts, e⟩ : Env).toks.length = ts.length from rfl, wsT_row ts e _ (Nat.le_refl _), List.take_length]
 exact this
end Go.Proofs.YtjejcajnnbilmaaGreatDoor
namespace Go.Proofs.YtjejcajnnbilmaaGreatDoor
open Lx Tr
namespace Tr
theorem brk_le (k : Nat) (x : Ex) : brk k x <= brk (k + 1) x := by
 cases x with
 | nil => exact Nat.le_refl _
 | mk code a n op nm l r zs =>
  by_cases c : code = 5 /\ levV op < k
  ·rw [brk_yes c, brk_yes ⟨c.1, by have := c.2; omega⟩]; exact Nat.le_refl _
  ·rw [brk_no c]; exact Nat.zero_le _
mutual
theorem good_mono : ∀ (x : Ex) (d e : Nat), e <= d -> GoodB x d -> GoodB x e
 | .nil, _, _, _, h => by rw [GoodB] at h; exact h.elim
 | .mk code a n op nm l r zs, d, e, he, h => by
  rw [GoodB] at h ⊢
  obtain ⟨hd, h⟩ := h
  refine ⟨by omega, ?_⟩
  rcases h with h | h | h | h | ⟨c, h0, h1, h2, hv, h3, h4⟩ | ⟨c, h0, h1, h2, h3, ho, h4⟩ | ⟨c, h0, h1, h2, h3, h4, h5⟩ | ⟨c, h0, h1, h2, h3, h4, h5⟩ | ⟨c, h0, h1, hw, h3, h4, h5⟩
  ·exact Or.inl h
  ·exact Or.inr (Or.inl h)
  ·exact Or.inr (Or.inr (Or.inl h))
  ·exact Or.inr (Or.inr (Or.inr (Or.inl h)))
  ·exact Or.inr (Or.inr (Or.inr (Or.inr (Or.inl ⟨c, h0, h1, h2, hv, good_mono l _ _ (by omega) h3, good_mono r _ _ (by omega) h4⟩))))
  ·exact Or.inr (Or.inr (Or.inr (Or.inr (Or.inr (Or.inl ⟨c, h0, h1, h2, h3, ho, good_mono l _ _ (by omega) h4⟩)))))
  ·exact Or.inr (Or.inr (Or.inr (Or.inr (Or.inr (Or.inr (Or.inl ⟨c, h0, h1, h2, h3, h4, good_mono l _ _ (by omega) h5⟩))))))
  ·exact Or.inr (Or.inr (Or.inr (Or.inr (Or.inr (Or.inr (Or.inr (Or.inl ⟨c, h0, h1, h2, h3, h4, good_mono l _ _ (by omega) h5⟩)))))))
  ·exact Or.inr (Or.inr (Or.inr (Or.inr (Or.inr (Or.inr (Or.inr (Or.inr ⟨c, h0, h1, hw, h3, h4, goods_mono zs _ _ (by omega) h5⟩)))))))
theorem goods_mono : ∀ (zs : Exs) (d e : Nat), e <= d -> GoodAs zs d -> GoodAs zs e
 | .nil, _, _, _, _ => by rw [GoodAs]; trivial
 | .cons x xs, d, e, he, h => by
  rw [GoodAs] at h ⊢
  exact ⟨good_mono x d e he h.1, goods_mono xs d e he h.2⟩
end
structure TokOk (E : Env) : Prop where
 words : ∀ n, (pk E n).kind = 1 -> WordT 1 (pk E n).text
 nums : ∀ n, (pk E n).kind = 3 -> numV (pk E n).text <= 9223372036854775807
theorem goodAs_snoc : ∀ (xs : Exs) (y : Ex) (d : Nat), GoodAs xs d -> GoodB y d -> GoodAs (xs.snoc y) d
 | .nil, y, d, _, h => by rw [Exs.snoc, GoodAs, GoodAs]; exact ⟨h, trivial⟩
 | .cons x xs, y, d, h, h2 => by
  rw [GoodAs] at h
  rw [Exs.snoc, GoodAs]
  exact ⟨h.1, goodAs_snoc xs y d h.2 h2⟩
theorem good_leaf {E : Env} {code k d n : Nat} {nm : B} (hd : d <= 12) (h : (code = 1 /\ k <= 9223372036854775807 /\ nm = []) \/ (code = 2 /\ k <= 1 /\ nm = []) \/ (code = 3 /\ k = 0 /\ nm = []) \/ (code = 4 /\ k = 0 /\ WordT 1 nm)) : GoodO (leaf code (pk E n).at_ k nm) d := by
 unfold GoodO leaf
 rw [brk_no (by rintro ⟨e, _⟩; rcases h with h | h | h | h <;> omega), GoodB]
 refine ⟨hd, ?_⟩
 rcases h with ⟨rfl, h1, rfl⟩ | ⟨rfl, h1, rfl⟩ | ⟨rfl, rfl, rfl⟩ | ⟨rfl, rfl, hw⟩
 ·exact Or.inl ⟨rfl, h1, rfl, rfl, rfl, rfl, rfl⟩
 ·exact Or.inr (Or.inl ⟨rfl, h1, rfl, rfl, rfl, rfl, rfl⟩)
 ·exact Or.inr (Or.inr (Or.inl ⟨rfl, rfl, rfl, rfl, rfl, rfl, rfl⟩))
 ·exact Or.inr (Or.inr (Or.inr (Or.inl ⟨rfl, rfl, rfl, hw, rfl, rfl, rfl⟩)))
structure Gds (E : Env) (f : Nat) : Prop where
 one : ∀ d n x m, one E f d n = .ok x m -> GoodO x d
 bracketed : ∀ d n x m, bracketed E f d n = .ok x m -> GoodB x (d + 1)
 tied : ∀ l d n x m, 1 <= l -> l <= 6 -> tied E f l d n = .ok x m -> GoodB x (d + brk l x)
 tloop : ∀ l d a n x m, 1 <= l -> l <= 5 -> tloop E f l d a n = .ok x m -> GoodB a (d + brk l a) -> GoodB x (d + brk l x)
 named : ∀ d n x m, d <= 12 -> (pk E n).kind = 1 -> named E f d n = .ok x m -> GoodO x d
 call : ∀ d t n x m, d <= 12 -> WordT 1 t.text -> call E f d t n = .ok x m -> GoodO x d /\ codeOf x = 7
 args : ∀ d a n x m, args E f d a n = .ok x m -> GoodAs a (d + 1) -> GoodAs x (d + 1)
theorem gds {E : Env} (hT : TokOk E) (f : Nat) : Gds E f := by
 induction f with
 | zero =>
  constructor
  ·intro _ _ _ _ h; rw [Tr.one] at h; cases h
  ·intro _ _ _ _ h; rw [Tr.bracketed] at h; cases h
  ·intro _ _ _ _ _ _ _ h; rw [Tr.tied] at h; cases h
  ·intro _ _ _ _ _ _ _ _ h; rw [Tr.tloop] at h; cases h
  ·intro _ _ _ _ _ _ h; rw [Tr.named] at h; cases h
  ·intro _ _ _ _ _ _ _ h; rw [Tr.call] at h; cases h
  ·intro _ _ _ _ _ h; rw [Tr.args] at h; cases h
 | succ f ih =>
  constructor
  ·intro d n x m h
   rw [Tr.one] at h
   by_cases c0 : 12 < d
   ·rw [if_pos c0] at h; exact (fail_ok h).elim
   rw [if_neg c0] at h
   have hd : d <= 12 := by omega
   by_cases c1 : (pk E n).kind = 3
   ·rw [if_pos c1] at h
    cases h
    exact good_leaf hd (Or.inl ⟨rfl, hT.nums n c1, rfl⟩)
   rw [if_neg c1] at h
   by_cases c2 : (pk E n).kind = 1
   ·rw [if_pos c2] at h
    exact ih.named _ _ _ _ hd c2 h
   rw [if_neg c2] at h
   by_cases c3 : (pk E n).text = tLp
   ·rw [if_pos c3] at h
    have q := ih.bracketed _ _ _ _ h
    refine good_mono x (d + 1) _ ?_ q
    cases x with
    | nil => exact Nat.le_succ _
    | mk code a k op nm l r zs =>
     by_cases c : code = 5 /\ levV op < 6
     ·rw [brk_yes c]; exact Nat.le_refl _
     ·rw [brk_no c]; exact Nat.le_succ _
   rw [if_neg c3] at h
   by_cases c4 : (pk E n).text = [45] \/ (pk E n).text = [94] \/ (pk E n).text = [33]
   ·rw [if_pos c4] at h
    obtain ⟨y, n1, h1, h⟩ := bind_ok h
    cases h
    unfold GoodO
    rw [brk_no (fun e => by cases e.1), GoodB]
    exact ⟨hd, Or.inr (Or.inr (Or.inr (Or.inr (Or.inr (Or.inl ⟨rfl, rfl, rfl, rfl, rfl, by rcases c4 with e | e | e <;> rw [e] <;> decide, ih.one _ _ _ _ h1⟩)))))⟩
   rw [if_neg c4] at h
   by_cases c5 : (pk E n).text = tArrow
   ·rw [if_pos c5] at h
    obtain ⟨y, n1, h1, h⟩ := bind_ok h
    cases h
    unfold GoodO
    rw [brk_no (fun e => by cases e.1), GoodB]
    exact ⟨hd, Or.inr (Or.inr (Or.inr (Or.inr (Or.inr (Or.inr (Or.inl ⟨rfl, rfl, rfl, rfl, rfl, rfl, ih.one _ _ _ _ h1⟩))))))⟩
   rw [if_neg c5] at h
   by_cases c6 : (pk E n).text = tMake
   ·rw [if_pos c6] at h
    obtain ⟨y, n1, h1, h⟩ := bind_ok h
    cases h
    unfold GoodO
    rw [brk_no (fun e => by cases e.1), GoodB]
    exact ⟨hd, Or.inr (Or.inr (Or.inr (Or.inr (Or.inr (Or.inr (Or.inr (Or.inl ⟨Or.inl rfl, rfl, rfl, rfl, rfl, rfl, ih.bracketed _ _ _ _ h1⟩)))))))⟩
   rw [if_neg c6] at h
   by_cases c7 : (pk E n).text = tLen
   ·rw [if_pos c7] at h
    obtain ⟨y, n1, h1, h⟩ := bind_ok h
    cases h
    unfold GoodO
    rw [brk_no (fun e => by cases e.1), GoodB]
    exact ⟨hd, Or.inr (Or.inr (Or.inr (Or.inr (Or.inr (Or.inr (Or.inr (Or.inl ⟨Or.inr rfl, rfl, rfl, rfl, rfl, rfl, ih.bracketed _ _ _ _ h1⟩)))))))⟩
   rw [if_neg c7] at h
   by_cases c8 : (pk E n).text = tTrue
   ·rw [if_pos c8] at h
    cases h
    exact good_leaf hd (Or.inr (Or.inl ⟨rfl, by omega, rfl⟩))
   rw [if_neg c8] at h
   by_cases c9 : (pk E n).text = tFalse
   ·rw [if_pos c9] at h
    cases h
    exact good_leaf hd (Or.inr (Or.inl ⟨rfl, by omega, rfl⟩))
   rw [if_neg c9] at h
   by_cases c10 : (pk E n).text = tNil
   ·rw [if_pos c10] at h
    cases h
    exact good_leaf hd (Or.inr (Or.inr (Or.inl ⟨rfl, rfl, rfl⟩)))
   rw [if_neg c10] at h
   exact (fail_ok h).elim
  ·intro d n x m h
   rw [bracketed_eq] at h
   obtain ⟨_, n1, h1, h⟩ := bind_ok h
   obtain ⟨y, n2, h2, h⟩ := bind_ok h
   obtain ⟨_, n3, h3, h⟩ := bind_ok h
   cases h
   exact good_mono _ _ _ (Nat.le_add_right _ _) (ih.tied _ _ _ _ _ (by decide) (by decide) h2)
  ·intro l d n x m hl1 hl6 h
   rw [tied_eq] at h
   by_cases c : l = 6
   ·rw [if_pos c] at h
    rw [c]
    exact ih.one _ _ _ _ h
   ·rw [if_neg c] at h
    obtain ⟨y, n1, h1, h⟩ := bind_ok h
    exact ih.tloop _ _ _ _ _ _ hl1 (by omega) h (good_mono _ _ _ (Nat.add_le_add_left (brk_le l y) d) (ih.tied _ _ _ _ _ (by omega) (by omega) h1))
  ·intro l d a n x m hl1 hl5 h ha
   rw [tloop_eq] at h
   by_cases c : levV (opV (pk E n).text) = l
   ·rw [if_pos c] at h
    obtain ⟨y, n1, h1, h⟩ := bind_ok h
    have q := ih.tied _ _ _ _ _ (by omega) (by omega) h1
    refine ih.tloop _ _ _ _ _ _ hl1 hl5 h ?_
    have hd : d <= 12 := by
     cases a with
     | nil => rw [GoodB] at ha; exact ha.elim
     | mk => rw [GoodB] at ha; have := ha.1; omega
    rw [brk_no (fun e => by have := e.2; omega), GoodB]
    exact ⟨hd, Or.inr (Or.inr (Or.inr (Or.inr (Or.inl ⟨rfl, rfl, rfl, rfl, by omega, by rw [c]; exact ha, by rw [c]; exact q⟩))))⟩
   ·rw [if_neg c] at h
    cases h
    exact ha
  ·intro d n x m hd hk h
   rw [named_eq] at h
   by_cases c : (pk E (n + 1)).text = tLp
   ·rw [if_pos c] at h
    exact (ih.call _ _ _ _ _ hd (hT.words n hk) h).1
   ·rw [if_neg c] at h
    cases h
    exact good_leaf hd (Or.inr (Or.inr (Or.inr ⟨rfl, rfl, hT.words n hk⟩)))
  ·intro d t n x m hd ht h
   rw [call_eq] at h
   obtain ⟨_, n1, h1, h⟩ := bind_ok h
   have key : ∀ zs, GoodAs zs (d + 1) -> GoodO (.mk 7 t.at_ 0 0 t.text .nil .nil zs) d := fun zs hz => by
    unfold GoodO
    rw [brk_no (fun e => by cases e.1), GoodB]
    exact ⟨hd, Or.inr (Or.inr (Or.inr (Or.inr (Or.inr (Or.inr (Or.inr (Or.inr ⟨rfl, rfl, rfl, ht, rfl, rfl, hz⟩)))))))⟩
   by_cases c : (pk E n1).text = tRp
   ·rw [if_pos c] at h
    cases h
    exact ⟨key .nil (by rw [GoodAs]; trivial), rfl⟩
   ·rw [if_neg c] at h
    obtain ⟨y, n2, h2, h⟩ := bind_ok h
    cases h
    exact ⟨key _ (ih.args _ _ _ _ _ h2 (by rw [GoodAs]; trivial)), rfl⟩
  ·intro d a n x m h ha
   rw [args_eq] at h
   obtain ⟨y, n1, h1, h⟩ := bind_ok h
   have q := goodAs_snoc _ _ _ ha (good_mono _ _ _ (Nat.le_add_right _ _) (ih.tied _ _ _ _ _ (by decide) (by decide) h1))
   by_cases c : (pk E n1).text = tComma
   ·rw [if_pos c] at h
    exact ih.args _ _ _ _ _ h q
   ·rw [if_neg c] at h
    obtain ⟨_, n2, h2, h⟩ := bind_ok h
    cases h
    exact q
theorem good_expr {E : Env} (hT : TokOk E) {f d n m : Nat} {x : Ex} (h : expr E f d n = .ok x m) : GoodB x d := good_mono _ _ _ (Nat.le_add_right _ _) ((gds hT f).tied _ _ _ _ _ (by decide) (by decide) h)
end Tr
end Go.Proofs.YtjejcajnnbilmaaGreatDoor
namespace Go.Proofs.YtjejcajnnbilmaaGreatDoor
open Go.RowKit Lx Tr
theorem exW_E (least : Nat) : ∀ (x : Ex) (b : Lx.B), exW least (exE x) b = exW least x b
 | .nil, _ => by rw [exE]
 | .mk .., _ => by rw [exE]; rfl
mutual
theorem bareV_E : ∀ x : Ex, bareV (exE x) = bareV x
 | .nil => by rw [exE]
 | .mk c a n op nm l r zs => by
  rw [exE, bareV, bareV, bareV_E l, bareV_E r, argV_E true zs]
  simp only [exW_E]
theorem argV_E : ∀ (f : Bool) (xs : Exs), argV f (exsE xs) = argV f xs
 | f, .nil => by rw [exsE]
 | f, .cons x xs => by rw [exsE, argV, argV, bareV_E x, argV_E false xs, exW_E]
end
theorem exV_E (least : Nat) (x : Ex) : exV least (exE x) = exV least x := by unfold exV; rw [exW_E, bareV_E]
theorem giveV_E (d : Nat) : ∀ x : Ex, giveV d (exE x) = giveV d x
 | .nil => by rw [exE]
 | .mk c a n op nm l r zs => by
  have h := exV_E 1 (.mk c a n op nm l r zs)
  rw [exE] at h ⊢
  show lineV d (cReturn ++ exV 1 _) = lineV d (cReturn ++ exV 1 _)
  rw [h]
theorem sentV_E (x y : Ex) : sentV (exE x) (exE y) = sentV x y := by unfold sentV; rw [exV_E, exV_E]
theorem talkV_E (c : Nat) (nm : Lx.B) (x y : Ex) : talkV c nm (exE x) (exE y) = talkV c nm x y := by unfold talkV; rw [sentV_E, exV_E]
theorem stsE_len : ∀ xs : Sts, (stsE xs).len = xs.len
 | .nil => by rw [stsE]
 | .cons x xs => by rw [stsE, Sts.len, Sts.len, stsE_len xs]
mutual
theorem stV_E : ∀ (d : Nat) (s : St), stV d (stE s) = stV d s
 | d, .mk c a nm dst v t e cs => by
  rw [stE, stV, stV, exV_E, sentV_E, giveV_E, stsV_E (d + 1) t, stsV_E (d + 1) e, casV_E d cs, stsE_len]
theorem stsV_E : ∀ (d : Nat) (xs : Sts), stsV d (stsE xs) = stsV d xs
 | d, .nil => by rw [stsE]
 | d, .cons x xs => by rw [stsE, stsV, stsV, stV_E d x, stsV_E d xs]
theorem caV_E : ∀ (d : Nat) (c : Ca), caV d (caE c) = caV d c
 | d, .mk c a nm dst v b => by rw [caE, caV, caV, talkV_E, stsV_E (d + 1) b]
theorem casV_E : ∀ (d : Nat) (xs : Cas), casV d (casE xs) = casV d xs
 | d, .nil => by rw [casE]
 | d, .cons x xs => by rw [casE, casV, casV, caV_E d x, casV_E d xs]
end
theorem parL_E : ∀ (f : Bool) (l : List Pa), parL f (l.map paE) = parL f l
 | _, [] => rfl
 | f, x :: xs => by
  show (if f then [] else [44, 32]) ++ (paV (paE x) ++ parL false (xs.map paE)) = (if f then [] else [44, 32]) ++ (paV x ++ parL false xs)
  rw [parL_E false xs]
  rfl
theorem fuV_E (g : Fu) : fuV (fuE g) = fuV g := by
 unfold fuV fuE
 rw [parL_E, stsV_E]
theorem fusV_E {l l' : List Fu} (h : l'.map fuE = l.map fuE) : l'.flatMap fuV = l.flatMap fuV := by
 have e : ∀ l : List Fu, l.flatMap fuV = (l.map fuE).flatMap fuV := fun l => by
  rw [List.flatMap_map]
  exact congrArg (fun f => List.flatMap f l) (funext fun g => (fuV_E g).symm)
 rw [e l', h, <- e l]
theorem glsV_E {l l' : List Gl} (h : l'.map glE = l.map glE) : l'.flatMap glV = l.flatMap glV := by
 have e : ∀ l : List Gl, l.flatMap glV = (l.map glE).flatMap glV := fun l => by
  rw [List.flatMap_map]
  rfl
 rw [e l', h, <- e l]
theorem printV_E {s s' : Src} (hg : s'.globals.map glE = s.globals.map glE) (hf : s'.funcs.map fuE = s.funcs.map fuE) : printV s' = printV s := by
 unfold printV
 rw [glsV_E hg, fusV_E hf]
end Go.Proofs.YtjejcajnnbilmaaGreatDoor
