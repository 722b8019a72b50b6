/-
  Texts of one proof, in build order: The walk of package asm's Write. | The walk of slices.Equal at numbers that are the same. | What the laws of package code ask of programs: sameProgram, big, tiny. | What the laws of package code ask of programs: sameProgram. | The fact that the laws of package code ask first ('coded'). | The fact that the laws of package asm ask first ('spelt'). | The walk of the law AsmOnce: a text that is read, and written, is read as the same again. | What the variables that chapter 15's laws list give their walks. | What the variables that the law AsmOnce lists give its walk.
-/
import Derived.Test.YtkeglkneobngnaaDoorV2
import Derived.WalkSpells
import Derived.WalkLawsBesides
import Derived.Deep.QuietTactic
import Derived.BigQuiet
import Derived.Deep.RegionHeld3
import Derived.Deep.DeepCutAuto
import Derived.Deep.CutRange
import Derived.Test.YtkeglkneobngnaaDoorTie
import Derived.PinnedBridge
import Derived.LaidMore
import Derived.Lib.LaidTab
import Derived.MakeChecks
namespace Go.Proofs.YtkeglkneobngnaaDoor
open Go.RowKit Cd As

def nb (l : B) : List Nat := l.map UInt8.toNat
theorem nb_append (a b : B) : nb a ++ nb b = nb (a ++ b) := by simp [nb]
theorem nb_length (l : B) : (nb l).length = l.length := by simp [nb]
theorem nb_bytes (l : B) : Crc.Bytes (nb l) := fun x hx => by
  obtain ⟨c, _, rfl⟩ := List.mem_map.1 hx
  exact c.toNat_lt
theorem bs_stB (l : B) : bs (stB l) = nb l := by
  unfold bs nb stB
  simp
theorem txt_nb (l : B) : txt (nb l) = stB l := by
  rw [← bs_stB, txt_bs]
/-- A prefix of a program's text. -/
theorem asm_pre (p : Pg) {k j : Nat} {f : FnV} (hf : p.fns[k]? = some f) : (globL p ++ 10 :: (p.fns.take k).flatMap fnT ++ (As.headL f ++ [10]) ++ (f.code.take j).flatMap insT).length ≤ (asmT p).length := by
  obtain ⟨hk, rfl⟩ := List.getElem?_eq_some_iff.1 hf
  have e1 : p.fns = p.fns.take k ++ p.fns[k] :: p.fns.drop (k + 1) := by
    rw [List.getElem_cons_drop hk, List.take_append_drop]
  have e2 : p.fns[k].code = p.fns[k].code.take j ++ p.fns[k].code.drop j := (List.take_append_drop _ _).symm
  have e3 : (p.fns.flatMap fnT).length = ((p.fns.take k).flatMap fnT).length + (fnT p.fns[k]).length + ((p.fns.drop (k + 1)).flatMap fnT).length := by
    conv => lhs; rw [e1]
    rw [List.flatMap_append, List.flatMap_cons, List.length_append, List.length_append]
    omega
  have e4 : (p.fns[k].code.flatMap insT).length = ((p.fns[k].code.take j).flatMap insT).length + ((p.fns[k].code.drop j).flatMap insT).length := by
    conv => lhs; rw [e2]
    rw [List.flatMap_append, List.length_append]
  unfold asmT
  simp only [List.length_append, List.length_cons, List.length_nil, e3]
  unfold fnT
  simp only [List.length_append, List.length_cons, e4]
  omega

/-- What Write hands back. -/
def wrT (p : Pg) : ByteArray := if progE p = 0 then stB (asmT p) else stB []
theorem wrT_ok {p : Pg} (h : progE p = 0) : wrT p = stB (asmT p) := if_pos h
theorem wrT_bad {p : Pg} (h : progE p ≠ 0) : wrT p = stB [] := if_neg h
def preL (p : Pg) (k : Nat) : B := globL p ++ 10 :: (p.fns.take k).flatMap fnT
def preI (p : Pg) (k : Nat) (f : FnV) (j : Nat) : B := preL p k ++ (As.headL f ++ [10]) ++ (f.code.take j).flatMap insT
theorem preI_len (p : Pg) {k j : Nat} {f : FnV} (hf : p.fns[k]? = some f) : (preI p k f j).length ≤ (asmT p).length := asm_pre p hf
theorem preI_zero (p : Pg) (k : Nat) (f : FnV) : preI p k f 0 = preL p k ++ (As.headL f ++ [10]) := by simp [preI]
theorem preI_succ (p : Pg) (k : Nat) (f : FnV) {j : Nat} {i : In} (hi : f.code[j]? = some i) : preI p k f (j + 1) = preI p k f j ++ insT i := by
  unfold preI
  rw [List.take_add_one, hi, Option.toList_some, List.flatMap_append, List.flatMap_cons, List.flatMap_nil, List.append_nil]
  simp only [List.append_assoc]
theorem preI_end (p : Pg) {k : Nat} {f : FnV} (hf : p.fns[k]? = some f) : preI p k f f.code.length = preL p (k + 1) := by
  unfold preI preL
  rw [List.take_length, List.take_add_one, hf, Option.toList_some, List.flatMap_append, List.flatMap_cons, List.flatMap_nil, List.append_nil]
  unfold fnT
  simp only [List.append_assoc, List.cons_append, List.nil_append]
theorem preL_zero (p : Pg) : preL p 0 = globL p ++ [10] := rfl
theorem preL_end (p : Pg) : preL p p.fns.length = asmT p := by unfold preL asmT; rw [List.take_length]

set_option maxRecDepth 100000 in
set_option maxHeartbeats 6400000 in
theorem write_any (p : Pg) (v : Value) (w : World) (hp : ProgAt w v p) (hlen : progE p = 0 → (asmT p).length ≤ 1000000) (hv : AsmVars w) (hP : Pow w) :
    Calls Tryd.prog 14 #[v] w fun e w' => e = .returned (.tuple #[.string (wrT p), errV (progE p)]) ∧ Below w.heap.size w w' := by
  have HP := Lib.hid hp
  obtain ⟨vf, rfl, ao, n, cap, rfl, hn, hnc, hcm, hx⟩ := hp
  unfold maxLen at hcm
  have hb0 := (Below.refl w.heap.size w).alloc (Nat.le_refl _) (.cells #[.int .i64 p.globals, .slice ao n cap] 24)
  have HB0 := Lib.hid hb0
  have HN := Lib.hid hn
  have HV := Lib.hid (hv.below hb0)
  have HPW := Lib.hid (hP.below hb0)
  have HX : Hid (∀ W, Below w.heap.size w W → 0 < n → ∃ b o, ao = some ⟨b, o, none⟩ ∧ ∀ i f, p.fns[i]? = some f → FnAt W b (o + i * 4) f) := Lib.hid fun W hW h0 => by
    obtain ⟨b, o, h1, h2, h3⟩ := hx h0
    exact ⟨b, o, h1, fun i f hi => (h3 i f hi).below hW⟩
  have HR := Lib.hid (right_any p _ _ (HP.out.below hb0))
  have HRE : Hid (progE p = 0 ∨ progE p ≠ 0) := Lib.hid (by omega)
  obtain ⟨gl, hgl⟩ : ∃ gl, gl = p.globals := ⟨_, rfl⟩
  have HGL := Lib.hid hgl
  rw [← hgl] at HR HP hb0 HB0 HV HPW ⊢
  have hx0 := cell_of_row (w.alloc (.cells #[.int .i64 gl, .slice ao n cap] 24)) w.heap.size 0 _ _ _ (heap_alloc_new _ _)
  have hx1 := cell_of_row (w.alloc (.cells #[.int .i64 gl, .slice ao n cap] 24)) w.heap.size 1 _ _ _ (heap_alloc_new _ _)
  have hsz1 : w.heap.size < (w.alloc (.cells #[.int .i64 gl, .slice ao n cap] 24)).heap.size := by simp
  have hr9 := HRE.out
  have HLEN := Lib.hid hlen
  clear hx hn hv hP hgl HRE hlen
  go_enter Tryd.func14, Tryd.ntmps14
  go_upto_region 1 with fail
  generalize hW1 : w.alloc (.cells #[.int .i64 gl, .slice ao n cap] 24) = W1 at *
  clear hW1
  have HC : Hid (∀ V, Below W1.heap.size W1 V → V.cell? ⟨w.heap.size, 0, none⟩ = some (.int .i64 gl) ∧ V.cell? ⟨w.heap.size, 1, none⟩ = some (.slice ao n cap)) := Lib.hid fun V hV =>
    ⟨by rw [hV.cell (p := ⟨w.heap.size, 0, none⟩) hsz1]; exact hx0, by rw [hV.cell (p := ⟨w.heap.size, 1, none⟩) hsz1]; exact hx1⟩
  clear hx0 hx1 hb0
  obtain ⟨hx0, hx1⟩ := HC.out _ (Below.refl _ _)
  go_wp2_with fail
  refine HR.out.mono ?_
  rintro e w2 ⟨rfl, hb2⟩
  rcases hr9 with h0 | h0
  · have HPR := Lib.hid ((progE_iff p).1 h0)
    have HE : Hid (wrT p = stB (asmT p) ∧ progE p = 0) := Lib.hid ⟨wrT_ok h0, h0⟩
    have HLE := Lib.hid (HLEN.out h0)
    have hg1 : 0 ≤ gl ∧ gl ≤ 8 := by rw [HGL.out]; exact ⟨HPR.out.globals0, HPR.out.globals⟩
    have hn12 : n ≤ 12 := by rw [HN.out]; exact HPR.out.fns
    rw [h0, errV_0]
    clear hx0 hx1 h0 HLEN HR
    have hb3 := hb2.alloc hb2.size (.cells #[.pointer none, .slice none 0 0] 69)
    have HB3 := Lib.hid hb3
    have HBD := Lib.hid (bld_new w2)
    have HS3 : Hid (W1.heap.size ≤ w2.heap.size) := Lib.hid hb2.size
    have hsz3 : w2.heap.size < (w2.alloc (.cells #[.pointer none, .slice none 0 0] 69)).heap.size := by simp
    obtain ⟨hx0, hx1⟩ := HC.out _ hb3
    go_upto_region 5 with fail
    generalize hw3 : w2.alloc (.cells #[.pointer none, .slice none 0 0] 69) = w3 at *
    generalize hB4 : w2.heap.size = B4 at *
    clear hw3 hB4 hb2 hb3
    have HIT := Lib.hid (itoa_any gl (by omega) (by omega) w3 (HPW.out.below HB3.out))
    have hso : sOf gl = stB (Lib.itoa gl) := rfl
    rw [hso] at HIT
    have hil := itoa_len2 gl hg1.1 (by omega)
    have HG : Hid ((⟨#[103, 108, 111, 98, 97, 108, 115, 32]⟩ : ByteArray) ++ stB (Lib.itoa gl) ++ (⟨#[10]⟩ : ByteArray) = stB (preL p 0)) := Lib.hid (by
      have e1 : (⟨#[103, 108, 111, 98, 97, 108, 115, 32]⟩ : ByteArray) = stB (globB ++ [32]) := rfl
      have e2 : (⟨#[10]⟩ : ByteArray) = stB [10] := rfl
      rw [e1, e2, stB_append, stB_append, preL_zero, HGL.out]
      simp [globL, spaced])
    have hs1 : ¬ 9223372036854775807 < (⟨#[103, 108, 111, 98, 97, 108, 115, 32]⟩ : ByteArray).size + (stB (Lib.itoa gl)).size := by rw [stB_size]; show ¬ 9223372036854775807 < 8 + _; omega
    have hs2 : ¬ 9223372036854775807 < ((⟨#[103, 108, 111, 98, 97, 108, 115, 32]⟩ : ByteArray) ++ stB (Lib.itoa gl)).size + (⟨#[10]⟩ : ByteArray).size := by rw [ByteArray.size_append, stB_size]; show ¬ 9223372036854775807 < 8 + _ + 1; omega
    have HGS : Hid ((preL p 0).length ≤ 100) := Lib.hid (by
      have := congrArg ByteArray.size HG.out
      rw [stB_size, ByteArray.size_append, ByteArray.size_append, stB_size] at this
      have e1 : (⟨#[103, 108, 111, 98, 97, 108, 115, 32]⟩ : ByteArray).size = 8 := rfl
      have e2 : (⟨#[10]⟩ : ByteArray).size = 1 := rfl
      omega)
    generalize stB (Lib.itoa gl) = t at *
    clear hso hil
    go_wp2_with fail
    refine HIT.out.mono ?_
    rintro e w4 ⟨rfl, hb4⟩
    have HB4 := Lib.hid (HB3.out.trans (hb4.mono HB3.out.size))
    have HBD4 := Lib.hid (HBD.out.below hb4)
    have hB4 : B4 ≤ w4.heap.size := by have := hb4.size; omega
    have HWS := Lib.hid (writeString_any B4 B4 [] (stB (preL p 0)) w4 HBD4.out (by rw [stB_size]; have := HGS.out; simp; omega) hB4)
    obtain ⟨hx0, hx1⟩ := HC.out _ HB4.out
    clear hb4 HIT HBD HBD4
    go_wp2_with fail
    rw [HG.out]
    refine HWS.out.mono ?_
    rintro e w5 ⟨rfl, hbd5, hb5⟩
    have HB5 := Lib.hid (HB4.out.trans (hb5.mono HS3.out))
    have HBD5 : Hid (Bld B4 B4 (nb (preL p 0)) w5) := Lib.hid (by rw [List.nil_append, bs_stB] at hbd5; exact hbd5)
    have hB5 : B4 ≤ w5.heap.size := Nat.le_trans hB4 hb5.size
    clear hbd5 hb5 HWS HB4 hx0 hx1 hB4 HB3 hsz3 HG hs1 hs2
    obtain ⟨hx0, hx1⟩ := HC.out _ HB5.out
    go_wp2_with fail
    go_loopw [24] (fun iv wr => ∃ k : Nat, k ≤ n ∧ iv = .int .i64 k ∧ Bld B4 B4 (nb (preL p k)) wr ∧ Below W1.heap.size W1 wr ∧ B4 ≤ wr.heap.size) (fun iv _ => n - (intOf iv).toNat)
    case atStart => exact ⟨0, Nat.zero_le _, rfl, HBD5.out, HB5.out, hB5⟩
    case round =>
      obtain ⟨k, hk, rfl, hbd, hbel, hle⟩ := hrel
      rename World => wr
      have HBD := Lib.hid hbd
      have HB := Lib.hid hbel
      clear hbd hbel HBD5 HB5 hB5 hx0 hx1
      by_cases hkn : k < n
      · obtain ⟨b, o, rfl, hfn⟩ := HX.out w (Below.refl _ _) (by omega)
        have hbr : Below w.heap.size w wr := HB0.out.trans (HB.out.mono HB0.out.size)
        have hkr := keeps_none hbr
        have hkl : k < p.fns.length := by rw [← HN.out]; exact hkn
        obtain ⟨f, hf⟩ : ∃ f, p.fns[k]? = some f := ⟨_, List.getElem?_eq_getElem hkl⟩
        obtain ⟨hc1, ⟨vl, hc2, hli⟩, hc3, vc, hc4, hci⟩ := hfn k f hf
        have HF := Lib.hid hf
        replace hc1 := hkr.cell_of hc1 id
        replace hc2 := hkr.cell_of hc2 id
        replace hc3 := hkr.cell_of hc3 id
        replace hc4 := hkr.cell_of hc4 id
        have HLI := Lib.hid (hli.below hbr)
        have HFR : Hid (FnR f) := Lib.hid (HPR.out.each f (List.mem_of_getElem? hf))
        have hi1 : (k : Int) < (n : Int) := by omega
        clear hfn hf hkl hli hkr hbr
        obtain ⟨pa, hpa⟩ : ∃ x, x = f.params := ⟨_, rfl⟩
        obtain ⟨ki, hki⟩ : ∃ x, x = f.kind := ⟨_, rfl⟩
        rw [← hpa] at hc1
        rw [← hki] at hc3
        have hal := (Below.refl wr.heap.size wr).alloc (Nat.le_refl _) (.cells #[.int .i64 pa, vl, .int .i64 ki, vc] 44)
        have HBA := Lib.hid (HB.out.trans (hal.mono HB.out.size))
        have HHD : Hid (Calls Tryd.prog 37 #[.agg #[.int .i64 pa, vl, .int .i64 ki, vc]] (wr.alloc (.cells #[.int .i64 pa, vl, .int .i64 ki, vc] 44)) fun e w' => e = .returned (.string (stB (As.headL f ++ [10]))) ∧ Below (wr.alloc (.cells #[.int .i64 pa, vl, .int .i64 ki, vc] 44)).heap.size (wr.alloc (.cells #[.int .i64 pa, vl, .int .i64 ki, vc] 44)) w') := Lib.hid (by
          have := headLine_any f vl vc (wr.alloc (.cells #[.int .i64 pa, vl, .int .i64 ki, vc] 44)) HFR.out (HLI.out.below hal) (HV.out.below HBA.out) (HPW.out.below HBA.out)
          rw [← hpa, ← hki] at this
          exact this)
        obtain ⟨a2, m, c2, hvc, hm, hmc, hcm2, hx2⟩ := hci
        unfold maxLen at hcm2
        subst hvc
        have HM := Lib.hid hm
        have HX2 : Hid (∀ W, Below w.heap.size w W → 0 < m → ∃ b o, a2 = some ⟨b, o, none⟩ ∧ ∀ i x, f.code[i]? = some x → W.cell? ⟨b, o + i * 2, none⟩ = some (.int .i64 x.1) ∧ W.cell? ⟨b, o + i * 2 + 1, none⟩ = some (.int .i64 x.2)) := Lib.hid fun W hW h0 => by
          obtain ⟨b, o, h1, h2, h3⟩ := hx2 h0
          refine ⟨b, o, h1, fun i x hi => ?_⟩
          rw [hW.cell (p := ⟨b, o + i * 2, none⟩) h2, hW.cell (p := ⟨b, o + i * 2 + 1, none⟩) h2]
          exact h3 i x hi
        have HXB : Hid ((wr.alloc (.cells #[.int .i64 pa, vl, .int .i64 ki, .slice a2 m c2] 44)).heap[wr.heap.size]? = some (.cells #[.int .i64 pa, vl, .int .i64 ki, .slice a2 m c2] 44 (0, 0))) := Lib.hid (heap_alloc_new _ _)
        have hy0 : (wr.alloc (.cells #[.int .i64 pa, vl, .int .i64 ki, .slice a2 m c2] 44)).cell? ⟨wr.heap.size, 0, none⟩ = some (.int .i64 pa) := cell_of_row _ _ _ _ _ _ (heap_alloc_new _ _)
        have hy1 : (wr.alloc (.cells #[.int .i64 pa, vl, .int .i64 ki, .slice a2 m c2] 44)).cell? ⟨wr.heap.size, 1, none⟩ = some vl := cell_of_row _ _ _ _ _ _ (heap_alloc_new _ _)
        have hy2 : (wr.alloc (.cells #[.int .i64 pa, vl, .int .i64 ki, .slice a2 m c2] 44)).cell? ⟨wr.heap.size, 2, none⟩ = some (.int .i64 ki) := cell_of_row _ _ _ _ _ _ (heap_alloc_new _ _)
        have hy3 : (wr.alloc (.cells #[.int .i64 pa, vl, .int .i64 ki, .slice a2 m c2] 44)).cell? ⟨wr.heap.size, 3, none⟩ = some (.slice a2 m c2) := cell_of_row _ _ _ _ _ _ (heap_alloc_new _ _)
        have HBD1 := Lib.hid (HBD.out.below hal)
        have HNE : Hid (wr.heap.size ≠ B4) := Lib.hid (by
          have : B4 < wr.heap.size := by
            rcases HBD.out with ⟨_, v, h, _⟩ | ⟨_, v, h, _⟩
            · exact (Array.getElem?_eq_some_iff.1 h).1
            · exact (Array.getElem?_eq_some_iff.1 h).1
          omega)
        obtain ⟨a1, n1, c1, hvl, -⟩ := HLI.out
        subst hvl
        clear hx2 hm hpa hki
        go_upto_region 9 with fail
        have HAL := Lib.hid hal
        generalize hwa : wr.alloc (.cells #[.int .i64 pa, .slice a1 n1 c1, .int .i64 ki, .slice a2 m c2] 44) = wa at *
        have hla : B4 ≤ wa.heap.size := Nat.le_trans hle hal.size
        generalize hxb : wr.heap.size = xb at *
        clear hwa hal hc1 hc2 hc3 hc4
        go_wp2_with fail
        refine HHD.out.mono ?_
        rintro e w6 ⟨rfl, hb6⟩
        have HB6 := Lib.hid (HBA.out.trans (hb6.mono HBA.out.size))
        have HBD6 := Lib.hid (HBD1.out.below hb6)
        have HK6 : Hid (KeptX B4 wa w6) := Lib.hid (KeptX.below hb6)
        have hl6 : B4 ≤ w6.heap.size := Nat.le_trans hla hb6.size
        have HP0 := Lib.hid (preI_zero p k f)
        have hlen6 : (nb (preL p k)).length + (stB (As.headL f ++ [10])).size ≤ 1000000 := by
          have h1 := preI_len p (j := 0) HF.out
          rw [HP0.out, List.length_append] at h1
          have h2 := HLE.out
          rw [nb_length, stB_size]
          omega
        have HWS := Lib.hid (writeStringK_any B4 B4 _ (stB (As.headL f ++ [10])) w6 HBD6.out hlen6 hl6)
        rw [bs_stB, nb_append, ← HP0.out] at HWS
        clear hb6 HHD HBD1 HBD6 hy0 hy1 hy2 hlen6 hla
        generalize stB (As.headL f ++ [10]) = t6 at *
        go_wp2_with fail
        refine HWS.out.mono ?_
        rintro e w7 ⟨rfl, hbd7, hb7, hk7⟩
        have hy3 : w7.cell? ⟨xb, 3, none⟩ = some (.slice a2 m c2) := by
          rw [(HK6.out.trans hk7).cell HNE.out (by decide) HXB.out]
          exact hy3
        have HB7 := Lib.hid (HB6.out.trans (hb7.mono (Nat.le_trans HS3.out (Nat.le_refl _))))
        have HBD7 := Lib.hid hbd7
        have hl7 : B4 ≤ w7.heap.size := Nat.le_trans hl6 hb7.size
        clear hbd7 hb7 hk7 HWS HB6 HK6 hl6
        go_wp2_with fail
        go_loopw [34] (fun iv wq => ∃ j : Nat, j ≤ m ∧ iv = .int .i64 j ∧ Bld B4 B4 (nb (preI p k f j)) wq ∧ Below W1.heap.size W1 wq ∧ B4 ≤ wq.heap.size) (fun iv _ => m - (intOf iv).toNat)
        case atStart => exact ⟨0, Nat.zero_le _, rfl, HBD7.out, HB7.out, hl7⟩
        case round =>
          obtain ⟨j, hj, rfl, hbd, hbel, hle9⟩ := hrel
          rename World => wq
          have HBQ := Lib.hid hbd
          have HQ := Lib.hid hbel
          clear hbd hbel HBD7 HB7 hl7 hy3
          by_cases hjm : j < m
          · obtain ⟨b9, o9, rfl, hcell⟩ := HX2.out wq (HB0.out.trans (HQ.out.mono HB0.out.size)) (by omega)
            have hjl : j < f.code.length := by rw [← HM.out]; exact hjm
            obtain ⟨i, hi⟩ : ∃ i, f.code[j]? = some i := ⟨_, List.getElem?_eq_getElem hjl⟩
            obtain ⟨hd1, hd2⟩ := hcell j i hi
            have HMB := Lib.hid (HFR.out.ins i (List.mem_of_getElem? hi))
            have HPS := Lib.hid (preI_succ p k f hi)
            have hji : (j : Int) < (m : Int) := by omega
            clear hcell hjl hi
            obtain ⟨op, nn⟩ := i
            dsimp only at hd1 hd2
            have hal9 := (Below.refl wq.heap.size wq).alloc (Nat.le_refl _) (.cells #[.int .i64 op, .int .i64 nn] 52)
            have HQA := Lib.hid (HQ.out.trans (hal9.mono HQ.out.size))
            have HIL := Lib.hid (insLine_any (op, nn) (wq.alloc (.cells #[.int .i64 op, .int .i64 nn] 52)) HMB.out (HV.out.below HQA.out) (HPW.out.below HQA.out))
            have HBQ1 := Lib.hid (HBQ.out.below hal9)
            have hz0 : (wq.alloc (.cells #[.int .i64 op, .int .i64 nn] 52)).cell? ⟨wq.heap.size, 0, none⟩ = some (.int .i64 op) := cell_of_row _ _ _ _ _ _ (heap_alloc_new _ _)
            have hz1 : (wq.alloc (.cells #[.int .i64 op, .int .i64 nn] 52)).cell? ⟨wq.heap.size, 1, none⟩ = some (.int .i64 nn) := cell_of_row _ _ _ _ _ _ (heap_alloc_new _ _)
            have hl8 : B4 ≤ (wq.alloc (.cells #[.int .i64 op, .int .i64 nn] 52)).heap.size := Nat.le_trans hle9 hal9.size
            go_upto_region 13 with fail
            generalize hwqa : wq.alloc (.cells #[.int .i64 op, .int .i64 nn] 52) = wqa at *
            generalize hxq : wq.heap.size = xq at *
            clear hwqa hxq hal9 hd1 hd2
            go_wp2_with fail
            refine HIL.out.mono ?_
            rintro e w8 ⟨rfl, hb8⟩
            have HB8 := Lib.hid (HQA.out.trans (hb8.mono HQA.out.size))
            have HBQ8 := Lib.hid (HBQ1.out.below hb8)
            have hl9 : B4 ≤ w8.heap.size := Nat.le_trans hl8 hb8.size
            have hlen8 : (nb (preI p k f j)).length + (stB (insT (op, nn))).size ≤ 1000000 := by
              have h1 := preI_len p (j := j + 1) HF.out
              rw [HPS.out, List.length_append] at h1
              have h2 := HLE.out
              rw [nb_length, stB_size]
              omega
            have HWS := Lib.hid (writeString_any B4 B4 _ (stB (insT (op, nn))) w8 HBQ8.out hlen8 hl9)
            rw [bs_stB, nb_append, ← HPS.out] at HWS
            clear hb8 HIL HBQ1 HBQ8 hz0 hz1 hlen8 hl8
            generalize stB (insT (op, nn)) = t8 at *
            go_wp2_with fail
            refine HWS.out.mono ?_
            rintro e w9 ⟨rfl, hbd9, hb9⟩
            have HBD9 := Lib.hid hbd9
            have HB9 := Lib.hid (HB8.out.trans (hb9.mono HS3.out))
            have hl10 : B4 ≤ w9.heap.size := Nat.le_trans hl9 hb9.size
            clear hbd9 hb9 HWS HB8
            go_wp2_with fail
            go_roundw
            case rel => exact ⟨j + 1, by omega, by go_num, HBD9.out, HB9.out, hl10⟩
            case measure => simp [intOf]; omega
          · obtain rfl : j = m := by omega
            have HPE := Lib.hid (preI_end p HF.out)
            have HBD9 : Hid (Bld B4 B4 (nb (preL p (k + 1))) wq) := Lib.hid (by
              have := HBQ.out
              rw [HM.out, HPE.out] at this
              exact this)
            clear HX2
            go_wp2_with fail
            go_roundw
            case rel => exact ⟨k + 1, by omega, by go_num, HBD9.out, HQ.out, hle9⟩
            case measure => simp [intOf]; omega
      · obtain rfl : k = n := by omega
        have HSE : Hid (Bld B4 B4 (nb (asmT p)) wr) := Lib.hid (by
          have := HBD.out
          rw [HN.out, preL_end] at this
          exact this)
        have HST := Lib.hid (bldString_any B4 B4 _ wr HSE.out (nb_bytes _) hle)
        rw [txt_nb] at HST
        clear HX
        go_wp2_with fail
        refine HST.out.mono ?_
        rintro e w9 ⟨rfl, hb9⟩
        go_wp2_with fail
        go_ret2
        exact ⟨by rw [HE.out.1, HE.out.2]; rfl, HB0.out.trans ((HB.out.trans (hb9.mono HS3.out)).mono HB0.out.size)⟩
  · have HE : Hid (wrT p = stB [] ∧ progE p ≠ 0) := Lib.hid ⟨wrT_bad h0, h0⟩
    rw [errV_nz h0]
    clear h0
    go_wp2_with fail
    go_ret2
    exact ⟨by rw [HE.out.1, errV_nz HE.out.2]; rfl, HB0.out.trans (hb2.mono HB0.out.size)⟩
end Go.Proofs.YtkeglkneobngnaaDoor

namespace Go.Proofs.YtkeglkneobngnaaDoor
open Go.RowKit

set_option maxRecDepth 100000 in
set_option maxHeartbeats 1600000 in
theorem equalI_any (v u : Value) (l : List Int) (w : World) (hv : IntsAt w v l) (hu : IntsAt w u l) :
    Calls Tryd.prog 45 #[v, u] w fun e w' => e = .returned (.bool true) ∧ ∃ n, w' = w.drewN n := by
  obtain ⟨ao, n, cap, rfl, hn, hnc, hcm, hx⟩ := hv
  obtain ⟨ao2, n2, cap2, rfl, hn2, hnc2, hcm2, hx2⟩ := hu
  obtain rfl : n2 = n := by omega
  unfold maxLen at hcm hcm2
  have HX := Lib.hid hx
  have HX2 := Lib.hid hx2
  clear hx hx2 hn hn2
  go_enter Tryd.func45, Tryd.ntmps45
  go_wp2_with fail
  go_loopw [13] (fun i wr => ∃ (k m : Nat), k ≤ n2 ∧ i = .int .i64 k ∧ wr = w.drewN m) (fun i _ => n2 - (intOf i).toNat)
  case atStart => exact ⟨0, 0, Nat.zero_le _, rfl, rfl⟩
  case round =>
    obtain ⟨k, m, hk, rfl, rfl⟩ := hrel
    by_cases hkn : k < n2
    · obtain ⟨b, o, rfl, hbl, hcell⟩ := HX.out (by omega)
      obtain ⟨b2, o2, rfl, hbl2, hcell2⟩ := HX2.out (by omega)
      have hc1 := hcell k hkn
      have hd1 := hcell2 k hkn
      have hi1 : (0 : Int) ≤ (k : Int) ∧ (k : Int) < (n2 : Int) := by omega
      have hi2 : (k : Int) < (n2 : Int) := by omega
      clear hcell hcell2
      generalize l.getD k 0 = x at *
      go_wp2_with fail
      go_quiet (fail)
      go_wp2_with fail
      go_roundw
      case rel => exact ⟨k + 1, _, by omega, by go_num, rfl⟩
      case measure => simp [intOf]; omega
    · obtain rfl : k = n2 := by omega
      go_wp2_with fail
      go_ret
      exact ⟨rfl, _, rfl⟩
end Go.Proofs.YtkeglkneobngnaaDoor

namespace Go.Proofs.YtkeglkneobngnaaDoor
open Go.RowKit Cd

theorem InsAt.at {w : World} {v : Value} {l : List In} (h : InsAt w v l) : ∃ ao cap, v = .slice ao l.length cap ∧ l.length ≤ cap ∧ cap ≤ maxLen ∧ ∀ i x, l[i]? = some x → ∃ b o, ao = some ⟨b, o, none⟩ ∧ w.cell? ⟨b, o + i * 2, none⟩ = some (.int .i64 x.1) ∧ w.cell? ⟨b, o + i * 2 + 1, none⟩ = some (.int .i64 x.2) := by
  obtain ⟨ao, n, cap, rfl, rfl, hc, hm, hx⟩ := h
  refine ⟨ao, cap, rfl, hc, hm, fun i x hi => ?_⟩
  obtain ⟨b, o, h1, _, h3⟩ := hx (by have := (List.getElem?_eq_some_iff.1 hi).1; omega)
  exact ⟨b, o, h1, (h3 i x hi).1, (h3 i x hi).2⟩

set_option maxRecDepth 100000 in
set_option maxHeartbeats 1600000 in
theorem equalN_any (v u : Value) (l : List In) (w : World) (hv : InsAt w v l) (hu : InsAt w u l) :
    Calls Tryd.prog 46 #[v, u] w fun e w' => e = .returned (.bool true) ∧ ∃ n, w' = w.drewN n := by
  obtain ⟨a1, k1, rfl, hc1, hm1, h1⟩ := hv.at
  obtain ⟨a2, k2, rfl, hc2, hm2, h2⟩ := hu.at
  have H1 := Lib.hid h1
  have H2 := Lib.hid h2
  obtain ⟨n, hn⟩ : ∃ n, n = l.length := ⟨_, rfl⟩
  have HN := Lib.hid hn
  rw [← hn] at hc1 hc2 ⊢
  unfold maxLen at hm1
  clear hn hm2 h1 h2 hv hu
  go_enter Tryd.func46, Tryd.ntmps46
  go_wp2_with fail
  go_loopw [13] (fun i wr => ∃ (k m : Nat), k ≤ n ∧ i = .int .i64 k ∧ wr = w.drewN m) (fun i _ => n - (intOf i).toNat)
  case atStart => exact ⟨0, 0, Nat.zero_le _, rfl, rfl⟩
  case round =>
    obtain ⟨i, m, hi, rfl, rfl⟩ := hrel
    by_cases hin : i < n
    · obtain ⟨⟨x, y⟩, hx⟩ : ∃ x, l[i]? = some x := ⟨_, List.getElem?_eq_getElem (by rw [← HN.out]; exact hin)⟩
      obtain ⟨b1, o1, e1, g0, g1⟩ := H1.out i _ hx
      obtain ⟨b2, o2, e2, g3, g4⟩ := H2.out i _ hx
      subst e1 e2
      simp only at g0 g1 g3 g4
      have hii : (0 : Int) ≤ (i : Int) ∧ (i : Int) < (n : Int) := by omega
      clear hx H1 H2
      go_wp2_with fail
      go_quiet (fail)
      go_wp2_with fail
      go_roundw
      case rel => exact ⟨i + 1, _, by omega, by go_num, rfl⟩
      case measure => simp [intOf]; omega
    · obtain rfl : i = n := by omega
      have hnn : ¬ (i : Int) < (i : Int) := by omega
      go_wp2_with fail
      go_ret
      exact ⟨rfl, _, rfl⟩
theorem below_drewK {B : Nat} {a w : World} (h : Below B a w) (n : Nat) : Below B a (w.drewN n) := ⟨h.os, h.tape, h.output, h.size, h.block⟩

/-- Whether a program is too big to be held. -/
def bigB (p : Pg) : Bool := decide (14 < p.fns.length) || p.fns.any fun f => decide (14 < f.locals.length) || decide (120 < f.code.length)
theorem big_no {p : Pg} (h : bigB p = false) : p.fns.length ≤ 14 ∧ ∀ f ∈ p.fns, f.locals.length ≤ 14 ∧ f.code.length ≤ 120 := by
  unfold bigB at h
  rw [Bool.or_eq_false_iff] at h
  refine ⟨by simpa using h.1, fun f hf => ?_⟩
  have h2 := h.2
  rw [List.any_eq_false] at h2
  have := h2 f hf
  simp at this
  exact this
theorem big_at {p : Pg} {k : Nat} {f : FnV} (hf : p.fns[k]? = some f) (h : 14 < f.locals.length ∨ 120 < f.code.length) : bigB p = true := by
  unfold bigB
  rw [Bool.or_eq_true, List.any_eq_true]
  exact Or.inr ⟨f, List.mem_of_getElem? hf, by simpa using h⟩
theorem big_all {p : Pg} (h0 : p.fns.length ≤ 14) (h : ∀ (k : Nat) f, p.fns[k]? = some f → ¬ (14 < f.locals.length ∨ 120 < f.code.length)) : bigB p = false := by
  unfold bigB
  rw [Bool.or_eq_false_iff, List.any_eq_false]
  refine ⟨by simpa using h0, fun f hf => ?_⟩
  obtain ⟨k, hk, rfl⟩ := List.mem_iff_getElem.1 hf
  have := h k _ (List.getElem?_eq_getElem hk)
  simp
  omega

set_option maxRecDepth 100000 in
set_option maxHeartbeats 3200000 in
theorem big_any (p : Pg) (v : Value) (w : World) (hp : ProgAt w v p) :
    Calls Tryd.prog 16 #[v] w fun e w' => e = .returned (.bool (bigB p)) ∧ Below w.heap.size w w' := by
  obtain ⟨vf, rfl, ao, n, cap, rfl, hn, hnc, hcm, hx⟩ := hp
  unfold maxLen at hcm
  have hb0 := (Below.refl w.heap.size w).alloc (Nat.le_refl _) (.cells #[.int .i64 p.globals, .slice ao n cap] 24)
  have HB0 := Lib.hid hb0
  have HN := Lib.hid hn
  have HX : Hid (0 < n → ∃ b o, ao = some ⟨b, o, none⟩ ∧ ∀ i f, p.fns[i]? = some f → FnAt (w.alloc (.cells #[.int .i64 p.globals, .slice ao n cap] 24)) b (o + i * 4) f) := Lib.hid fun h0 => by
    obtain ⟨b, o, h1, h2, h3⟩ := hx h0
    exact ⟨b, o, h1, fun i f hi => (h3 i f hi).below hb0⟩
  obtain ⟨gl, hgl⟩ : ∃ gl, gl = p.globals := ⟨_, rfl⟩
  rw [← hgl] at HX HB0 ⊢
  have hx1 := cell_of_row (w.alloc (.cells #[.int .i64 gl, .slice ao n cap] 24)) w.heap.size 1 _ _ _ (heap_alloc_new _ _)
  clear hb0 hx hn hgl
  go_enter Tryd.func16, Tryd.ntmps16
  by_cases h14 : 14 < n
  · have h14i : (14 : Int) < (n : Int) := by omega
    have HBT : Hid (bigB p = true) := Lib.hid (by unfold bigB; rw [← HN.out, decide_eq_true h14]; rfl)
    go_wp2_with fail
    go_ret
    exact ⟨by rw [HBT.out]; rfl, HB0.out⟩
  have h14i : ¬ (14 : Int) < (n : Int) := by omega
  go_upto_region 1 with fail
  generalize w.alloc (.cells #[.int .i64 gl, .slice ao n cap] 24) = W1 at *
  have hx1' : W1.cell? ⟨w.heap.size, 1, none⟩ = some (.slice ao n cap) := hx1
  clear hx1
  go_wp2_with fail
  go_loopw [3] (fun iv wr => ∃ k : Nat, k ≤ n ∧ iv = .int .i64 k ∧ Hid (∀ (j : Nat) f, j < k → p.fns[j]? = some f → ¬ (14 < f.locals.length ∨ 120 < f.code.length)) ∧ wr = W1) (fun iv _ => n - (intOf iv).toNat)
  case atStart => exact ⟨0, Nat.zero_le _, rfl, Lib.hid (fun _ _ h => absurd h (Nat.not_lt_zero _)), rfl⟩
  case round =>
    obtain ⟨k, hk, rfl, hall, hwr⟩ := hrel
    subst hwr
    by_cases hkn : k < n
    · obtain ⟨b, o, rfl, hfn⟩ := HX.out (by omega)
      obtain ⟨f, hf⟩ : ∃ f, p.fns[k]? = some f := ⟨_, List.getElem?_eq_getElem (by rw [← HN.out]; exact hkn)⟩
      obtain ⟨hc1, ⟨vl, hc2, a1, n1, c1, rfl, hn1, hnc1, hcm1, -⟩, hc3, vc, hc4, a2, n2, c2, rfl, hn2, hnc2, hcm2, -⟩ := hfn k f hf
      have HF := Lib.hid hf
      have HNN : Hid (n1 = f.locals.length ∧ n2 = f.code.length) := Lib.hid ⟨hn1, hn2⟩
      have hi1 : (0 : Int) ≤ (k : Int) ∧ (k : Int) < (n : Int) := by omega
      unfold maxLen at hcm1 hcm2
      clear hfn hf hn1 hn2 hc1 hc3 HX
      by_cases g1 : 14 < n1
      · have g1i : (14 : Int) < (n1 : Int) := by omega
        have HBT : Hid (bigB p = true) := Lib.hid (big_at HF.out (Or.inl (by rw [← HNN.out.1]; exact g1)))
        go_wp2_with fail
        go_ret
        exact ⟨by rw [HBT.out]; rfl, HB0.out⟩
      · have g1i : ¬ (14 : Int) < (n1 : Int) := by omega
        by_cases g2 : 120 < n2
        · have g2i : (120 : Int) < (n2 : Int) := by omega
          have HBT : Hid (bigB p = true) := Lib.hid (big_at HF.out (Or.inr (by rw [← HNN.out.2]; exact g2)))
          go_wp2_with fail
          go_ret
          exact ⟨by rw [HBT.out]; rfl, HB0.out⟩
        · have g2i : ¬ (120 : Int) < (n2 : Int) := by omega
          have HK : Hid (∀ (j : Nat) f, j < k + 1 → p.fns[j]? = some f → ¬ (14 < f.locals.length ∨ 120 < f.code.length)) := Lib.hid fun j f' hj hf' => by
            by_cases e : j = k
            · subst e
              rw [HF.out] at hf'
              cases hf'
              rw [← HNN.out.1, ← HNN.out.2]
              omega
            · exact hall.out j f' (by omega) hf'
          clear hall
          go_wp2_with fail
          go_roundw
          case rel => exact ⟨k + 1, by omega, by go_num, HK, trivial⟩
          case measure => simp [intOf]; omega
    · obtain rfl : k = n := by omega
      have HBF : Hid (bigB p = false) := Lib.hid (big_all (by rw [← HN.out]; omega) fun j f hf => hall.out j f (by have := (List.getElem?_eq_some_iff.1 hf).1; rw [HN.out]; exact this) hf)
      have hkk : ¬ (k : Int) < (k : Int) := by omega
      clear hall HX
      go_wp2_with fail
      go_ret
      exact ⟨by rw [HBF.out]; rfl, HB0.out⟩
end Go.Proofs.YtkeglkneobngnaaDoor

namespace Go.Proofs.YtkeglkneobngnaaDoor
open Go.RowKit Cd

/-- Two functions in blocks of their own. -/
def TwoF (w wx : World) (v6 v7 pa vl1 ki vc1 vl2 vc2 : Value) : Prop :=
  ∃ b1 b2, v6 = .pointer (some ⟨b1, 0, none⟩) ∧ v7 = .pointer (some ⟨b2, 0, none⟩) ∧ wx.cell? ⟨b1, 0, none⟩ = some pa ∧ wx.cell? ⟨b1, 1, none⟩ = some vl1 ∧ wx.cell? ⟨b1, 2, none⟩ = some ki ∧ wx.cell? ⟨b1, 3, none⟩ = some vc1 ∧
    wx.cell? ⟨b2, 0, none⟩ = some pa ∧ wx.cell? ⟨b2, 1, none⟩ = some vl2 ∧ wx.cell? ⟨b2, 2, none⟩ = some ki ∧ wx.cell? ⟨b2, 3, none⟩ = some vc2 ∧ Below w.heap.size w wx

theorem two_cells (wr : World) (X Y : Array Value) (t : TypeId) :
    (∀ (j : Nat) u, X[j]? = some u → ((wr.alloc (.cells X t)).alloc (.cells Y t)).drew.cell? ⟨wr.heap.size, j, none⟩ = some u) ∧ (∀ (j : Nat) u, Y[j]? = some u → ((wr.alloc (.cells X t)).alloc (.cells Y t)).drew.cell? ⟨wr.heap.size + 1, j, none⟩ = some u) ∧
    Below wr.heap.size wr ((wr.alloc (.cells X t)).alloc (.cells Y t)).drew := by
  refine ⟨fun j u hj => ?_, fun j u hj => ?_, (((Below.refl wr.heap.size wr).alloc (Nat.le_refl _) _).alloc (by simp) _).drew⟩
  · have h1 := cell_of_row (wr.alloc (.cells X t)) wr.heap.size j _ _ _ (heap_alloc_new _ _)
    exact ((Keeps.refl (fun _ : Nat => False) _).alloc _).drew.cell_of (h1.trans hj) id
  · have h1 := cell_of_row ((wr.alloc (.cells X t)).alloc (.cells Y t)) (wr.alloc (.cells X t)).heap.size j _ _ _ (heap_alloc_new _ _)
    rw [show (wr.alloc (.cells X t)).heap.size = wr.heap.size + 1 by simp] at h1
    exact h1.trans hj

set_option maxRecDepth 100000 in
set_option maxHeartbeats 6400000 in
theorem sameP_any (p : Pg) (v u : Value) (w : World) (hp : ProgAt w v p) (hu : ProgAt w u p) :
    Calls Tryd.prog 18 #[v, u] w fun e w' => e = .returned (.bool true) ∧ Below w.heap.size w w' := by
  obtain ⟨vf, rfl, ao, n, cap, rfl, hn, hnc, hcm, hx⟩ := hp
  obtain ⟨uf, rfl, ao2, n2, cap2, rfl, hn2, hnc2, hcm2, hx2⟩ := hu
  obtain rfl : n2 = n := by omega
  unfold maxLen at hcm hcm2
  have hb0 := ((Below.refl w.heap.size w).alloc (Nat.le_refl _) (.cells #[.int .i64 p.globals, .slice ao n2 cap] 24)).alloc (by simp) (.cells #[.int .i64 p.globals, .slice ao2 n2 cap2] 24)
  have HB0 := Lib.hid hb0
  have HN := Lib.hid hn
  have HX : Hid (∀ W, Below w.heap.size w W → 0 < n2 → ∃ b o, ao = some ⟨b, o, none⟩ ∧ b < w.heap.size ∧ ∀ i f, p.fns[i]? = some f → FnAt W b (o + i * 4) f) := Lib.hid fun W hW h0 => by
    obtain ⟨b, o, h1, h2, h3⟩ := hx h0
    exact ⟨b, o, h1, h2, fun i f hi => (h3 i f hi).below hW⟩
  have HX2 : Hid (∀ W, Below w.heap.size w W → 0 < n2 → ∃ b o, ao2 = some ⟨b, o, none⟩ ∧ b < w.heap.size ∧ ∀ i f, p.fns[i]? = some f → FnAt W b (o + i * 4) f) := Lib.hid fun W hW h0 => by
    obtain ⟨b, o, h1, h2, h3⟩ := hx2 h0
    exact ⟨b, o, h1, h2, fun i f hi => (h3 i f hi).below hW⟩
  obtain ⟨gl, hgl⟩ : ∃ gl, gl = p.globals := ⟨_, rfl⟩
  rw [← hgl] at HB0 ⊢
  have hc0 : ∀ j u, #[Value.int .i64 gl, .slice ao n2 cap][j]? = some u → ((w.alloc (.cells #[.int .i64 gl, .slice ao n2 cap] 24)).alloc (.cells #[.int .i64 gl, .slice ao2 n2 cap2] 24)).cell? ⟨w.heap.size, j, none⟩ = some u := fun j u hj => by
    have h1 := cell_of_row (w.alloc (.cells #[.int .i64 gl, .slice ao n2 cap] 24)) w.heap.size j _ _ _ (heap_alloc_new _ _)
    exact ((Keeps.refl (fun _ : Nat => False) _).alloc _).cell_of (h1.trans hj) id
  have hd0 : ∀ j u, #[Value.int .i64 gl, .slice ao2 n2 cap2][j]? = some u → ((w.alloc (.cells #[.int .i64 gl, .slice ao n2 cap] 24)).alloc (.cells #[.int .i64 gl, .slice ao2 n2 cap2] 24)).cell? ⟨w.heap.size + 1, j, none⟩ = some u := fun j u hj => by
    have h1 := cell_of_row ((w.alloc (.cells #[.int .i64 gl, .slice ao n2 cap] 24)).alloc (.cells #[.int .i64 gl, .slice ao2 n2 cap2] 24)) (w.alloc (.cells #[.int .i64 gl, .slice ao n2 cap] 24)).heap.size j _ _ _ (heap_alloc_new _ _)
    rw [show (w.alloc (.cells #[.int .i64 gl, .slice ao n2 cap] 24)).heap.size = w.heap.size + 1 by simp] at h1
    exact h1.trans hj
  have hsz1 : w.heap.size + 1 < ((w.alloc (.cells #[.int .i64 gl, .slice ao n2 cap] 24)).alloc (.cells #[.int .i64 gl, .slice ao2 n2 cap2] 24)).heap.size := by simp
  clear hb0 hx hx2 hn hn2 hgl
  go_enter Tryd.func18, Tryd.ntmps18
  go_upto_region 1 with fail
  generalize (w.alloc (.cells #[.int .i64 gl, .slice ao n2 cap] 24)).alloc (.cells #[.int .i64 gl, .slice ao2 n2 cap2] 24) = W1 at *
  have HC : Hid (∀ V, Below W1.heap.size W1 V → V.cell? ⟨w.heap.size, 0, none⟩ = some (.int .i64 gl) ∧ V.cell? ⟨w.heap.size, 1, none⟩ = some (.slice ao n2 cap) ∧ V.cell? ⟨w.heap.size + 1, 0, none⟩ = some (.int .i64 gl) ∧ V.cell? ⟨w.heap.size + 1, 1, none⟩ = some (.slice ao2 n2 cap2)) := Lib.hid fun V hV =>
    have hk := Keeps.of_new (S := fun _ => False) hV
    ⟨hk.cell_of (hc0 0 _ rfl) id, hk.cell_of (hc0 1 _ rfl) id, hk.cell_of (hd0 0 _ rfl) id, hk.cell_of (hd0 1 _ rfl) id⟩
  clear hc0 hd0
  obtain ⟨e0, e1, d0, d1⟩ := HC.out _ (Below.refl _ _)
  go_wp2_with fail
  go_loopw [5] (fun iv wr => ∃ k : Nat, k ≤ n2 ∧ iv = .int .i64 k ∧ Below W1.heap.size W1 wr) (fun iv _ => n2 - (intOf iv).toNat)
  case atStart => exact ⟨0, Nat.zero_le _, rfl, Below.refl _ _⟩
  case round =>
    obtain ⟨k, hk, rfl, hbel⟩ := hrel
    rename World => wr
    clear e0 e1 d0 d1
    have HB := Lib.hid hbel
    obtain ⟨e0, e1, d0, d1⟩ := HC.out _ hbel
    by_cases hkn : k < n2
    · obtain ⟨b, o, rfl, hbl, hfn⟩ := HX.out wr (HB0.out.trans (hbel.mono HB0.out.size)) (by omega)
      obtain ⟨b2, o2, rfl, hbl2, hfn2⟩ := HX2.out wr (HB0.out.trans (hbel.mono HB0.out.size)) (by omega)
      obtain ⟨f, hf⟩ : ∃ f, p.fns[k]? = some f := ⟨_, List.getElem?_eq_getElem (by rw [← HN.out]; exact hkn)⟩
      obtain ⟨x0, ⟨vl1, x1, hl1⟩, x2, vc1, x3, hv1⟩ := hfn k f hf
      obtain ⟨y0, ⟨vl2, y1, hl2⟩, y2, vc2, y3, hv2⟩ := hfn2 k f hf
      have HL1 := Lib.hid hl1
      have HL2 := Lib.hid hl2
      have HV1 := Lib.hid hv1
      have HV2 := Lib.hid hv2
      obtain ⟨a1, n1, c1, rfl, -⟩ := hl1
      obtain ⟨a3, n3, c3, rfl, -⟩ := hl2
      obtain ⟨a2, n9, c2, rfl, -⟩ := hv1
      obtain ⟨a4, n4, c4, rfl, -⟩ := hv2
      obtain ⟨pa, hpa⟩ : ∃ pa, pa = f.params := ⟨_, rfl⟩
      obtain ⟨ki, hki⟩ : ∃ ki, ki = f.kind := ⟨_, rfl⟩
      rw [← hpa] at x0 y0
      rw [← hki] at x2 y2
      have hi1 : (0 : Int) ≤ (k : Int) ∧ (k : Int) < (n2 : Int) := by omega
      have hi2 : (k : Int) < (n2 : Int) := by omega
      clear hfn hfn2 HX HX2 hpa hki
      go_upto_region 6 with fail
      go_cut [6, 7] from 29 to 38 (fun v6 v7 wx => TwoF wr wx v6 v7 (.int .i64 pa) (.slice a1 n1 c1) (.int .i64 ki) (.slice a2 n9 c2) (.slice a3 n3 c3) (.slice a4 n4 c4))
      case first =>
        have hb1r : b < wr.heap.size := Nat.lt_of_lt_of_le hbl (Nat.le_trans HB0.out.size HB.out.size)
        have hb2r : b2 < wr.heap.size := Nat.lt_of_lt_of_le hbl2 (Nat.le_trans HB0.out.size HB.out.size)
        have hws1 : w.heap.size + 1 < wr.heap.size := Nat.lt_of_lt_of_le hsz1 HB.out.size
        have hws0 : w.heap.size < wr.heap.size := by omega
        go_region
        all_goals go_wp2_with fail
        all_goals go_meet
        · obtain ⟨q1, q2, q3⟩ := two_cells wr #[.int .i64 pa, .slice a1 n1 c1, .int .i64 ki, .slice a2 n9 c2] #[.int .i64 pa, .slice a3 n3 c3, .int .i64 ki, .slice a4 n4 c4] 44
          exact ⟨_, _, rfl, rfl, q1 0 _ rfl, q1 1 _ rfl, q1 2 _ rfl, q1 3 _ rfl, q2 0 _ rfl, q2 1 _ rfl, q2 2 _ rfl, q2 3 _ rfl, q3⟩
        · obtain ⟨q1, q2, q3⟩ := two_cells wr #[.int .i64 pa, .slice a3 n3 c3, .int .i64 ki, .slice a4 n4 c4] #[.int .i64 pa, .slice a1 n1 c1, .int .i64 ki, .slice a2 n9 c2] 44
          exact ⟨_, _, rfl, rfl, q2 0 _ rfl, q2 1 _ rfl, q2 2 _ rfl, q2 3 _ rfl, q1 0 _ rfl, q1 1 _ rfl, q1 2 _ rfl, q1 3 _ rfl, q3⟩
      case rest =>
        rename World => wx
        obtain ⟨b7, b8, rfl, rfl, p0, p1, p2, p3, r0, r1, r2, r3, hbx⟩ := hcut
        have HBX := Lib.hid (HB.out.trans (hbx.mono HB.out.size))
        have HE1 := Lib.hid (equalI_any _ _ f.locals wx (HL1.out.below hbx) (HL2.out.below hbx))
        have HV1x := Lib.hid (HV1.out.below hbx)
        have HV2x := Lib.hid (HV2.out.below hbx)
        clear hbx e0 e1 d0 d1 x0 x1 x2 x3 y0 y1 y2 y3 hbel hf
        go_wp2_with fail
        refine HE1.out.mono ?_
        rintro e w5 ⟨rfl, m5, rfl⟩
        have HE2 := Lib.hid (equalN_any _ _ f.code (wx.drewN m5) (HV1x.out.below (below_drewK (Below.refl _ _) _)) (HV2x.out.below (below_drewK (Below.refl _ _) _)))
        go_wp2_with fail
        refine HE2.out.mono ?_
        rintro e w6 ⟨rfl, m6, rfl⟩
        go_wp2_with fail
        go_roundw
        case rel => exact ⟨k + 1, by omega, by go_num, below_drewK HBX.out _⟩
        case measure => simp [intOf]; omega
    · obtain rfl : k = n2 := by omega
      have hkk : ¬ (k : Int) < (k : Int) := by omega
      clear HX HX2
      go_wp2_with fail
      go_ret
      exact ⟨rfl, HB0.out.trans (HB.out.mono HB0.out.size)⟩
end Go.Proofs.YtkeglkneobngnaaDoor

namespace Go.Proofs.YtkeglkneobngnaaDoor
open Go.RowKit Cd

def tinyI : List In := [(1, -7), (5, 0), (4, 0), (21, 0), (14, 0)]
def tinyF : FnV := ⟨0, [1], 0, tinyI⟩
def tinyP : Pg := ⟨1, [tinyF]⟩
theorem tiny_right : progE tinyP = 0 := by decide
theorem tiny_short : ∀ f ∈ tinyP.fns, f.code.length ≤ 120 := by
  intro f hf
  obtain rfl : f = tinyF := by simpa [tinyP] using hf
  decide

theorem four_cells (w : World) (X0 X1 X2 X3 : Array Value) (t0 t1 t2 t3 : TypeId) :
    (∀ (j : Nat) u, X0[j]? = some u → ((((w.alloc (.cells X0 t0)).alloc (.cells X1 t1)).alloc (.cells X2 t2)).alloc (.cells X3 t3)).cell? ⟨w.heap.size, j, none⟩ = some u) ∧
    (∀ (j : Nat) u, X1[j]? = some u → ((((w.alloc (.cells X0 t0)).alloc (.cells X1 t1)).alloc (.cells X2 t2)).alloc (.cells X3 t3)).cell? ⟨w.heap.size + 1, j, none⟩ = some u) ∧
    (∀ (j : Nat) u, X2[j]? = some u → ((((w.alloc (.cells X0 t0)).alloc (.cells X1 t1)).alloc (.cells X2 t2)).alloc (.cells X3 t3)).cell? ⟨w.heap.size + 1 + 1, j, none⟩ = some u) ∧
    (∀ (j : Nat) u, X3[j]? = some u → ((((w.alloc (.cells X0 t0)).alloc (.cells X1 t1)).alloc (.cells X2 t2)).alloc (.cells X3 t3)).cell? ⟨w.heap.size + 1 + 1 + 1, j, none⟩ = some u) := by
  refine ⟨fun j u hj => ?_, fun j u hj => ?_, fun j u hj => ?_, fun j u hj => ?_⟩
  · have h1 := cell_of_row (w.alloc (.cells X0 t0)) w.heap.size j _ _ _ (heap_alloc_new _ _)
    exact ((((Keeps.refl (fun _ : Nat => False) _).alloc _).alloc _).alloc _).cell_of (h1.trans hj) id
  · have h1 := cell_of_row ((w.alloc (.cells X0 t0)).alloc (.cells X1 t1)) (w.alloc (.cells X0 t0)).heap.size j _ _ _ (heap_alloc_new _ _)
    rw [show (w.alloc (.cells X0 t0)).heap.size = w.heap.size + 1 by simp] at h1
    exact (((Keeps.refl (fun _ : Nat => False) _).alloc _).alloc _).cell_of (h1.trans hj) id
  · have h1 := cell_of_row (((w.alloc (.cells X0 t0)).alloc (.cells X1 t1)).alloc (.cells X2 t2)) ((w.alloc (.cells X0 t0)).alloc (.cells X1 t1)).heap.size j _ _ _ (heap_alloc_new _ _)
    rw [show ((w.alloc (.cells X0 t0)).alloc (.cells X1 t1)).heap.size = w.heap.size + 1 + 1 by simp] at h1
    exact ((Keeps.refl (fun _ : Nat => False) _).alloc _).cell_of (h1.trans hj) id
  · have h1 := cell_of_row ((((w.alloc (.cells X0 t0)).alloc (.cells X1 t1)).alloc (.cells X2 t2)).alloc (.cells X3 t3)) (((w.alloc (.cells X0 t0)).alloc (.cells X1 t1)).alloc (.cells X2 t2)).heap.size j _ _ _ (heap_alloc_new _ _)
    rw [show (((w.alloc (.cells X0 t0)).alloc (.cells X1 t1)).alloc (.cells X2 t2)).heap.size = w.heap.size + 1 + 1 + 1 by simp] at h1
    exact h1.trans hj
theorem tiny_at {W : World} {s : Nat} (hs : s + 1 + 1 + 1 < W.heap.size)
    (h1 : ∀ (j : Nat) u, #[Value.int .i64 1][j]? = some u → W.cell? ⟨s + 1, j, none⟩ = some u)
    (h2 : ∀ (j : Nat) u, #[Value.int .i64 1, .int .i64 (-7), .int .i64 5, .int .i64 0, .int .i64 4, .int .i64 0, .int .i64 21, .int .i64 0, .int .i64 14, .int .i64 0][j]? = some u → W.cell? ⟨s + 1 + 1, j, none⟩ = some u)
    (h3 : ∀ (j : Nat) u, #[Value.int .i64 0, .slice (some ⟨s + 1, 0, none⟩) 1 1, .int .i64 0, .slice (some ⟨s + 1 + 1, 0, none⟩) 5 5][j]? = some u → W.cell? ⟨s + 1 + 1 + 1, j, none⟩ = some u) :
    ProgAt W (.agg #[.int .i64 1, .slice (some ⟨s + 1 + 1 + 1, 0, none⟩) 1 1]) tinyP := by
  refine ⟨_, rfl, _, 1, 1, rfl, rfl, Nat.le_refl _, by decide, fun _ => ⟨s + 1 + 1 + 1, 0, rfl, hs, fun i f hi => ?_⟩⟩
  match i, hi with
  | 0, hi =>
    cases hi
    refine ⟨h3 0 _ rfl, ⟨_, h3 1 _ rfl, _, 1, 1, rfl, rfl, Nat.le_refl _, by decide, fun _ => ⟨s + 1, 0, rfl, by omega, fun i hi => ?_⟩⟩, h3 2 _ rfl, _, h3 3 _ rfl, _, 5, 5, rfl, rfl, Nat.le_refl _, by decide, fun _ => ⟨s + 1 + 1, 0, rfl, by omega, fun i x hi => ?_⟩⟩
    · match i, hi with
      | 0, _ => exact h1 0 _ rfl
    · match i, hi with
      | 0, hi => cases hi; exact ⟨h2 0 _ rfl, h2 1 _ rfl⟩
      | 1, hi => cases hi; exact ⟨h2 2 _ rfl, h2 3 _ rfl⟩
      | 2, hi => cases hi; exact ⟨h2 4 _ rfl, h2 5 _ rfl⟩
      | 3, hi => cases hi; exact ⟨h2 6 _ rfl, h2 7 _ rfl⟩
      | 4, hi => cases hi; exact ⟨h2 8 _ rfl, h2 9 _ rfl⟩

set_option maxRecDepth 100000 in
set_option maxHeartbeats 1600000 in
theorem tiny_any (w : World) : Calls Tryd.prog 40 #[] w fun e w' => ∃ v, e = .returned (.agg #[.int .i64 1, v]) ∧ ProgAt w' (.agg #[.int .i64 1, v]) tinyP ∧ Below w.heap.size w w' := by
  obtain ⟨c0, c1, c2, c3⟩ := four_cells w #[.int .i64 1, .slice (some ⟨w.heap.size + 1 + 1 + 1, 0, none⟩) 1 1] #[.int .i64 1] #[.int .i64 1, .int .i64 (-7), .int .i64 5, .int .i64 0, .int .i64 4, .int .i64 0, .int .i64 21, .int .i64 0, .int .i64 14, .int .i64 0]
    #[.int .i64 0, .slice (some ⟨w.heap.size + 1, 0, none⟩) 1 1, .int .i64 0, .slice (some ⟨w.heap.size + 1 + 1, 0, none⟩) 5 5] 24 3 52 44
  have q0 := c0 0 _ rfl
  have q1 := c0 1 _ rfl
  have HP := Lib.hid (tiny_at (by simp) c1 c2 c3)
  have hb := ((((Below.refl w.heap.size w).alloc (Nat.le_refl _) (.cells #[.int .i64 1, .slice (some ⟨w.heap.size + 1 + 1 + 1, 0, none⟩) 1 1] 24)).alloc (by simp) (.cells #[.int .i64 1] 3)).alloc (by simp; omega) (.cells #[.int .i64 1, .int .i64 (-7), .int .i64 5, .int .i64 0, .int .i64 4, .int .i64 0, .int .i64 21, .int .i64 0, .int .i64 14, .int .i64 0] 52)).alloc (by simp; omega) (.cells #[.int .i64 0, .slice (some ⟨w.heap.size + 1, 0, none⟩) 1 1, .int .i64 0, .slice (some ⟨w.heap.size + 1 + 1, 0, none⟩) 5 5] 44)
  have HB := Lib.hid hb
  clear c0 c1 c2 c3 hb
  go_enter Tryd.func40, Tryd.ntmps40
  go_wp2_with fail
  refine bodyPost_ret (v := .agg #[.int .i64 1, .slice (some ⟨w.heap.size + 1 + 1 + 1, 0, none⟩) 1 1]) (by simp [results, Tryd.results40, go_sem] <;> rfl) rfl ?_
  exact ⟨_, rfl, HP.out, HB.out⟩
end Go.Proofs.YtkeglkneobngnaaDoor

namespace Go.Proofs.YtkeglkneobngnaaDoor
open Go.RowKit Cd As

/-- Read, at whatever text. -/
theorem asmRead_any (s : ByteArray) (w : World) (hE : RdEnv w) :
    Calls Tryd.prog 17 #[.string s] w fun e w' => AnsAt w' e (readA s.data.toList) ∧ Below w.heap.size w w' := by
  by_cases h : s.size ≤ 60000
  · exact read_short s w h hE
  · exact read_long s w (by omega)
theorem bel_nxt {w a b : World} (h : Below w.heap.size w a) (k : Below a.heap.size a b) : Below w.heap.size w b := h.trans (k.mono h.size)
theorem agg2_snd' {a b c d : Value} (h : Value.agg #[a, b] = .agg #[c, d]) : b = d := by
  injection h with h
  injection h with h
  injection h with _ h
  injection h
theorem tiny_text : asmT tinyP = [103, 108, 111, 98, 97, 108, 115, 32, 49, 10, 102, 110, 32, 110, 111, 110, 101, 32, 48, 32, 105, 110, 116, 10, 32, 32, 112, 117, 115, 104, 32, 45, 55, 10, 32, 32, 115, 101, 116, 32, 48, 10, 32, 32, 103, 101, 116, 32, 48, 10, 32, 32, 112, 114, 105, 110, 116, 10, 32, 32, 114, 101, 116, 10] := by
  have d1 : ∀ k : Nat, k < 10 → Lib.decDigits k = [UInt8.ofNat (48 + k)] := fun k hk => by rw [Lib.decDigits, dif_pos hk]
  have i1 : Lib.itoa 1 = [49] := by show (if _ then _ else _) = _; rw [if_neg (by decide)]; exact d1 1 (by decide)
  have i0 : Lib.itoa 0 = [48] := by show (if _ then _ else _) = _; rw [if_neg (by decide)]; exact d1 0 (by decide)
  have i7 : Lib.itoa (-7) = [45, 55] := by show (if _ then _ else _) = _; rw [if_pos (by decide)]; show 45 :: Lib.decDigits 7 = _; rw [d1 7 (by decide)]; rfl
  simp [asmT, globL, fnT, As.headL, insT, As.insL, argB, tinyP, tinyF, tinyI, spaced, i0, i1, i7, nameB, kindW, namesB, kindsB, globB, fnB, hasN, leastI, mostI, manyB]
theorem tiny_read : readA (asmT tinyP) = .ok tinyP := read_back ((progE_iff _).1 tiny_right) (small_len ((progE_iff _).1 tiny_right) tiny_short)

set_option maxRecDepth 100000 in
set_option maxHeartbeats 6400000 in
theorem spelt_any (w : World) (hE : RdEnv w) : Calls Tryd.prog 15 #[] w fun e w' => e = .returned (.bool true) ∧ Below w.heap.size w w' := by
  have HE := Lib.hid hE
  have HET : Hid (errV (progE tinyP) = .nilIface) := Lib.hid (by rw [tiny_right]; rfl)
  have HW : Hid (wrT tinyP = ⟨#[103, 108, 111, 98, 97, 108, 115, 32, 49, 10, 102, 110, 32, 110, 111, 110, 101, 32, 48, 32, 105, 110, 116, 10, 32, 32, 112, 117, 115, 104, 32, 45, 55, 10, 32, 32, 115, 101, 116, 32, 48, 10, 32, 32, 103, 101, 116, 32, 48, 10, 32, 32, 112, 114, 105, 110, 116, 10, 32, 32, 114, 101, 116, 10]⟩) := Lib.hid (by
    rw [wrT_ok tiny_right, tiny_text]
    rfl)
  clear hE
  go_enter Tryd.func15, Tryd.ntmps15
  go_wp2_with fail
  refine (tiny_any w).mono ?_
  rintro e w1 ⟨v1, rfl, hp1, hb1⟩
  have HB1 := Lib.hid hb1
  have HEN := Lib.hid (write_any tinyP _ w1 hp1 (fun h => Nat.le_trans (small_len ((progE_iff _).1 h) tiny_short) (by decide)) (HE.out.below hb1).tabs (HE.out.below hb1).pow)
  rw [HET.out, HW.out] at HEN
  clear hp1 hb1
  go_wp2_with fail
  refine HEN.out.mono ?_
  rintro e w2 ⟨rfl, hb2⟩
  have HB2 := Lib.hid (HB1.out.trans (hb2.mono HB1.out.size))
  have HD := Lib.hid (asmRead_any ⟨#[103, 108, 111, 98, 97, 108, 115, 32, 49, 10, 102, 110, 32, 110, 111, 110, 101, 32, 48, 32, 105, 110, 116, 10, 32, 32, 112, 117, 115, 104, 32, 45, 55, 10, 32, 32, 115, 101, 116, 32, 48, 10, 32, 32, 103, 101, 116, 32, 48, 10, 32, 32, 112, 114, 105, 110, 116, 10, 32, 32, 114, 101, 116, 10]⟩ w2 (HE.out.below HB2.out))
  have HRB : Hid (readA (⟨#[103, 108, 111, 98, 97, 108, 115, 32, 49, 10, 102, 110, 32, 110, 111, 110, 101, 32, 48, 32, 105, 110, 116, 10, 32, 32, 112, 117, 115, 104, 32, 45, 55, 10, 32, 32, 115, 101, 116, 32, 48, 10, 32, 32, 103, 101, 116, 32, 48, 10, 32, 32, 112, 114, 105, 110, 116, 10, 32, 32, 114, 101, 116, 10]⟩ : ByteArray).data.toList = .ok tinyP) := Lib.hid (by rw [← tiny_read, tiny_text])
  rw [HRB.out] at HD
  clear hb2 HEN
  go_wp2_with fail
  refine HD.out.mono ?_
  rintro e w3 ⟨⟨v3, rfl, hp3⟩, hb3⟩
  have HB3 := Lib.hid (HB2.out.trans (hb3.mono HB2.out.size))
  have HP3 := Lib.hid hp3
  obtain ⟨vf, rfl, a9, n9, c9, rfl, -⟩ := hp3
  obtain ⟨g, hg⟩ : ∃ g, g = tinyP.globals := ⟨_, rfl⟩
  rw [← hg] at HP3 ⊢
  clear hg
  go_upto_region 3 with fail
  have hal := (Below.refl w3.heap.size w3).alloc (Nat.le_refl _) (.cells #[.int .i64 g, .slice a9 n9 c9] 24)
  have HAL := Lib.hid hal
  have hz0 := cell_of_row (w3.alloc (.cells #[.int .i64 g, .slice a9 n9 c9] 24)) w3.heap.size 0 _ _ _ (heap_alloc_new _ _)
  have hz1 := cell_of_row (w3.alloc (.cells #[.int .i64 g, .slice a9 n9 c9] 24)) w3.heap.size 1 _ _ _ (heap_alloc_new _ _)
  have hszz : w3.heap.size < (w3.alloc (.cells #[.int .i64 g, .slice a9 n9 c9] 24)).heap.size := by simp
  generalize w3.alloc (.cells #[.int .i64 g, .slice a9 n9 c9] 24) = w4 at *
  have HC : Hid (∀ V, Below w4.heap.size w4 V → V.cell? ⟨w3.heap.size, 0, none⟩ = some (.int .i64 g) ∧ V.cell? ⟨w3.heap.size, 1, none⟩ = some (.slice a9 n9 c9)) := Lib.hid fun V hV =>
    ⟨(Keeps.of_new (S := fun _ => False) hV).cell_of hz0 id, (Keeps.of_new (S := fun _ => False) hV).cell_of hz1 id⟩
  have HTY : Hid (∀ V, Below w4.heap.size w4 V → Calls Tryd.prog 40 #[] V fun e w' => ∃ v, e = .returned (.agg #[.int .i64 1, v]) ∧ ProgAt w' (.agg #[.int .i64 1, v]) tinyP ∧ Below w4.heap.size w4 w') := Lib.hid fun V hV => (tiny_any V).mono fun _ _ ⟨v, h1, h2, h3⟩ => ⟨v, h1, h2, bel_nxt hV h3⟩
  have HSP : Hid (∀ V v, Below w4.heap.size w4 V → ProgAt V (.agg #[.int .i64 1, v]) tinyP → Calls Tryd.prog 18 #[.agg #[.int .i64 g, .slice a9 n9 c9], .agg #[.int .i64 1, v]] V fun e w' => e = .returned (.bool true) ∧ Below w4.heap.size w4 w') := Lib.hid fun V v hV hv =>
    (sameP_any tinyP _ _ V (HP3.out.below (hal.trans (hV.mono hal.size))) hv).mono fun _ _ ⟨h1, h2⟩ => ⟨h1, bel_nxt hV h2⟩
  have hbb : Below w4.heap.size w4 w4 := Below.refl _ _
  clear hz0 hz1 hal hszz HD
  go_region_held3 (fun V : World => V.cell? ⟨w3.heap.size, 0, none⟩ = some (.int .i64 g) ∧ V.cell? ⟨w3.heap.size, 1, none⟩ = some (.slice a9 n9 c9)) (first | exact HC.out _ (by assumption) | exact HC.out _ (Below.drew (by assumption)))
    ((first
      | (go_at_call 18; refine (HSP.out _ _ (by assumption) (by assumption)).mono ?_; rintro e V2 ⟨rfl, hv2⟩)
      | (go_at_call 40; refine (HTY.out _ ?_).mono ?_; (first | assumption | exact Below.drew (by assumption)); rintro e V1 ⟨v9, rfl, hp9, hv1⟩)))
  have HV2 := Lib.hid hv2
  clear hv2
  go_wp2_with fail
  go_ret
  exact ⟨rfl, HB3.out.trans ((HAL.out.trans (HV2.out.mono HAL.out.size)).mono HB3.out.size)⟩
end Go.Proofs.YtkeglkneobngnaaDoor

namespace Go.Proofs.YtkeglkneobngnaaDoor
open Go.RowKit Cd As

theorem long_any (s : ByteArray) (w : World) : Calls Tryd.prog 19 #[.string s] w fun e w' => e = .returned (.bool (decide (1500 < s.size))) ∧ w' = w := by
  have h1 : decide ((1500 : Int) < (s.size : Int)) = decide (1500 < s.size) := by
    rw [Bool.eq_iff_iff, decide_eq_true_eq, decide_eq_true_eq]
    omega
  go_enter Tryd.func19, Tryd.ntmps19
  go_wp2_with fail
  go_ret
  exact ⟨by first | rfl | simp [h1], rfl⟩

set_option maxRecDepth 100000 in
set_option maxHeartbeats 6400000 in
theorem asmOnce_any (s : ByteArray) (w : World) (_hs : s.size ≤ maxLen) (hL : RdEnv w) :
    Calls Tryd.prog 6 #[.string s] w fun e w' => e = .returned (.bool true) ∧ Below w.heap.size w w' := by
  have HL := Lib.hid hL
  unfold maxLen at _hs
  have HCD := Lib.hid (spelt_any w hL)
  clear hL
  have HLG : Hid (∀ W, Calls Tryd.prog 19 #[.string s] W fun e w' => e = .returned (.bool (decide (1500 < s.size))) ∧ w' = W) := Lib.hid fun W => long_any s W
  go_enter Tryd.func6, Tryd.ntmps6
  go_wp2_with fail
  refine HCD.out.mono ?_
  rintro e w1 ⟨rfl, hb1⟩
  have HB1 := Lib.hid hb1
  clear hb1 HCD
  go_wp2_with fail
  refine (HLG.out _).mono ?_
  rintro e w2 ⟨rfl, hw2⟩
  have hw3 := hw2.symm
  subst hw3
  clear hw2
  by_cases hlg : 1500 < s.size
  · rw [decide_eq_true hlg]
    go_wp2_with fail
    go_ret
    exact ⟨rfl, HB1.out⟩
  · rw [decide_eq_false hlg]
    have HD := Lib.hid (asmRead_any s w1 (HL.out.below HB1.out))
    have HSL : Hid (s.data.toList.length ≤ 1500) := Lib.hid (by rw [size_data]; omega)
    clear hlg
    cases hra : readA s.data.toList with
    | form k =>
      rw [hra] at HD
      clear hra
      go_wp2_with fail
      refine HD.out.mono ?_
      rintro e w2 ⟨⟨b, rfl, -, -⟩, hb2⟩
      have HB2 := Lib.hid (HB1.out.trans (hb2.mono HB1.out.size))
      have hal := (Below.refl w2.heap.size w2).alloc (Nat.le_refl _) (.cells #[.int .i64 0, .slice none 0 0] 24)
      have HB3 := Lib.hid (HB2.out.trans (hal.mono HB2.out.size))
      clear hb2 hal
      unfold zeroP
      go_wp2_with fail
      go_ret
      exact ⟨rfl, HB3.out⟩
    | err k =>
      rw [hra] at HD
      clear hra
      go_wp2_with fail
      refine HD.out.mono ?_
      rintro e w2 ⟨rfl, hb2⟩
      have HB2 := Lib.hid (HB1.out.trans (hb2.mono HB1.out.size))
      have hal := (Below.refl w2.heap.size w2).alloc (Nat.le_refl _) (.cells #[.int .i64 0, .slice none 0 0] 24)
      have HB3 := Lib.hid (HB2.out.trans (hal.mono HB2.out.size))
      clear hb2 hal
      unfold zeroP
      go_wp2_with fail
      go_ret
      exact ⟨rfl, HB3.out⟩
    | ok p =>
      obtain ⟨hpr, hin⟩ := read_right hra
      have HPE : Hid (progE p = 0) := Lib.hid ((progE_iff _).2 hpr)
      have HAL : Hid ((asmT p).length ≤ 1000000) := Lib.hid (by
        have h1 := asm_len hpr
        have h2 := HSL.out
        omega)
      have HRB : Hid (readA (wrT p).data.toList = .ok p) := Lib.hid (by
        rw [wrT_ok HPE.out]
        exact read_once hra HSL.out)
      have HET : Hid (errV (progE p) = .nilIface) := Lib.hid (by rw [HPE.out]; rfl)
      rw [hra] at HD
      clear hra hpr hin
      go_wp2_with fail
      refine HD.out.mono ?_
      rintro e w2 ⟨⟨v2, rfl, hp2⟩, hb2⟩
      have HP2 := Lib.hid hp2
      have HB2 := Lib.hid (HB1.out.trans (hb2.mono HB1.out.size))
      obtain ⟨_, rfl, a2, n2, c2, rfl, -⟩ := hp2
      obtain ⟨g2, hg2⟩ : ∃ g2, g2 = p.globals := ⟨_, rfl⟩
      rw [← hg2] at HP2 ⊢
      clear hb2 HD hg2
      have hal := (Below.refl w2.heap.size w2).alloc (Nat.le_refl _) (.cells #[.int .i64 g2, .slice a2 n2 c2] 24)
      have HB3 := Lib.hid (HB2.out.trans (hal.mono HB2.out.size))
      have HP3 := Lib.hid (HP2.out.below hal)
      have hz0 := cell_of_row (w2.alloc (.cells #[.int .i64 g2, .slice a2 n2 c2] 24)) w2.heap.size 0 _ _ _ (heap_alloc_new _ _)
      have hz1 := cell_of_row (w2.alloc (.cells #[.int .i64 g2, .slice a2 n2 c2] 24)) w2.heap.size 1 _ _ _ (heap_alloc_new _ _)
      go_upto_region 6 with fail
      clear hal
      obtain ⟨b2, hb2⟩ : ∃ b2, b2 = w2.heap.size := ⟨_, rfl⟩
      try rw [← hb2]
      rw [← hb2] at hz0 hz1
      clear hb2
      generalize w2.alloc (.cells #[.int .i64 g2, .slice a2 n2 c2] 24) = w3 at *
      have HC : Hid (∀ V, Below w3.heap.size w3 V → V.cell? ⟨b2, 0, none⟩ = some (.int .i64 g2) ∧ V.cell? ⟨b2, 1, none⟩ = some (.slice a2 n2 c2) ∧ ProgAt V (.agg #[.int .i64 g2, .slice a2 n2 c2]) p ∧ RdEnv V ∧ Below w.heap.size w V) := Lib.hid fun V hV =>
        ⟨(Keeps.of_new (S := fun _ => False) hV).cell_of hz0 id, (Keeps.of_new (S := fun _ => False) hV).cell_of hz1 id, HP3.out.below hV, HL.out.below (HB3.out.trans (hV.mono HB3.out.size)), HB3.out.trans (hV.mono HB3.out.size)⟩
      have HWR : Hid (∀ V u, RdEnv V → ProgAt V u p → Calls Tryd.prog 14 #[u] V fun e w' => e = .returned (.tuple #[.string (wrT p), .nilIface]) ∧ Below V.heap.size V w') := Lib.hid fun V u hE hu => by
        have := write_any p u V hu (fun _ => HAL.out) hE.tabs hE.pow
        rw [HET.out] at this
        exact this
      obtain ⟨T, hT⟩ : ∃ T, T = wrT p := ⟨_, rfl⟩
      rw [← hT] at HWR HRB
      clear hT
      have hbb : Below w3.heap.size w3 w3 := Below.refl _ _
      obtain ⟨-, -, hp3, he3, -⟩ := HC.out _ hbb
      have HW1 := Lib.hid (HWR.out _ _ he3 hp3)
      clear hp3 he3
      go_wp2_with fail
      refine HW1.out.mono ?_
      rintro e w4 ⟨rfl, hb4⟩
      have HB4 := Lib.hid hb4
      obtain ⟨-, -, -, he4, -⟩ := HC.out _ hb4
      have HD4 := Lib.hid (asmRead_any T w4 he4)
      rw [HRB.out] at HD4
      clear hb4 he4 HW1 hz0 hz1 hbb
      go_wp2_with fail
      refine HD4.out.mono ?_
      rintro e w5 ⟨⟨v5, rfl, hp5⟩, hb5⟩
      have HP5 := Lib.hid hp5
      have HB5 := Lib.hid (HB4.out.trans (hb5.mono HB4.out.size))
      obtain ⟨_, rfl, a5, n5, c5, rfl, -⟩ := hp5
      obtain ⟨g5, hg5⟩ : ∃ g5, g5 = p.globals := ⟨_, rfl⟩
      rw [← hg5] at HP5 ⊢
      clear hb5 HD4 hg5
      have hal := (Below.refl w5.heap.size w5).alloc (Nat.le_refl _) (.cells #[.int .i64 g5, .slice a5 n5 c5] 24)
      have HB6 := Lib.hid (HB5.out.trans (hal.mono HB5.out.size))
      have HP6 := Lib.hid (HP5.out.below hal)
      have hz0 := cell_of_row (w5.alloc (.cells #[.int .i64 g5, .slice a5 n5 c5] 24)) w5.heap.size 0 _ _ _ (heap_alloc_new _ _)
      have hz1 := cell_of_row (w5.alloc (.cells #[.int .i64 g5, .slice a5 n5 c5] 24)) w5.heap.size 1 _ _ _ (heap_alloc_new _ _)
      obtain ⟨b5, hb5⟩ : ∃ b5, b5 = w5.heap.size := ⟨_, rfl⟩
      go_upto_region 10 with fail
      try rw [← hb5]
      rw [← hb5] at hz0 hz1
      clear hal hb5
      generalize w5.alloc (.cells #[.int .i64 g5, .slice a5 n5 c5] 24) = w6 at *
      have HC6 : Hid (∀ V, Below w6.heap.size w6 V → V.cell? ⟨b5, 0, none⟩ = some (.int .i64 g5) ∧ V.cell? ⟨b5, 1, none⟩ = some (.slice a5 n5 c5) ∧ ProgAt V (.agg #[.int .i64 g5, .slice a5 n5 c5]) p ∧ Below w3.heap.size w3 V) := Lib.hid fun V hV =>
        ⟨(Keeps.of_new (S := fun _ => False) hV).cell_of hz0 id, (Keeps.of_new (S := fun _ => False) hV).cell_of hz1 id, HP6.out.below hV, HB6.out.trans (hV.mono HB6.out.size)⟩
      have hbb : Below w6.heap.size w6 w6 := Below.refl _ _
      obtain ⟨-, -, hp6, hq6⟩ := HC6.out _ hbb
      obtain ⟨-, -, -, he6, -⟩ := HC.out _ hq6
      have HW6 := Lib.hid (HWR.out _ _ he6 hp6)
      clear hp6 he6 hq6
      go_wp2_with fail
      refine HW6.out.mono ?_
      rintro e w7 ⟨rfl, hb7⟩
      obtain ⟨d0, d1, hp7, hq7⟩ := HC6.out _ hb7
      obtain ⟨c0, c1, hr7, he7, -⟩ := HC.out _ hq7
      have HSP := Lib.hid (sameP_any p _ _ _ hr7 hp7)
      have HB7 := Lib.hid hq7
      clear hb7 hp7 hq7 hr7 he7 hz0 hz1 hbb HW6
      go_wp2_with fail
      refine HSP.out.mono ?_
      rintro e w8 ⟨rfl, hb8⟩
      have HB8 := Lib.hid (HB7.out.trans (hb8.mono HB7.out.size))
      clear hb8 c0 c1 d0 d1
      go_wp2_with fail
      go_ret
      exact ⟨by simp, (HC.out _ HB8.out).2.2.2.2⟩
end Go.Proofs.YtkeglkneobngnaaDoor

namespace Go.Proofs.YtkeglkneobngnaaDoor
open Go.RowKit Cd As

theorem iface_of_trodA {H : Type} {enc : TypeId × Value → H} {P : Program} {w : World} {base : Nat} {sp : Nat → Bool} {fuel : Nat} {t : TypeId} {cs : List Value} {name : String} {d : DataW H} {p : List MemPlace}
    (ht : ∃ ms, P.underlying t = some (.interface ms)) (h : DataW.trod enc P w base sp false fuel t cs = some (.iface name d, p)) : ∃ u v, cs = [.iface u v] := by
  cases fuel with
  | zero => simp [DataW.trod] at h
  | succ fuel =>
    obtain ⟨ms, ht⟩ := ht
    match cs with
    | [] => simp [DataW.trod, ht] at h
    | a :: b :: r => simp [DataW.trod, ht] at h
    | [a] =>
      cases a <;> first | exact ⟨_, _, rfl⟩ | (simp [DataW.trod, ht] at h; done)
theorem gErrRA : Tryd.prog.globalNamed "strconv.ErrRange" = some 12 := by kernel_rfl
theorem tErrRA : (Tryd.prog.globals[12]?).map (·.type) = some 30 := by kernel_rfl
theorem gErrSA : Tryd.prog.globalNamed "strconv.ErrSyntax" = some 11 := by kernel_rfl
theorem tErrSA : (Tryd.prog.globals[11]?).map (·.type) = some 30 := by kernel_rfl
theorem ifaceAt_of {W : World} {name : String} {g : Nat} {nm : String} {d : DataW Unit} (hgn : Tryd.prog.globalNamed name = some g) (htn : (Tryd.prog.globals[g]?).map (·.type) = some 30) (r : Go.Lib.VarReads Tryd.prog W name (.iface nm d)) : IfaceAt W g := by
  obtain ⟨g2, t, cs, fuel, p, hg, hty, hvar, hd⟩ := r
  obtain rfl := Option.some.inj (hgn.symm.trans hg)
  obtain rfl := Option.some.inj (htn.symm.trans hty)
  obtain ⟨u, v, hcs⟩ := iface_of_trodA ⟨_, Tryd.underlying30⟩ hd
  refine ⟨u, v, ?_⟩
  have := World.var?_cell hgn hvar 0
  rw [this, ← Array.getElem?_toList, hcs]
  rfl
theorem rdEnv_of {W : World} {l : List (String × DataW Unit)} (h : laidMet Tryd.prog l W) (m1 : ("sluiceway/asm.names", Rows.laid_sluiceway_asm_names) ∈ l) (m2 : ("sluiceway/asm.kinds", Rows.laid_sluiceway_asm_kinds) ∈ l)
    (m3 : ("sluiceway/arith.signs", Rows.laid_sluiceway_arith_signs) ∈ l) (m4 : ("strconv.ErrRange", Rows.laid_strconv_ErrRange) ∈ l) (m5 : ("strconv.ErrSyntax", Rows.laid_strconv_ErrSyntax) ∈ l)
    (hp : (l.filter fun x => x.1 == "internal/strconv.uint64pow10") = [("internal/strconv.uint64pow10", Rows.laid_internal_strconv_uint64pow10)]) : RdEnv W := by
  have hN : NamesW W := by
    obtain ⟨g, t, cs, fuel, p, hg, hty, hvar, hd⟩ := Go.Lib.laidMet.reads h m1
    obtain rfl := Option.some.inj (gNames.symm.trans hg)
    obtain rfl := Option.some.inj (tNames.symm.trans hty)
    have hcs := cells_of_tabS (zs := namesB) Tryd.underlying101 Tryd.underlying9 cells_string cells_names hd
    intro n hn
    have := World.var?_cell gNames hvar n
    rw [this, ← Array.getElem?_toList, hcs, List.getElem?_map, List.getD_eq_getElem?_getD, List.getElem?_eq_getElem (show n < namesB.length from hn)]
    rfl
  have hK : KindsW W := by
    obtain ⟨g, t, cs, fuel, p, hg, hty, hvar, hd⟩ := Go.Lib.laidMet.reads h m2
    obtain rfl := Option.some.inj (gKinds.symm.trans hg)
    obtain rfl := Option.some.inj (tKinds.symm.trans hty)
    have hcs := cells_of_tabS (zs := kindsB) Tryd.underlying99 Tryd.underlying9 cells_string cells_kinds hd
    intro n hn
    have := World.var?_cell gKinds hvar n
    rw [this, ← Array.getElem?_toList, hcs, List.getElem?_map, List.getD_eq_getElem?_getD, List.getElem?_eq_getElem (show n < kindsB.length from hn)]
    rfl
  have hS : Signs W := by
    obtain ⟨g, t, cs, fuel, p, hg, hty, hvar, hd⟩ := Go.Lib.laidMet.reads h m3
    obtain rfl := Option.some.inj (gSigns.symm.trans hg)
    obtain rfl := Option.some.inj (tSigns.symm.trans hty)
    have hcs := cells_of_tabS (zs := signsL) Tryd.underlying125 Tryd.underlying9 cells_string cells_signs hd
    intro n hn
    have := World.var?_cell gSigns hvar n
    rw [this, ← Array.getElem?_toList, hcs, List.getElem?_map]
    unfold signL
    rw [List.getD_eq_getElem?_getD, List.getElem?_eq_getElem (show n < signsL.length from hn)]
    rfl
  have hP : Pow W := by
    have h1 := h.filter fun x => x.1 == "internal/strconv.uint64pow10"
    rw [hp] at h1
    exact Lib.tabIs_of_head (rest := []) gPow tPow Tryd.underlying177 Tryd.underlying46 cells_u64 cells_pow h1
  exact ⟨⟨hN, hK, hS⟩, hP, ifaceAt_of gErrRA tErrRA (Go.Lib.laidMet.reads h m4), ifaceAt_of gErrSA tErrSA (Go.Lib.laidMet.reads h m5)⟩
end Go.Proofs.YtkeglkneobngnaaDoor

namespace Go.Proofs.YtkeglkneobngnaaDoor
open Go.RowKit Cd As
theorem asmOnce_laid {W : World} (h : laidMetH Tryd.prog Rows.asmOnceRow.laid W) : RdEnv W := by
  rw [MakeChecks.laidMetH_plain _ _ _ (by kernel_rfl)] at h
  exact rdEnv_of h (by repeat' first | exact List.mem_cons_self .. | apply List.mem_cons_of_mem) (by repeat' first | exact List.mem_cons_self .. | apply List.mem_cons_of_mem) (by repeat' first | exact List.mem_cons_self .. | apply List.mem_cons_of_mem) (by repeat' first | exact List.mem_cons_self .. | apply List.mem_cons_of_mem) (by repeat' first | exact List.mem_cons_self .. | apply List.mem_cons_of_mem) rfl
end Go.Proofs.YtkeglkneobngnaaDoor
